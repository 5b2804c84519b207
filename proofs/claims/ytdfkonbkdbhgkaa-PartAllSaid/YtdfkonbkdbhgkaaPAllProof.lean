/- For every two ints PartAll returns true and leaves its arguments as they read; no condition. -/
import Derived.Test.YtdfkonbkdbhgkaaPAllLaw
import Derived.ChangeSlices
import Derived.ProofKit
import Derived.OpenShut
import Derived.Carry
import Derived.JoinedOf
namespace Go.Proofs.Ytdfkonbkdbhgkaa
open Go.ChangeShapes Go.WideShapes Go.ChangeAt Go.RowKit
theorem SeqP.mono {α : Type} {n : Nat} {P : Program} {g : Nat} {lb : Array Value} {encs : α → Array Value} {Hx Hx' : List α → Nat → World → World → α → Prop} {S S' Sp Sp' : List α → Prop} {w : World} (h : SeqP n P g lb encs Hx S Sp w)
    (h1 : ∀ pre g V0 V x, Hx pre g V0 V x → Hx' pre g V0 V x) (h2 : ∀ xs, S xs → S' xs) (h3 : ∀ xs, Sp xs → Sp' xs) : SeqP n P g lb encs Hx' S' Sp' w := by
  intro l J Jx W hW hJ hY h0
  refine (h l J Jx W hW hJ (fun pre x V0 V hj hx => hY pre x V0 V hj (h1 _ _ _ _ _ hx)) h0).mono fun e W' he => ?_
  obtain ⟨hv, he⟩ := he
  exact ⟨hv, he.imp (fun ⟨xs, a, b⟩ => ⟨xs, h2 _ a, b⟩) (fun ⟨xs, a, b⟩ => ⟨xs, h3 _ a, b⟩)⟩
theorem partAll_calls (z stop : Int) (w : World) : Calls Try.prog 3 #[.int .i64 z, .int .i64 stop] w fun e w' => e = .returned (.bool true) ∧ Below w.heap.size w w' := by
  obtain ⟨most, hmost⟩ : ∃ most : Nat, (0 ≤ stop ∧ stop < 1000 ∧ stop = (most : Int)) ∨ (¬ (0 ≤ stop ∧ stop < 1000) ∧ most = 1000) := by
    by_cases h : 0 ≤ stop ∧ stop < 1000
    · exact ⟨stop.toNat, .inl ⟨h.1, h.2, by omega⟩⟩
    · exact ⟨1000, .inr ⟨h, rfl⟩⟩
  refine (callsIn_wide (n := 9)).1 ?_
  by_cases hf : 0 ≤ z ∧ z ≤ 25
  · obtain ⟨n, rfl⟩ : ∃ n : Nat, z = n := ⟨z.toNat, by omega⟩
    exact partAll_walk n stop True n (ways n 0) most (fun _ => ⟨by omega, rfl, rfl⟩) hmost (ways_small (by omega))
      (fun W Bn h1 h2 => (allT_seq 8 Bn n (by omega) W h1 h2).mono (fun _ _ _ _ _ h => ⟨trivial, h⟩) (fun _ h => h) (fun _ h => h)) 0 (.inl rfl) (fun W => bellP n (by omega) W) w
  · exact partAll_walk z stop False 0 0 most (fun h => h.elim) hmost (by omega)
      (fun W Bn h1 h2 => (allF_seq 8 Bn z hf (fun _ _ _ _ _ => False) W h1 h2).mono (fun _ _ _ _ _ h => h.elim) (fun _ h => by rw [h]; rfl) (fun _ h => h.elim)) 1 (.inr ⟨rfl, rfl⟩) (fun W => (bellF z hf W).mono fun e w' ⟨h1, h2⟩ => ⟨h1, h2 ▸ Below.refl _ _⟩) w
theorem own : ownKnob Try.prog.godebug = none := by kernel_rfl
set_option maxRecDepth 100000 in
theorem partAll_lifted (os : Os) (started : os.Started) (H : Type) (enc : TypeId × Value → H) :
    ReturnsInHanded {} Try.checked os 3 .any (Rows.partAllSpec.pre6 enc Try.prog Try.f3 Rows.partAllRow.domain false) (Rows.partAllSpec.post enc Try.prog Try.f3 false true false false) := by
  refine returnsInHanded_of_change (C := Try.checked) own started (by kernel_rfl) Try.func3
    (ChangeSpec.witness6 (enc := enc) (C := Try.checked) false ⟨#[], #[.int .i64 0, .int .i64 0], []⟩ 8 (by kernel_rfl) (by kernel_rfl) (by kernel_rfl) (by kernel_rfl)) ?_
  intro W base args ds gs before hval0 hW _ _
  have hval : ∀ (j : Nat) t v, Try.f3.params[j]? = some t → args[j]? = some v → Value.okWide Try.prog W .any base t v := hval0
  have hW' := hW
  obtain ⟨p, q, hA0, hV, rfl, hfz, hnd⟩ := hW
  have hA : DataW.TrodAll enc Try.prog W 0 (fun _ => true) true Try.f3.params.toList args.toList ds p := hA0
  rw [Try.params3] at hA hval
  obtain ⟨v0, vs0, d0, ds0, p0, q0, hargs, rfl, rfl, h0, r0⟩ := trodAll_cons hA
  obtain ⟨v1, vs1, d1, ds1, p1, q1, rfl, rfl, rfl, h1, r1⟩ := trodAll_cons r0
  obtain ⟨rfl, rfl, rfl⟩ := trodAll_nil r1
  obtain rfl : args = #[v0, v1] := by cases args; simp_all
  obtain ⟨rfl, rfl⟩ := trodVars_none hV
  obtain ⟨a0, rfl, rfl, rfl, w0⟩ := open_int Try.underlying3 (hval 0 3 v0 rfl rfl) h0
  obtain ⟨a1, rfl, rfl, rfl, w1⟩ := open_int Try.underlying3 (hval 1 3 v1 rfl rfl) h1
  clear hA0 hval0
  simp only [List.append_nil] at hW'
  refine (partAll_calls a0 a1 W).mono fun e W' ⟨he, hB⟩ => ?_
  subst he
  refine ⟨_, rfl, _, _, _, [], [], [], hW', ?_, ?_, ?_, hB.frame _, fun h => by cases h⟩
  · exact trodAll_mk1 (shut_bool Try.underlying4 true)
  · exact trodAll_cons_mk (shut_int Try.underlying3 w0) (trodAll_cons_mk (shut_int Try.underlying3 w1) trodAll_mk0)
  · rfl
theorem partAll_holds : Rows.PartAllSaid :=
  OpenClaim.holds_of_wide 3 Try.f3 rfl rfl rfl rfl rfl rfl rfl ⟨rfl, rfl, rfl, rfl, rfl⟩ rfl rfl rfl rfl rfl (by kernel_rfl) Try.func3 (by kernel_rfl)
    (of_decide_eq_true (by kernel_rfl)) (by unfold Func.isWrapper; rw [if_neg (of_decide_eq_false (by kernel_rfl))]; exact ⟨rfl, rfl⟩)
    (fun os started H enc _ => partAll_lifted os started H enc)
#print axioms partAll_holds
end Go.Proofs.Ytdfkonbkdbhgkaa
