/- full and Size. -/
import Derived.Test.YtbbmjfjedonfaaaDoorMEnter
import Derived.Test.YtbbmjfjedonfaaaDoorMGreed
namespace Go.Proofs.YtbbmjfjedonfaaaDoor.M
open Go.RowKit Go.Shelf
theorem MSt.ext {W0 W : World} {gm : Nat} {rv : Value} {n : Nat} {R : Nat → Nat} {ow : Nat → Option Nat} {pl : Nat → Nat} {E E' : Nat → Prop} (h : MSt W0 W gm rv n R ow pl E) (he : ∀ r, E r ↔ E' r) : MSt W0 W gm rv n R ow pl E' :=
  ⟨h.old, h.new, h.mat, h.st.ext he⟩
theorem MSt.start {W0 W : World} {gm : Nat} {rv : Value} {n : Nat} {R : Nat → Nat} {E : Nat → Prop} (hm : MAt W gm rv (fun _ => 0) (fun _ => none)) (hb : Below W0.heap.size W0 W) (hg : W0.heap.size ≤ gm) (hE : ∀ r, ¬ E r) : MSt W0 W gm rv n R (fun _ => none) (fun _ => 0) E :=
  ⟨hb, hg, hm, (Wst.empty n R _).ext fun r => ⟨fun h => False.elim h, fun h => absurd h (hE r)⟩⟩
/-- What full answers. -/
def FulP (w : World) (rv : Value) (n : Nat) (R : Nat → Nat) (e : Ending) (w' : World) : Prop :=
  (n ≤ 12 ∧ ∃ gm ow pl, e = .returned (.tuple #[.pointer (some ⟨gm, 0, none⟩), .bool true]) ∧ Hid (MSt w w' gm rv n R ow pl (fun r => r < n))) ∨
  (e = .returned (.tuple #[.pointer none, .bool false]) ∧ Hid (Below w.heap.size w w') ∧ Hid (n ≤ 12 → ¬ Ind R (fun r => r < n)))
section
variable {n : Nat} {R : Nat → Nat} {w : World} {oa : Option Addr} {cap : Nat}
set_option maxRecDepth 100000 in
set_option maxHeartbeats 1000000 in
theorem fullF (hA : RwA w (.slice oa n cap) n R) : Calls Tryd.prog 8 #[.slice oa n cap] w (FulP w (.slice oa n cap) n R) := by
  have hA' := hide' hA
  clear hA
  by_cases hn : n ≤ 12
  · have hd : decide ((n : Int) ≤ 12) = true := by simp; omega
    go_enter Tryd.func8, Tryd.ntmps8
    go_wp2_with fail
    refine (fewC oa n cap w).mono ?_
    rintro e w1 ⟨rfl, rfl⟩
    rw [hd]
    go_wp2_with fail
    refine (emptyF oa n cap w1).mono ?_
    rintro e w2 ⟨gm, rfl, hg, hM, hb⟩
    have h0 : Hid (MSt w1 w2 gm (.slice oa n cap) n R (fun _ => none) (fun _ => 0) (fun r => r < 0)) := MSt.start hM.out hb hg (fun r => Nat.not_lt_zero r)
    clear hM hb
    go_wp2
    go_loopw [5, 13] (fun _ p wr => ∃ (c : Nat) (ow : Nat → Option Nat) (pl : Nat → Nat), c ≤ n ∧ p = .int .i64 (c : Int) ∧ Hid (MSt w1 wr gm (.slice oa n cap) n R ow pl (fun r => r < c))) (fun _ p _ => ((n : Int) - intOf p).toNat)
    case atStart => exact ⟨0, _, _, Nat.zero_le _, rfl, h0⟩
    case round =>
      clear h0
      obtain ⟨c, ow, pl, hc, rfl, hS⟩ := hrel
      by_cases hlt : c < n
      · have hlt' : (c : Int) < (n : Int) := by omega
        have KE := hide' (enterF w1 wr gm (.slice oa n cap) n R ow pl _ c hA'.out hS.out hn hlt (Nat.lt_irrefl c))
        go_wp2_with fail
        refine KE.out.mono ?_
        rintro e w3 (⟨rfl, ow', pl', hS'⟩ | ⟨rfl, hS', hno⟩)
        · have hS2 : Hid (MSt w1 w3 gm (.slice oa n cap) n R ow' pl' (fun r => r < c + 1)) := hS'.out.ext fun r => by constructor <;> intro h <;> omega
          clear KE hS hS'
          go_wp2
          exact ⟨⟨c + 1, _, _, by omega, by go_num, hS2⟩, by simp [intOf]; omega⟩
        · have hb : Hid (Below w1.heap.size w1 w3) := hS'.out.old
          have hno' : Hid (n ≤ 12 → ¬ Ind R (fun r => r < n)) := fun _ h => hno.out (h.sub fun r hr => by omega)
          clear KE hS hS' hno
          go_wp2
          go_ret2
          exact .inr ⟨rfl, hb, hno'⟩
      · obtain rfl : c = n := by omega
        go_wp2
        go_ret2
        exact .inl ⟨hn, gm, ow, pl, rfl, hS⟩
  · have hd : decide ((n : Int) ≤ 12) = false := by simp; omega
    go_enter Tryd.func8, Tryd.ntmps8
    go_wp2_with fail
    refine (fewC oa n cap w).mono ?_
    rintro e w1 ⟨rfl, rfl⟩
    rw [hd]
    go_wp2
    go_ret2
    exact .inr ⟨rfl, Below.refl _ _, fun h => absurd h hn⟩
open Classical in
noncomputable def sizeN (R : Nat → Nat) (n : Nat) : Nat := if n ≤ 12 then grN R n else 0
set_option maxRecDepth 100000 in
set_option maxHeartbeats 1000000 in
theorem sizeF (hA : RwA w (.slice oa n cap) n R) : Calls Tryd.prog 15 #[.slice oa n cap] w fun e w' => e = .returned (.int .i64 (sizeN R n : Int)) ∧ Below w.heap.size w w' := by
  have hA' := hide' hA
  clear hA
  unfold sizeN
  by_cases hn : n ≤ 12
  · have hd : decide ((n : Int) ≤ 12) = true := by simp; omega
    rw [if_pos hn]
    go_enter Tryd.func15, Tryd.ntmps15
    go_wp2_with fail
    refine (fewC oa n cap w).mono ?_
    rintro e w1 ⟨rfl, rfl⟩
    rw [hd]
    go_wp2_with fail
    refine (emptyF oa n cap w1).mono ?_
    rintro e w2 ⟨gm, rfl, hg, hM, hb⟩
    have h0 : Hid (MSt w1 w2 gm (.slice oa n cap) n R (fun _ => none) (fun _ => 0) (grE R 0)) := MSt.start hM.out hb hg (fun r h => h)
    clear hM hb
    go_wp2
    go_loopw [3, 5, 13] (fun s _ p wr => ∃ (c : Nat) (ow : Nat → Option Nat) (pl : Nat → Nat) (z : Nat), c ≤ n ∧ p = .int .i64 (c : Int) ∧ s = .int .i64 (z : Int) ∧ z ≤ c ∧ Hid (z = grN R c) ∧ Hid (MSt w1 wr gm (.slice oa n cap) n R ow pl (grE R c))) (fun _ _ p _ => ((n : Int) - intOf p).toNat)
    case atStart => exact ⟨0, _, _, 0, Nat.zero_le _, rfl, rfl, Nat.le_refl _, rfl, h0⟩
    case round =>
      clear h0
      obtain ⟨c, ow, pl, z, hc, rfl, rfl, hzc, hz, hS⟩ := hrel
      by_cases hlt : c < n
      · have hlt' : (c : Int) < (n : Int) := by omega
        have KE := hide' (enterF w1 wr gm (.slice oa n cap) n R ow pl _ c hA'.out hS.out hn hlt (fun h => Nat.lt_irrefl c (grE_lt h)))
        go_wp2_with fail
        refine KE.out.mono ?_
        rintro e w3 (⟨rfl, ow', pl', hS'⟩ | ⟨rfl, hS', hno⟩)
        · have hy := grE_yes hS'.out.st.ind
          have hS2 : Hid (MSt w1 w3 gm (.slice oa n cap) n R ow' pl' (grE R (c + 1))) := hS'.out.ext hy.1
          have hz2 : Hid (z + 1 = grN R (c + 1)) := by show _ = _; rw [hy.2, hz.out]
          clear KE hS hS' hy hz
          go_wp2
          exact ⟨⟨c + 1, _, _, z + 1, by omega, by go_num, by go_num, by omega, hz2, hS2⟩, by simp [intOf]; omega⟩
        · have hy := grE_no hno.out
          have hS2 : Hid (MSt w1 w3 gm (.slice oa n cap) n R ow pl (grE R (c + 1))) := hS'.out.ext hy.1
          have hz2 : Hid (z = grN R (c + 1)) := by show _ = _; rw [hy.2, hz.out]
          clear KE hS hS' hy hz hno
          go_wp2
          exact ⟨⟨c + 1, _, _, z, by omega, by go_num, rfl, by omega, hz2, hS2⟩, by simp [intOf]; omega⟩
      · obtain rfl : c = n := by omega
        go_wp2
        go_ret
        exact ⟨by rw [hz.out]; rfl, hS.out.old⟩
  · have hd : decide ((n : Int) ≤ 12) = false := by simp; omega
    rw [if_neg hn]
    go_enter Tryd.func15, Tryd.ntmps15
    go_wp2_with fail
    refine (fewC oa n cap w).mono ?_
    rintro e w1 ⟨rfl, rfl⟩
    rw [hd]
    go_wp2
    go_ret
    exact ⟨rfl, Below.refl _ _⟩
end
end Go.Proofs.YtbbmjfjedonfaaaDoor.M
