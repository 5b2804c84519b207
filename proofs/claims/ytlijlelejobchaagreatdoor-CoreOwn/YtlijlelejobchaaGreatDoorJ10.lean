/- Least: the first full matching. -/
import Derived.Test.YtlijlelejobchaaGreatDoorJ02
import Derived.Test.YtlijlelejobchaaGreatDoorJ09
namespace Go.Proofs.YtlijlelejobchaaGreatDoor.M
open Go.RowKit Go.Shelf
/-- The places of the first rows. -/
def plL (pl : Nat → Nat) (n : Nat) : List Int := (List.range n).map fun r => (pl r : Int)
theorem plL_len (pl : Nat → Nat) (n : Nat) : (plL pl n).length = n := by simp [plL]
theorem plL_at {pl : Nat → Nat} {n i : Nat} {z : Int} (h : (plL pl n)[i]? = some z) : i < n ∧ z = (pl i : Int) := by
  have hi := (List.getElem?_eq_some_iff.1 h).1
  rw [plL_len] at hi
  simp only [plL, List.getElem?_map, List.getElem?_range hi, Option.map_some, Option.some.injEq] at h
  exact ⟨hi, h.symm⟩
theorem KAt.mkV {W : World} {g : Nat} {S : Nat → Bool} (h : KAt W g S) : ∃ A, W.heap[g]? = some (.cells A 123 (0, 0)) ∧ MkV A S := by
  obtain ⟨c, h1, h2, h3⟩ := h
  exact ⟨c, h1, h2, h3⟩
theorem owns_lowM {W : World} {B B' : Nat} {e : TypeId} {size : Nat} {v : Value} {n : Nat} {xs : List Value} (h : W.ownsRow B e size v n xs) (hB : B' ≤ B) : W.ownsRow B' e size v n xs := by
  refine ⟨h.1, ?_⟩
  rcases h.2 with hn | ⟨g, cap, cur, rfl, hb0, rest⟩
  · exact .inl hn
  · exact .inr ⟨g, cap, cur, rfl, Nat.le_trans hB hb0, rest⟩
theorem slice12 (gm c : Nat) (hc : c ≤ 12) (w : World) : (Instr.sliceAt 125 (.pointer (some ⟨gm, 1, none⟩)) none (some (.int .i64 (c : Int))) none).run Tryz.prog w = .ok (.slice (some ⟨gm, 1, none⟩) c 12) w := by
  have h1 : (c : Int) ≤ 12 := by omega
  unfold Instr.sliceAt
  go_simp
/-- What Least answers. -/
def LeaP (w : World) (n : Nat) (R : Nat → Nat) (e : Ending) (w' : World) : Prop :=
  Hid (Below w.heap.size w w') ∧ ((n ≤ 12 ∧ ∃ pl v, e = .returned (.tuple #[v, .bool true]) ∧ Hid (Lex n R pl n) ∧ Hid (w'.ownsRow w.heap.size 3 1 v n (I.cellsI (plL pl n)))) ∨
    (e = .returned (.tuple #[.slice none 0 0, .bool false]) ∧ Hid (n ≤ 12 → ¬ Ind R (fun r => r < n))))
/-- What stands between the rows. -/
structure LeI (w : World) (gm gs : Nat) (rv : Value) (n : Nat) (R : Nat → Nat) (k : Nat) (S : Nat → Bool) (ow : Nat → Option Nat) (pl : Nat → Nat) (V : World) : Prop where
  mst : MSt w V gm rv n R ow pl (fun r => r < n)
  mks : KAt V gs S
  set : ∀ v, S v = true ↔ ∃ j, j < k ∧ pl j = v
  lex : Lex n R pl k
  new : w.heap.size ≤ gs
  ne : gs ≠ gm
section
variable {n : Nat} {R : Nat → Nat} {w : World} {oa : Option Addr} {cap : Nat}
set_option maxRecDepth 100000 in
set_option maxHeartbeats 2000000 in
theorem leastF (hA : RwA w (.slice oa n cap) n R) : Calls Tryz.prog 57 #[.slice oa n cap] w (LeaP w n R) := by
  have KF := hide' (fullF hA)
  have hA' := hide' hA
  clear hA
  go_enter Tryz.func57, Tryz.ntmps57
  go_wp2_with fail
  refine KF.out.mono ?_
  rintro e w1 (⟨hn, gm, ow, pl, rfl, hM⟩ | ⟨rfl, hb, hno⟩)
  · have h0 : Hid (LeI w gm w1.heap.size (.slice oa n cap) n R 0 (fun _ => false) ow pl (w1.alloc (.cells (List.replicate 64 (Value.bool false)).toArray 123))) := by
      have hb1 : Below w1.heap.size w1 (w1.alloc (.cells (List.replicate 64 (Value.bool false)).toArray 123)) := (Below.refl _ _).alloc (Nat.le_refl _) _
      have := hM.out.mat.lt
      exact ⟨hM.out.below hb1, mks0 w1, fun v => ⟨fun h => absurd h (by decide), fun ⟨_, h, _⟩ => absurd h (Nat.not_lt_zero _)⟩, ⟨hM.out.st.full, fun j hj => absurd hj (Nat.not_lt_zero _)⟩, hM.out.old.size, by omega⟩
    clear KF hM
    go_wp2
    go_loopw [7, 17] (fun _ p wr => ∃ (c : Nat) (S : Nat → Bool) (ow : Nat → Option Nat) (pl : Nat → Nat), c ≤ n ∧ p = .int .i64 (c : Int) ∧ Hid (LeI w gm w1.heap.size (.slice oa n cap) n R c S ow pl wr)) (fun _ p _ => ((n : Int) - intOf p).toNat)
    case atStart => exact ⟨0, _, ow, pl, Nat.zero_le _, rfl, h0⟩
    case round =>
      clear h0
      obtain ⟨c, S, ow, pl, hc, rfl, hI⟩ := hrel
      by_cases hlt : c < n
      · have hlt' : (c : Int) < (n : Int) := by omega
        obtain ⟨A, hAb, hV⟩ := hI.out.mks.mkV
        have hSr : S (pl c) = false := by
          cases e : S (pl c)
          · rfl
          · obtain ⟨j, hj, hp⟩ := (hI.out.set _).1 e
            have := hI.out.mst.st.full.inj j c (by omega) hlt hp
            omega
        have KS := hide' (settleF w wr gm (.slice oa n cap) n R ow pl S c A hV hA'.out hI.out.mst hn hlt (fun v hv => by
          obtain ⟨j, hj, hp⟩ := (hI.out.set v).1 hv
          exact ⟨j, by omega, hp⟩) hSr)
        have hinf : (Tryz.prog.info? 123).map (·.size) = some A.size := by rw [hV.1]; exact infoMk
        go_wp2_with (refine wpList_load_row rfl 123 _ rfl w1.heap.size rfl _ A _ _ hAb Tryz.underlying123 rfl hinf ?_)
        refine KS.out.mono ?_
        rintro e w3 ⟨ow', pl', rfl, hM3, hP3, hF3⟩
        have hp64 : pl' c < 64 := (hM3.out.st.own _ c id (hM3.out.st.has c hlt).2).1
        have hKs : Hid (KAt w3 w1.heap.size S) := hI.out.mks.of (hF3.out.block _ hI.out.mks.lt hI.out.ne hI.out.ne)
        have hst := settle_step hI.out.mst.st hM3.out.st hlt hI.out.set hI.out.lex hP3.out.1 hP3.out.2
        have hI2 : Hid (LeI w gm w1.heap.size (.slice oa n cap) n R (c + 1) (upd S (pl' c) true) ow' pl' (w3.setCell ⟨w1.heap.size, pl' c, none⟩ (.bool true))) :=
          ⟨⟨hM3.out.old.setCell hI.out.new _, hM3.out.new, hM3.out.mat.setOther hI.out.ne.symm _, hM3.out.st⟩, hKs.out.set _ _, hst.1, hst.2, hI.out.new, hI.out.ne⟩
        have ck := hKs.out.cell hp64
        have fk := hKs.out.frz (pl' c)
        have hp64' : ((pl' c : Nat) : Int) < 64 := by omega
        clear KS hI hM3 hP3 hF3 hKs hst hAb hV
        generalize pl' c = pp at *
        go_wp2
        exact ⟨⟨c + 1, _, _, _, by omega, by go_num, hI2⟩, by simp [intOf]; omega⟩
      · obtain rfl : c = n := by omega
        have hsl := slice12 gm c hn wr
        have hRI : I.RowI wr (.slice (some ⟨gm, 1, none⟩) c 12) (plL pl c) := by
          refine ⟨some ⟨gm, 1, none⟩, 12, by rw [plL_len], ⟨by rw [plL_len]; exact hn, fun e => by cases e⟩, fun i z hz => ?_⟩
          obtain ⟨hi, rfl⟩ := plL_at hz
          exact ⟨gm, 1, rfl, hI.out.mst.mat.cellP (by omega)⟩
        have KC := hide' (I.clone (plL pl c) _ wr hRI (by rw [plL_len]; omega))
        have hold := hide' hI.out.mst.old
        have hlex := hide' hI.out.lex
        clear hI hRI
        go_wp2_with fail
        refine KC.out.mono ?_
        rintro e w3 ⟨v', rfl, hown, hb3⟩
        have hown' := hide' hown
        have hB : Hid (Below w.heap.size w w3) := hold.out.trans (hb3.mono hold.out.size)
        have hs := hold.out.size
        clear KC hown hb3 hold hsl
        go_wp2
        go_ret2
        refine ⟨hB, .inl ⟨hn, pl, v', rfl, hlex, ?_⟩⟩
        have := hown'.out
        rw [plL_len] at this
        exact owns_lowM this hs
  · go_wp2
    go_ret2
    exact ⟨hb, .inr ⟨rfl, hno⟩⟩
end
end Go.Proofs.YtlijlelejobchaaGreatDoor.M
