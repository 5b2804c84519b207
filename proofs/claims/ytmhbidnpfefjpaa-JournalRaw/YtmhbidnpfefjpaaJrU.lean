/- Both sides, a call of each later. -/
import Derived.Test.YtmhbidnpfefjpaaJrT
namespace Go.Proofs.Ytmhbidnpfefjpaa
open Go.RowKit
/-- The side's block, both disks, both journals. -/
structure Sp (B s g gb r rb cap n : Nat) (D : Dk) (O : Option (Nat × Nat × Jn)) (W : World) : Prop where
  sk : Sk B g gb r rb cap n D O W
  sb : SbA W s g r (pjV O) (pqV O)
  ls : B ≤ s ∧ B ≤ W.heap.size
theorem Sp.up {B s g gb r rb cap n : Nat} {D : Dk} {O : Option (Nat × Nat × Jn)} {W W' : World} (h : Sp B s g gb r rb cap n D O W) (hb : Below W.heap.size W W') : Sp B s g gb r rb cap n D O W' :=
  ⟨h.sk.up hb, (hb.block s (blk_lt h.sb)).trans h.sb, h.ls.1, Nat.le_trans h.ls.2 hb.size⟩
/-- No block of the journals is one of the others. -/
theorem Sp.jne {B s g gb r rb cap n : Nat} {D : Dk} {gj q : Nat} {J : Jn} {W : World} (h : Sp B s g gb r rb cap n D (some (gj, q, J)) W) : (gj ≠ g ∧ gj ≠ gb ∧ gj ≠ r ∧ gj ≠ rb ∧ gj ≠ s ∧ gj ≠ q) ∧ (q ≠ g ∧ q ≠ gb ∧ q ≠ r ∧ q ≠ rb ∧ q ≠ s) := by
  obtain ⟨h1, h2, _⟩ := h.sk.jn _ rfl
  obtain ⟨cs, h4⟩ := h.sk.rk.blk
  exact ⟨⟨ne_ty h1 h.sk.dk.1 (by decide), ne_ty h1 h.sk.dk.2 (by decide), ne_ty h1 h.sk.rk.bx (by decide), ne_ty h1 h4 (by decide), ne_ty h1 h.sb (by decide), ne_ty h1 h2 (by decide)⟩, ne_ty h2 h.sk.dk.1 (by decide), ne_ty h2 h.sk.dk.2 (by decide), ne_ty h2 h.sk.rk.bx (by decide), ne_ty h2 h4 (by decide), ne_ty h2 h.sb (by decide)⟩
/-- What stands between a call of the program's disk and the same of the document's. -/
theorem Sp.mid {B s g gb r rb cap n : Nat} {D : Dk} {O : Option (Nat × Nat × Jn)} {W w1 : World} (h : Sp B s g gb r rb cap n D O W) (hk1 : Kp g gb W w1) : RkA w1 r rb cap D ∧ SbA w1 s g r (pjV O) (pqV O) := by
  have hne := dk_nes h.sk.dk h.sk.rk h.sb
  exact ⟨h.sk.rk.kp hk1 hne.1.symm hne.2.2.1.symm hne.2.1.symm h.sk.ne.symm, (hk1.block s (blk_lt h.sb) hne.2.2.2.1 hne.2.2.2.2.1).trans h.sb⟩
/-- A call of both disks, alike (Fuse, Restart). -/
theorem Sp.both {B s g gb r rb cap n : Nat} {D D2 : Dk} {O : Option (Nat × Nat × Jn)} {W w1 w2 : World} (h : Sp B s g gb r rb cap n D O W) (hd1 : DkA w1 g gb D2) (hk1 : Kp g gb W w1) (hd2 : RkA w2 r rb cap D2) (hk2 : Kp r rb w1 w2) (hok : DkO D2 n) (hby : B256 D2.bytes) : Sp B s g gb r rb cap n D2 O w2 ∧ Below B W w2 := by
  have hne := dk_nes h.sk.dk h.sk.rk h.sb
  have hm := h.mid hk1
  have hl := h.sk.lo
  have hs := h.ls.2
  have hz1 := hk1.size
  have hz2 := hk2.size
  refine ⟨⟨⟨hd1.kp hk2 hne.1 hne.2.1 hne.2.2.1 h.sk.ne, hd2, hok, hby, h.sk.ne, hl, fun x hx => ?_⟩, (hk2.block s (blk_lt hm.2) hne.2.2.2.2.2.1 hne.2.2.2.2.2.2).trans hm.2, h.ls.1, by omega⟩, (hk1.below hl.1 hl.2.1 hs).trans (hk2.below hl.2.2.1 hl.2.2.2 (by omega))⟩
  subst hx
  obtain ⟨gj, q, J⟩ := x
  obtain ⟨n1, n2⟩ := h.jne
  obtain ⟨a, b, c⟩ := h.sk.jn _ rfl
  exact ⟨(a.kp hk1 n1.1 n1.2.1).kp hk2 n1.2.2.1 n1.2.2.2.1, (b.kp hk1 n2.1 n2.2.1).kp hk2 n2.2.2.1 n2.2.2.2.1, c⟩
/-- What stands between the program's Append and the document's. -/
theorem Sp.midA {B s g gb r rb cap n gj q : Nat} {D : Dk} {J : Jn} {W w1 : World} (h : Sp B s g gb r rb cap n D (some (gj, q, J)) W) (hk1 : Kj g gb gj W w1) : RkA w1 r rb cap D ∧ RjA w1 q r J ∧ SbA w1 s g r (.pointer (some ⟨gj, 0, none⟩)) (.pointer (some ⟨q, 0, none⟩)) := by
  have hne := dk_nes h.sk.dk h.sk.rk h.sb
  obtain ⟨n1, n2⟩ := h.jne
  obtain ⟨a, b, c⟩ := h.sk.jn _ rfl
  obtain ⟨cs, h4⟩ := h.sk.rk.blk
  exact ⟨⟨(hk1.block r (blk_lt h.sk.rk.bx) hne.1.symm hne.2.2.1.symm n1.2.2.1.symm).trans h.sk.rk.bx, own_same h.sk.rk.row (hk1.block rb (blk_lt h4) hne.2.1.symm h.sk.ne.symm n1.2.2.2.1.symm)⟩, (hk1.block q (blk_lt b) n2.1 n2.2.1 n1.2.2.2.2.2.symm).trans b, (hk1.block s (blk_lt h.sb) hne.2.2.2.1 hne.2.2.2.2.1 n1.2.2.2.2.1.symm).trans h.sb⟩
theorem apJ_bd {n : Nat} {D : Dk} {J : Jn} {R : List Nat} (h1 : J.e < n) (h2 : J.c ≤ J.e) : (apJ n D J R).e < n ∧ (apJ n D J R).c ≤ (apJ n D J R).e ∧ (apJ n D J R).b = J.b := by
  by_cases hd : J.dn = true ∨ D.power = false
  · have hK : apK n D J R = .down := by unfold apK; rw [if_pos hd]
    unfold apJ
    rw [hK]
    exact ⟨h1, h2, rfl⟩
  · by_cases hf : n ≤ J.e + 1 + spn R.length
    · have hK : apK n D J R = .full := by unfold apK; rw [if_neg hd, if_pos hf]
      unfold apJ
      rw [hK]
      exact ⟨h1, h2, rfl⟩
    · by_cases hw : wrsOk D (layW J.e J.c R) = true
      · have hK : apK n D J R = .done := by unfold apK; rw [if_neg hd, if_neg hf, if_pos hw]
        unfold apJ
        rw [hK]
        exact ⟨by show J.e + 1 + spn R.length < n; omega, by show J.c + 1 ≤ J.e + 1 + spn R.length; omega, rfl⟩
      · have hK : apK n D J R = .cut := by unfold apK; rw [if_neg hd, if_neg hf, if_neg hw]
        unfold apJ
        rw [hK]
        exact ⟨h1, h2, rfl⟩
/-- An Append of both. -/
theorem Sp.app {B s g gb r rb cap n gj q : Nat} {D : Dk} {J : Jn} {R : List Nat} {W w1 w2 : World} (h : Sp B s g gb r rb cap n D (some (gj, q, J)) W) (hd1 : DkA w1 g gb (apD n D J R)) (hj1 : JnA w1 gj g (apJ n D J R)) (hk1 : Kj g gb gj W w1) (hb1 : w1.heap.size ≤ w2.heap.size) (hd2 : RkA w2 r rb cap (apD n D J R)) (hj2 : RjA w2 q r (apJ n D J R)) (hk2 : Kj r rb q w1 w2) (hok : DkO (apD n D J R) n) (hR : B256 R) : Sp B s g gb r rb cap n (apD n D J R) (some (gj, q, apJ n D J R)) w2 ∧ Below B W w2 := by
  have hne := dk_nes h.sk.dk h.sk.rk h.sb
  have hm := h.midA hk1
  have hl := h.sk.lo
  have hs := h.ls.2
  have hz1 := hk1.size
  obtain ⟨n1, n2⟩ := h.jne
  obtain ⟨a, b, c1, c2, c3, c4, c5⟩ := h.sk.jn _ rfl
  refine ⟨⟨⟨⟨(hk2.block g (blk_lt hd1.1) hne.1 hne.2.1 n2.1.symm).trans hd1.1, (hk2.block gb (blk_lt hd1.2) hne.2.2.1 h.sk.ne n2.2.1.symm).trans hd1.2⟩, hd2, hok, ap_256 h.sk.by256 hR, h.sk.ne, hl, fun x hx => ?_⟩, (hk2.block s (blk_lt hm.2.2) hne.2.2.2.2.2.1 hne.2.2.2.2.2.2 n2.2.2.2.2.symm).trans hm.2.2, h.ls.1, by omega⟩, (hk1.below hl.1 hl.2.1 c4 hs).trans (hk2.below hl.2.2.1 hl.2.2.2 c5 (by omega))⟩
  cases hx
  refine ⟨(hk2.block gj (blk_lt hj1) n1.2.2.1 n1.2.2.2.1 n1.2.2.2.2.2).trans hj1, hj2, ?_⟩
  have e1 : J.e < n := c1
  have e2 : J.c ≤ J.e := c2
  have e3 : J.b < 4294967296 := c3
  have hJ := apJ_bd (n := n) (D := D) (J := J) (R := R) e1 e2
  exact ⟨hJ.1, hJ.2.1, by rw [show (gj, q, apJ n D J R).2.2.b = J.b from hJ.2.2]; exact e3, c4, c5⟩
end Go.Proofs.Ytmhbidnpfefjpaa
