/- DiskExact, walked. -/
import Derived.Test.YtkabileeincjaaaDkPl
namespace Go.Proofs.Ytkabileeincjaaa
open Go.RowKit
theorem Pz.up {lo hi g gb r rb cap n c : Nat} {D : Dk} {V V' : World} (h : Pz lo hi g gb r rb cap n c D V) (hb : Below V.heap.size V V') : Pz lo hi g gb r rb cap n c D V' := by
  obtain ⟨cs, hk⟩ := h.rk.blk
  exact ⟨h.dk.below hb (Nat.le_refl _), ⟨(hb.block r (blk_lt h.rk.bx)).trans h.rk.bx, own_same h.rk.row (hb.block rb (blk_lt hk))⟩, h.ok, h.wr, h.ne, h.b1, h.b2, h.b3, h.b4, Nat.le_trans h.top hb.size⟩
theorem Pz.kr {lo hi g gb r rb cap n c lo' hi' : Nat} {D : Dk} {V V' : World} (h : Pz lo hi g gb r rb cap n c D V) (k : Kr lo' hi' V V') (hd : hi ≤ lo' ∨ hi' ≤ lo) : Pz lo hi g gb r rb cap n c D V' := by
  obtain ⟨cs, hk⟩ := h.rk.blk
  have b1 := h.b1
  have b2 := h.b2
  have b3 := h.b3
  have b4 := h.b4
  exact ⟨⟨(k.block g (blk_lt h.dk.1) (by omega)).trans h.dk.1, (k.block gb (blk_lt h.dk.2) (by omega)).trans h.dk.2⟩, ⟨(k.block r (blk_lt h.rk.bx) (by omega)).trans h.rk.bx, own_same h.rk.row (k.block rb (blk_lt hk) (by omega))⟩, h.ok, h.wr, h.ne, h.b1, h.b2, h.b3, h.b4, Nat.le_trans h.top k.size⟩
/-- One side: a disk and the document's, or neither. -/
def Sd (lo hi c : Nat) (pv rv : Value) (V : World) : Prop :=
  (pv = .pointer none ∧ rv = .pointer none) ∨ ∃ g gb r rb cap n D, pv = .pointer (some ⟨g, 0, none⟩) ∧ rv = .pointer (some ⟨r, 0, none⟩) ∧ Hid (Pz lo hi g gb r rb cap n c D V)
theorem Sd.up {lo hi c : Nat} {pv rv : Value} {V V' : World} (h : Sd lo hi c pv rv V) (hb : Below V.heap.size V V') : Sd lo hi c pv rv V' := by
  rcases h with h | ⟨g, gb, r, rb, cap, n, D, e1, e2, h⟩
  · exact .inl h
  · exact .inr ⟨g, gb, r, rb, cap, n, D, e1, e2, h.out.up hb⟩
theorem Sd.kr {lo hi c lo' hi' : Nat} {pv rv : Value} {V V' : World} (h : Sd lo hi c pv rv V) (k : Kr lo' hi' V V') (hd : hi ≤ lo' ∨ hi' ≤ lo) : Sd lo hi c pv rv V' := by
  rcases h with h | ⟨g, gb, r, rb, cap, n, D, e1, e2, h⟩
  · exact .inl h
  · exact .inr ⟨g, gb, r, rb, cap, n, D, e1, e2, h.out.kr k hd⟩
theorem Sd.mono {lo hi c c' : Nat} {pv rv : Value} {V : World} (h : Sd lo hi c pv rv V) (hc : c ≤ c') : Sd lo hi c' pv rv V := by
  rcases h with h | ⟨g, gb, r, rb, cap, n, D, e1, e2, h⟩
  · exact .inl h
  · exact .inr ⟨g, gb, r, rb, cap, n, D, e1, e2, h.out.mono hc⟩
/-- Half a side: the program's disk, and which one the document's will be. -/
def Sh (lo : Nat) (ok : Prop) (D : Dk) (pv ev : Value) (V : World) : Prop :=
  (¬ ok ∧ pv = .pointer none ∧ ev = .int .i64 1) ∨ (ok ∧ ev = .int .i64 0 ∧ ∃ g gb, pv = .pointer (some ⟨g, 0, none⟩) ∧ Hid (DkA V g gb D) ∧ Hid (lo ≤ g ∧ lo ≤ gb))
theorem side_of {lo n : Nat} {D : Dk} {V V' : World} {g gb r rb cap : Nat} (hd : DkA V g gb D) (hl : lo ≤ g ∧ lo ≤ gb) (hk : DkO D n) (hw : D.writes = 0) (hr : RkA V' r rb cap D) (hg : V.heap.size ≤ r ∧ V.heap.size ≤ rb) (hb : Below V.heap.size V V') : Pz lo V'.heap.size g gb r rb cap n 0 D V' := by
  obtain ⟨cs, hk2⟩ := hr.blk
  have l1 := blk_lt hd.1
  have l2 := blk_lt hd.2
  have l3 := blk_lt hr.bx
  have l4 := blk_lt hk2
  have l5 := hb.size
  exact ⟨hd.below hb (Nat.le_refl _), hr, hk, by omega, by omega, ⟨hl.1, by omega⟩, ⟨hl.2, by omega⟩, ⟨by omega, l3⟩, ⟨by omega, l4⟩, Nat.le_refl _⟩
set_option maxRecDepth 100000 in
set_option maxHeartbeats 4000000 in
theorem diskExact_walk (b : Int) (I : List Nat) (iv : Value) (O : List Oc) (ov : Value) (w : World) (hi : RowC w iv I) (hr : RowO w ov O) (hn : ∀ p ∈ O, p.n < 9223372036854775808) : Calls Try.prog 3 #[.int .i64 b, iv, ov] w fun e w' => e = .returned (.bool true) ∧ Below w.heap.size w w' := by
  have hO := hide' hr
  have hI := hide' hi
  have hn' := hide' hn
  obtain ⟨oa, cap, rfl, _, _⟩ := hr
  obtain ⟨ia, icap, rfl, _, _⟩ := hi
  generalize hm : O.length = m at *
  have hm' := hide' hm
  generalize hli : I.length = li at *
  clear hm hli hn
  go_enter Try.func3, Try.ntmps3
  go_upto_region 1 with fail
  go_cut [7, 8] from 16 to 20 (fun pv ev wx => Hid (Sh w.heap.size (1 ≤ b ∧ b ≤ 65536) (newD b.toNat) pv ev wx) ∧ Hid (Below w.heap.size w wx))
  case first => as_aux_lemma =>
    by_cases hb : 1 ≤ b ∧ b ≤ 65536
    · obtain ⟨n, rfl⟩ : ∃ n : Nat, b = (n : Int) := ⟨b.toNat, by omega⟩
      have K := hide' (newF n w (by omega) (by omega))
      unfold NewP at K
      go_wp2_with fail
      refine K.out.mono ?_
      rintro e w1 ⟨g, gb, rfl, hd, hge, hbl⟩
      go_wp2
      go_meet
      case rel => exact ⟨.inr ⟨hb, rfl, g, gb, rfl, hd, hge⟩, hbl⟩
    · have K := hide' (newBad b w (by omega))
      go_wp2_with fail
      refine K.out.mono ?_
      rintro e w1 ⟨rfl, hw1⟩
      obtain rfl : w = w1 := hw1.symm
      go_wp2
      go_meet
      case rel => exact ⟨.inl ⟨hb, rfl, rfl⟩, Below.refl _ _⟩
  case rest =>
  obtain ⟨hA, hB⟩ := hcut
  go_upto_region 2 with fail
  go_cut [9, 10] from 21 to 25 (fun rv fv wx => (∃ x, u8 = .int .i64 x ∧ fv = .int .i64 x) ∧ Hid (Sd w.heap.size wx.heap.size 0 u7 rv wx) ∧ Hid (Below w.heap.size w wx))
  case first => as_aux_lemma =>
    rcases hA.out with ⟨hb, rfl, rfl⟩ | ⟨hb, rfl, g, gb, rfl, hd, hge⟩
    · have K := hide' (rNewBad b wc (by omega))
      go_wp2_with fail
      refine K.out.mono ?_
      rintro e w1 ⟨rfl, hw1⟩
      obtain rfl : wc = w1 := hw1.symm
      go_wp2
      go_meet
      case rel => exact ⟨⟨_, rfl, rfl⟩, .inl ⟨rfl, rfl⟩, hB⟩
    · obtain ⟨n, rfl⟩ : ∃ n : Nat, b = (n : Int) := ⟨b.toNat, by omega⟩
      rw [Int.toNat_natCast] at hd
      have K := hide' (rNewF n wc (by omega) (by omega))
      unfold RnP at K
      go_wp2_with fail
      refine K.out.mono ?_
      rintro e w1 ⟨r, rb, rcap, rfl, hrd, hrge, hbl⟩
      have hP := hide' (side_of hd.out hge.out (newD_ok (n := n) (by omega) (by omega)) rfl hrd.out hrge.out hbl.out)
      go_wp2
      go_meet
      case rel => exact ⟨⟨_, rfl, rfl⟩, .inr ⟨_, _, _, _, _, _, _, rfl, rfl, hP⟩, hB.out.trans (hbl.out.mono hB.out.size)⟩
  case rest =>
  clear hA hB
  obtain ⟨⟨x, rfl, rfl⟩, hA, hB⟩ := hcut
  obtain ⟨m1, hm1⟩ : ∃ m1, m1 = wc.heap.size := ⟨_, rfl⟩
  rw [← hm1] at hA
  have hmw : Hid (w.heap.size ≤ m1) := by rw [hm1]; exact hB.out.size
  have hm1' : Hid (m1 ≤ wc.heap.size) := Nat.le_of_eq hm1
  clear hm1
  have KF : Hid (∀ V, Below w.heap.size w V → Calls Try.prog 10 #[.slice ia li icap] V fun e w' => ∃ v', e = .returned v' ∧ w'.ownsRow V.heap.size 5 1 v' (I.take 2000).length (cellsB (I.take 2000)) ∧ Below V.heap.size V w') := fun V hV => fewF I _ V (hI.out.below hV (Nat.le_refl _))
  have hle : Hid ((I.take 2000).length ≤ 2000) := by
    show (I.take 2000).length ≤ 2000
    rw [List.length_take]
    omega
  generalize I.take 2000 = L at *
  go_upto_region 3 with fail
  go_cut [11, 12] from 26 to 31 (fun pv ev wx => Hid (Sh m1 (L.length % 16 = 0 ∧ 0 < L.length) (ldD L) pv ev wx) ∧ Hid (Sd w.heap.size m1 0 u7 u9 wx) ∧ Hid (Below w.heap.size w wx) ∧ Hid (m1 ≤ wx.heap.size))
  case first => as_aux_lemma =>
    go_wp2_with fail
    refine (KF.out _ hB.out).mono ?_
    rintro e w3 ⟨v3, rfl, hown3, hb3⟩
    have hrow3 := RowC.of_owns hown3
    have hA3 := hide' (hA.out.up hb3)
    have hB3 := hide' (hB.out.trans (hb3.mono hB.out.size))
    by_cases hok : L.length % 16 = 0 ∧ 0 < L.length
    · obtain ⟨n, hn⟩ : ∃ n, L.length = 16 * n := ⟨L.length / 16, by omega⟩
      have hle' := hle.out
      have K := hide' (loadF L n v3 w3 hrow3 hn (by omega) (by omega))
      unfold NewP at K
      have hsz := hide' hb3.size
      clear hown3 hb3 hrow3 hn hle'
      go_wp2_with fail
      refine K.out.mono ?_
      rintro e w4 ⟨g, gb, rfl, hd, hge, hbl⟩
      go_wp2
      go_meet
      case rel => exact ⟨.inr ⟨hok, rfl, g, gb, rfl, hd, (by have := hge.out; have := hsz.out; have := hm1'.out; exact ⟨by omega, by omega⟩)⟩, hA3.out.up hbl.out, hB3.out.trans (hbl.out.mono hB3.out.size), Nat.le_trans hm1'.out (Nat.le_trans hsz.out hbl.out.size)⟩
    · have hsz := hide' hb3.size
      have K := hide' (loadBad L v3 w3 hrow3 (by omega) hle.out)
      clear hown3 hb3 hrow3
      go_wp2_with fail
      refine K.out.mono ?_
      rintro e w4 ⟨rfl, hw1⟩
      obtain rfl : w3 = w4 := hw1.symm
      go_wp2
      go_meet
      case rel => exact ⟨.inl ⟨hok, rfl, rfl⟩, hA3, hB3, Nat.le_trans hm1'.out hsz.out⟩
  case rest =>
  clear hA hB
  obtain ⟨hD, hA, hB, hmz⟩ := hcut
  go_upto_region 4 with fail
  go_cut [13, 14] from 32 to 37 (fun rv fv wx => (∃ y, u12 = .int .i64 y ∧ fv = .int .i64 y) ∧ Hid (Sd m1 wx.heap.size 0 u11 rv wx) ∧ Hid (Sd w.heap.size m1 0 u7 u9 wx) ∧ Hid (Below w.heap.size w wx) ∧ Hid (m1 ≤ wx.heap.size))
  case first => as_aux_lemma =>
    go_wp2_with fail
    refine (KF.out _ hB.out).mono ?_
    rintro e w3 ⟨v3, rfl, hown3, hb3⟩
    have hrow3 := RowC.of_owns hown3
    have hA3 := hide' (hA.out.up hb3)
    have hB3 := hide' (hB.out.trans (hb3.mono hB.out.size))
    have hsz := hide' (Nat.le_trans hmz.out hb3.size)
    rcases hD.out with ⟨hok, rfl, rfl⟩ | ⟨hok, rfl, g, gb, rfl, hd, hge⟩
    · have K := hide' (rLoadBad L v3 w3 hrow3 (by omega) hle.out)
      clear hown3 hb3 hrow3
      go_wp2_with fail
      refine K.out.mono ?_
      rintro e w4 ⟨rfl, hw1⟩
      obtain rfl : w3 = w4 := hw1.symm
      go_wp2
      go_meet
      case rel => exact ⟨⟨_, rfl, rfl⟩, .inl ⟨rfl, rfl⟩, hA3, hB3, hsz⟩
    · obtain ⟨n, hn⟩ : ∃ n, L.length = 16 * n := ⟨L.length / 16, by omega⟩
      have hle' := hle.out
      have K := hide' (rLoadF L n v3 w3 hrow3 hn (by omega) (by omega))
      unfold RnP at K
      have hd3 := hide' (hd.out.below hb3 (Nat.le_refl _))
      have hok3 := hide' (ldD_ok hn (by omega) (by omega))
      clear hown3 hb3 hrow3 hn hle'
      go_wp2_with fail
      refine K.out.mono ?_
      rintro e w4 ⟨r, rb, rcap, rfl, hrd, hrge, hbl⟩
      have hP := hide' (side_of hd3.out hge.out hok3.out rfl hrd.out hrge.out hbl.out)
      go_wp2
      go_meet
      case rel => exact ⟨⟨_, rfl, rfl⟩, .inr ⟨_, _, _, _, _, _, _, rfl, rfl, hP⟩, hA3.out.up hbl.out, hB3.out.trans (hbl.out.mono hB3.out.size), Nat.le_trans hsz.out hbl.out.size⟩
  case rest =>
  clear hA hB hD hmz
  obtain ⟨⟨y, rfl, rfl⟩, hD, hA, hB, hmz⟩ := hcut
  obtain ⟨m2, hm2⟩ : ∃ m2, m2 = wc.heap.size := ⟨_, rfl⟩
  rw [← hm2] at hD
  clear hm2
  have KK := hide' (wakesF wc)
  go_upto_region 5 with fail
  go_cut [63] from 38 to 63 (fun bv wx => bv = .bool false ∧ Hid (Sd m1 m2 0 u11 u13 wx) ∧ Hid (Sd w.heap.size m1 0 u7 u9 wx) ∧ Hid (Below w.heap.size w wx) ∧ Hid (m1 ≤ wx.heap.size))
  case first => as_aux_lemma =>
    rcases hA.out with ⟨rfl, rfl⟩ | ⟨g, gb, r, rb, rcap, n, D, rfl, rfl, hP⟩ <;> rcases hD.out with ⟨rfl, rfl⟩ | ⟨g', gb', r', rb', rcap', n', D', rfl, rfl, hP'⟩
    all_goals
      go_wp2_with (go_at_call 12; refine KK.out.mono ?_; rintro e w5 ⟨rfl, hw5⟩; have hw5' := hide' hw5; clear hw5)
      go_meet
      case rel => exact ⟨rfl, hD.out.up hw5'.out, hA.out.up hw5'.out, hB.out.trans (hw5'.out.mono hB.out.size), Nat.le_trans hmz.out hw5'.out.size⟩
  case rest =>
  clear hA hB hD hmz
  obtain ⟨rfl, hD, hA, hB, hmz⟩ := hcut
  go_upto_block 0 with fail
  go_cut [6, 15] from 64 to 117 (fun _ _ wx => Hid (Sd m1 m2 200 u11 u13 wx) ∧ Hid (Sd w.heap.size m1 200 u7 u9 wx) ∧ Hid (Below w.heap.size w wx))
  case first => as_aux_lemma =>
    go_wp2_with fail
    go_loopw [15] (fun iv wr => ∃ i : Nat, i ≤ 200 ∧ iv = .int .i64 (i : Int) ∧ Hid (Sd m1 m2 i u11 u13 wr) ∧ Hid (Sd w.heap.size m1 i u7 u9 wr) ∧ Hid (Below w.heap.size w wr) ∧ Hid (m1 ≤ wr.heap.size)) (fun iv _ => ((200 : Int) - intOf iv).toNat)
    case atStart => exact ⟨0, by omega, rfl, hD, hA, hB, hmz⟩
    case round =>
      clear hA hB hD hmz
      obtain ⟨i, hi, rfl, hD, hA, hB, hmz⟩ := hrel
      by_cases hlt : i < m ∧ i < 200
      · have hlt1 : (i : Int) < (m : Int) := by omega
        have hlt2 : (i : Int) < 200 := by omega
        obtain ⟨p, hp⟩ : ∃ p, O[i]? = some p := ⟨_, List.getElem?_eq_getElem (by rw [hm'.out]; omega)⟩
        have hpn := hide' (hn'.out p (List.mem_of_getElem? hp))
        obtain ⟨go, oo, dv, rfl, hcs, hrow⟩ := hO.out.at hp
        obtain ⟨c0, c1, c2, c3⟩ := hcs.out wr hB.out
        have hrow' := hide' hrow
        clear hrow
        have hD1 := hide' (hD.out.mono (Nat.le_succ i))
        have hA1 := hide' (hA.out.mono (Nat.le_succ i))
        by_cases z0 : bits BinOp.and IntKind.i64 p.on 1 = 0
        · have z1 : ¬ bits BinOp.and IntKind.i64 p.on 1 = 1 := by rw [z0]; decide
          rcases hA.out with ⟨rfl, rfl⟩ | ⟨g, gb, r, rb, rcap, n, D, rfl, rfl, hP⟩
          · go_wp2
            exact ⟨⟨i + 1, by omega, by go_num, hD1, hA1, hB, hmz⟩, by simp [intOf]; omega⟩
          · have KP := hide' (playsF hP.out (by omega) p hpn.out dv (fun V hV => hrow'.out.below (hB.out.trans hV) (Nat.le_refl _)))
            unfold PlP at KP
            go_wp2_with fail
            refine KP.out.mono ?_
            rintro e w6 ⟨rfl, D', hP6, hk6⟩
            have hD6 := hide' (hD1.out.kr hk6.out (.inr (Nat.le_refl _)))
            have hA6 : Hid (Sd w.heap.size m1 (i + 1) (.pointer (some ⟨g, 0, none⟩)) (.pointer (some ⟨r, 0, none⟩)) w6) := .inr ⟨_, _, _, _, _, _, _, rfl, rfl, hP6⟩
            have hB6 := hide' (hB.out.trans (hk6.out.below hB.out.size))
            have hmz6 := hide' (Nat.le_trans hmz.out hk6.out.size)
            obtain ⟨f0, _⟩ := hcs.out w6 hB6.out
            go_wp2
            exact ⟨⟨i + 1, by omega, by go_num, hD6, hA6, hB6, hmz6⟩, by simp [intOf]; omega⟩
        · by_cases z1 : bits BinOp.and IntKind.i64 p.on 1 = 1
          · rcases hD.out with ⟨rfl, rfl⟩ | ⟨g, gb, r, rb, rcap, n, D, rfl, rfl, hP⟩
            · go_wp2
              exact ⟨⟨i + 1, by omega, by go_num, hD1, hA1, hB, hmz⟩, by simp [intOf]; omega⟩
            · have KP := hide' (playsF hP.out (by omega) p hpn.out dv (fun V hV => hrow'.out.below (hB.out.trans (hV.mono hmw.out)) (Nat.le_refl _)))
              unfold PlP at KP
              go_wp2_with fail
              refine KP.out.mono ?_
              rintro e w6 ⟨rfl, D', hP6, hk6⟩
              have hA6 := hide' (hA1.out.kr hk6.out (.inl (Nat.le_refl _)))
              have hD6 : Hid (Sd m1 m2 (i + 1) (.pointer (some ⟨g, 0, none⟩)) (.pointer (some ⟨r, 0, none⟩)) w6) := .inr ⟨_, _, _, _, _, _, _, rfl, rfl, hP6⟩
              have hB6 := hide' (hB.out.trans ((hk6.out.below hmz.out).mono hmw.out))
              have hmz6 := hide' (Nat.le_trans hmz.out hk6.out.size)
              go_wp2
              exact ⟨⟨i + 1, by omega, by go_num, hD6, hA6, hB6, hmz6⟩, by simp [intOf]; omega⟩
          · go_wp2
            exact ⟨⟨i + 1, by omega, by go_num, hD1, hA1, hB, hmz⟩, by simp [intOf]; omega⟩
      · have hD2 := hide' (hD.out.mono hi)
        have hA2 := hide' (hA.out.mono hi)
        by_cases h200 : (i : Int) < (m : Int)
        · have h2 : ¬ (i : Int) < 200 := by omega
          go_wp2_with fail
          go_meet
          case rel => exact ⟨hD2, hA2, hB⟩
        · go_wp2_with fail
          go_meet
          case rel => exact ⟨hD2, hA2, hB⟩
  case rest =>
  clear hA hB hD hmz
  obtain ⟨hD, hA, hB⟩ := hcut
  generalize hwr : wc = wr at *
  clear hwr
  rcases hA.out with ⟨rfl, rfl⟩ | ⟨g, gb, r, rb, rcap, n, D, rfl, rfl, hP⟩ <;> rcases hD.out with ⟨rfl, rfl⟩ | ⟨g', gb', r', rb', rcap', n', D', rfl, rfl, hP'⟩
  · as_aux_lemma =>
      go_upto_region 12 with fail
      refine wp_region_held_drew (S := (fun V => True)) (by kernel_rfl) ?_ (fun hHeld => ?_)
      · exact trivial
      refine wpAnyH_take (i := 0) (oi := { dst := some 118, op := Op.move (Operand.tmp 7), type := 24, pos := "law.go:74", after := #[], guard := none }) (v := ?_) rfl (by kernel_rfl) (by kernel_rfl) (by kernel_rfl) (fun _ _ _ h => h) (Or.inl ⟨by rfl, ?_⟩) (by assumption) ?_
      rotate_left
      · intro w hSw; (try dsimp only at hSw); go_simp <;> with_reducible rfl
      simp only [Act.put, List.setIfInBounds_toArray, List.set_cons_zero, List.set_cons_succ]
      refine wpAnyH_take (i := 1) (oi := { dst := some 119, op := Op.binOp BinOp.eql 24 (Operand.tmp 118) (Operand.const (Value.pointer none)) 24, type := 4, pos := "law.go:74", after := #[{ on := 0, ground := Ground.data }], guard := none }) (v := ?_) rfl (by kernel_rfl) (by kernel_rfl) (by kernel_rfl) (fun _ _ _ h => h) (Or.inl ⟨by rfl, ?_⟩) (by assumption) ?_
      rotate_left
      · intro w hSw; (try dsimp only at hSw); go_simp <;> with_reducible rfl
      simp only [Act.put, List.setIfInBounds_toArray, List.set_cons_zero, List.set_cons_succ]
      refine wpAnyH_take (i := 2) (oi := { dst := some 120, op := Op.move (Operand.tmp 119), type := 4, pos := "law.go:74", after := #[{ on := 1, ground := Ground.data }], guard := none }) (v := ?_) rfl (by kernel_rfl) (by kernel_rfl) (by kernel_rfl) (fun _ _ _ h => h) (Or.inl ⟨by rfl, ?_⟩) (by assumption) ?_
      rotate_left
      · intro w hSw; (try dsimp only at hSw); go_simp <;> with_reducible rfl
      simp only [Act.put, List.setIfInBounds_toArray, List.set_cons_zero, List.set_cons_succ]
      refine wpAnyH_take (i := 3) (oi := { dst := some 121, op := Op.move (Operand.tmp 7), type := 24, pos := "law.go:74", after := #[{ on := 2, ground := Ground.guard }], guard := some (2, false) }) (v := undef) rfl (by kernel_rfl) (by kernel_rfl) (by kernel_rfl) (fun _ _ _ h => h) (Or.inr ⟨by rfl, rfl⟩) (by assumption) ?_
      simp only [Act.put, List.setIfInBounds_toArray, List.set_cons_zero, List.set_cons_succ]
      refine wpAnyH_take (i := 4) (oi := { dst := some 122, op := Op.call { callee := Callee.value (Operand.func 14), args := #[Operand.tmp 121], argTypes := #[24] }, type := 3, pos := "law.go:74", after := #[{ on := 3, ground := Ground.data }, { on := 2, ground := Ground.chain }, { on := 2, ground := Ground.guard }], guard := some (2, false) }) (v := undef) rfl (by kernel_rfl) (by kernel_rfl) (by kernel_rfl) (fun _ _ _ h => h) (Or.inr ⟨by rfl, rfl⟩) (by assumption) ?_
      simp only [Act.put, List.setIfInBounds_toArray, List.set_cons_zero, List.set_cons_succ]
      refine wpAnyH_take (i := 5) (oi := { dst := some 123, op := Op.move (Operand.tmp 9), type := 28, pos := "law.go:74", after := #[{ on := 2, ground := Ground.guard }], guard := some (2, false) }) (v := undef) rfl (by kernel_rfl) (by kernel_rfl) (by kernel_rfl) (fun _ _ _ h => h) (Or.inr ⟨by rfl, rfl⟩) (by assumption) ?_
      simp only [Act.put, List.setIfInBounds_toArray, List.set_cons_zero, List.set_cons_succ]
      refine wpAnyH_take (i := 6) (oi := { dst := some 124, op := Op.call { callee := Callee.value (Operand.func 15), args := #[Operand.tmp 123], argTypes := #[28] }, type := 3, pos := "law.go:74", after := #[{ on := 5, ground := Ground.data }, { on := 4, ground := Ground.chain }, { on := 2, ground := Ground.guard }], guard := some (2, false) }) (v := undef) rfl (by kernel_rfl) (by kernel_rfl) (by kernel_rfl) (fun _ _ _ h => h) (Or.inr ⟨by rfl, rfl⟩) (by assumption) ?_
      simp only [Act.put, List.setIfInBounds_toArray, List.set_cons_zero, List.set_cons_succ]
      refine wpAnyH_take (i := 7) (oi := { dst := some 125, op := Op.binOp BinOp.eql 3 (Operand.tmp 122) (Operand.tmp 124) 3, type := 4, pos := "law.go:74", after := #[{ on := 4, ground := Ground.data }, { on := 6, ground := Ground.data }, { on := 2, ground := Ground.guard }], guard := some (2, false) }) (v := undef) rfl (by kernel_rfl) (by kernel_rfl) (by kernel_rfl) (fun _ _ _ h => h) (Or.inr ⟨by rfl, rfl⟩) (by assumption) ?_
      simp only [Act.put, List.setIfInBounds_toArray, List.set_cons_zero, List.set_cons_succ]
      refine wpAnyH_take (i := 8) (oi := { dst := some 126, op := Op.move (Operand.tmp 125), type := 4, pos := "law.go:74", after := #[{ on := 7, ground := Ground.data }, { on := 6, ground := Ground.chain }, { on := 2, ground := Ground.guard }], guard := some (2, false) }) (v := undef) rfl (by kernel_rfl) (by kernel_rfl) (by kernel_rfl) (fun _ _ _ h => h) (Or.inr ⟨by rfl, rfl⟩) (by assumption) ?_
      simp only [Act.put, List.setIfInBounds_toArray, List.set_cons_zero, List.set_cons_succ]
      refine wpAnyH_take (i := 9) (oi := { dst := some 127, op := Op.move (Operand.tmp 7), type := 24, pos := "law.go:74", after := #[{ on := 8, ground := Ground.guard }], guard := some (8, true) }) (v := undef) rfl (by kernel_rfl) (by kernel_rfl) (by kernel_rfl) (fun _ _ _ h => h) (Or.inr ⟨by rfl, rfl⟩) (by assumption) ?_
      simp only [Act.put, List.setIfInBounds_toArray, List.set_cons_zero, List.set_cons_succ]
      refine wpAnyH_take (i := 10) (oi := { dst := some 128, op := Op.call { callee := Callee.value (Operand.func 16), args := #[Operand.tmp 127], argTypes := #[24] }, type := 22, pos := "law.go:74", after := #[{ on := 9, ground := Ground.data }, { on := 8, ground := Ground.chain }, { on := 8, ground := Ground.guard }], guard := some (8, true) }) (v := undef) rfl (by kernel_rfl) (by kernel_rfl) (by kernel_rfl) (fun _ _ _ h => h) (Or.inr ⟨by rfl, rfl⟩) (by assumption) ?_
      simp only [Act.put, List.setIfInBounds_toArray, List.set_cons_zero, List.set_cons_succ]
      refine wpAnyH_take (i := 11) (oi := { dst := some 129, op := Op.convert 22 9 (Operand.tmp 128), type := 9, pos := "law.go:74", after := #[{ on := 10, ground := Ground.data }, { on := 8, ground := Ground.guard }], guard := some (8, true) }) (v := undef) rfl (by kernel_rfl) (by kernel_rfl) (by kernel_rfl) (fun _ _ _ h => h) (Or.inr ⟨by rfl, rfl⟩) (by assumption) ?_
      simp only [Act.put, List.setIfInBounds_toArray, List.set_cons_zero, List.set_cons_succ]
      refine wpAnyH_take (i := 12) (oi := { dst := some 130, op := Op.move (Operand.tmp 9), type := 28, pos := "law.go:74", after := #[{ on := 8, ground := Ground.guard }], guard := some (8, true) }) (v := undef) rfl (by kernel_rfl) (by kernel_rfl) (by kernel_rfl) (fun _ _ _ h => h) (Or.inr ⟨by rfl, rfl⟩) (by assumption) ?_
      simp only [Act.put, List.setIfInBounds_toArray, List.set_cons_zero, List.set_cons_succ]
      refine wpAnyH_take (i := 13) (oi := { dst := some 131, op := Op.nilCheck (Operand.tmp 130), type := 0, pos := "law.go:74", after := #[{ on := 12, ground := Ground.data }, { on := 8, ground := Ground.guard }], guard := some (8, true) }) (v := undef) rfl (by kernel_rfl) (by kernel_rfl) (by kernel_rfl) (fun _ _ _ h => h) (Or.inr ⟨by rfl, rfl⟩) (by assumption) ?_
      simp only [Act.put, List.setIfInBounds_toArray, List.set_cons_zero, List.set_cons_succ]
      refine wpAnyH_take (i := 14) (oi := { dst := some 132, op := Op.fieldAddr 41 (Operand.tmp 131) 0, type := 0, pos := "law.go:74", after := #[{ on := 13, ground := Ground.data }, { on := 8, ground := Ground.guard }], guard := some (8, true) }) (v := undef) rfl (by kernel_rfl) (by kernel_rfl) (by kernel_rfl) (fun _ _ _ h => h) (Or.inr ⟨by rfl, rfl⟩) (by assumption) ?_
      simp only [Act.put, List.setIfInBounds_toArray, List.set_cons_zero, List.set_cons_succ]
      refine wpAnyH_take (i := 15) (oi := { dst := some 133, op := Op.load 22 (Operand.tmp 132), type := 22, pos := "law.go:74", after := #[{ on := 14, ground := Ground.data }, { on := 8, ground := Ground.guard }], guard := some (8, true) }) (v := undef) rfl (by kernel_rfl) (by kernel_rfl) (by kernel_rfl) (fun _ _ _ h => h) (Or.inr ⟨by rfl, rfl⟩) (by assumption) ?_
      simp only [Act.put, List.setIfInBounds_toArray, List.set_cons_zero, List.set_cons_succ]
      refine wpAnyH_take (i := 16) (oi := { dst := some 134, op := Op.convert 22 9 (Operand.tmp 133), type := 9, pos := "law.go:74", after := #[{ on := 15, ground := Ground.data }, { on := 8, ground := Ground.guard }], guard := some (8, true) }) (v := undef) rfl (by kernel_rfl) (by kernel_rfl) (by kernel_rfl) (fun _ _ _ h => h) (Or.inr ⟨by rfl, rfl⟩) (by assumption) ?_
      simp only [Act.put, List.setIfInBounds_toArray, List.set_cons_zero, List.set_cons_succ]
      refine wpAnyH_take (i := 17) (oi := { dst := some 135, op := Op.binOp BinOp.eql 9 (Operand.tmp 129) (Operand.tmp 134) 9, type := 4, pos := "law.go:74", after := #[{ on := 11, ground := Ground.data }, { on := 16, ground := Ground.data }, { on := 8, ground := Ground.guard }], guard := some (8, true) }) (v := undef) rfl (by kernel_rfl) (by kernel_rfl) (by kernel_rfl) (fun _ _ _ h => h) (Or.inr ⟨by rfl, rfl⟩) (by assumption) ?_
      simp only [Act.put, List.setIfInBounds_toArray, List.set_cons_zero, List.set_cons_succ]
      refine wpAnyH_take (i := 18) (oi := { dst := some 136, op := Op.pick (Operand.tmp 126) (Operand.tmp 135) (Operand.const (Value.bool false)), type := 4, pos := "law.go:74", after := #[{ on := 8, ground := Ground.data }, { on := 17, ground := Ground.data }, { on := 2, ground := Ground.guard }], guard := some (2, false) }) (v := undef) rfl (by kernel_rfl) (by kernel_rfl) (by kernel_rfl) (fun _ _ _ h => h) (Or.inr ⟨by rfl, rfl⟩) (by assumption) ?_
      simp only [Act.put, List.setIfInBounds_toArray, List.set_cons_zero, List.set_cons_succ]
      refine wpAnyH_take (i := 19) (oi := { dst := some 137, op := Op.move (Operand.tmp 136), type := 4, pos := "law.go:74", after := #[{ on := 18, ground := Ground.data }, { on := 10, ground := Ground.chain }, { on := 2, ground := Ground.guard }], guard := some (2, false) }) (v := undef) rfl (by kernel_rfl) (by kernel_rfl) (by kernel_rfl) (fun _ _ _ h => h) (Or.inr ⟨by rfl, rfl⟩) (by assumption) ?_
      simp only [Act.put, List.setIfInBounds_toArray, List.set_cons_zero, List.set_cons_succ]
      refine wpAnyH_take (i := 20) (oi := { dst := some 138, op := Op.move (Operand.tmp 7), type := 24, pos := "law.go:74", after := #[{ on := 19, ground := Ground.guard }], guard := some (19, true) }) (v := undef) rfl (by kernel_rfl) (by kernel_rfl) (by kernel_rfl) (fun _ _ _ h => h) (Or.inr ⟨by rfl, rfl⟩) (by assumption) ?_
      simp only [Act.put, List.setIfInBounds_toArray, List.set_cons_zero, List.set_cons_succ]
      refine wpAnyH_take (i := 21) (oi := { dst := some 139, op := Op.call { callee := Callee.value (Operand.func 17), args := #[Operand.tmp 138], argTypes := #[24] }, type := 3, pos := "law.go:74", after := #[{ on := 20, ground := Ground.data }, { on := 19, ground := Ground.chain }, { on := 19, ground := Ground.guard }], guard := some (19, true) }) (v := undef) rfl (by kernel_rfl) (by kernel_rfl) (by kernel_rfl) (fun _ _ _ h => h) (Or.inr ⟨by rfl, rfl⟩) (by assumption) ?_
      simp only [Act.put, List.setIfInBounds_toArray, List.set_cons_zero, List.set_cons_succ]
      refine wpAnyH_take (i := 22) (oi := { dst := some 140, op := Op.move (Operand.tmp 9), type := 28, pos := "law.go:74", after := #[{ on := 19, ground := Ground.guard }], guard := some (19, true) }) (v := undef) rfl (by kernel_rfl) (by kernel_rfl) (by kernel_rfl) (fun _ _ _ h => h) (Or.inr ⟨by rfl, rfl⟩) (by assumption) ?_
      simp only [Act.put, List.setIfInBounds_toArray, List.set_cons_zero, List.set_cons_succ]
      refine wpAnyH_take (i := 23) (oi := { dst := some 141, op := Op.nilCheck (Operand.tmp 140), type := 0, pos := "law.go:74", after := #[{ on := 22, ground := Ground.data }, { on := 19, ground := Ground.guard }], guard := some (19, true) }) (v := undef) rfl (by kernel_rfl) (by kernel_rfl) (by kernel_rfl) (fun _ _ _ h => h) (Or.inr ⟨by rfl, rfl⟩) (by assumption) ?_
      simp only [Act.put, List.setIfInBounds_toArray, List.set_cons_zero, List.set_cons_succ]
      refine wpAnyH_take (i := 24) (oi := { dst := some 142, op := Op.fieldAddr 41 (Operand.tmp 141) 1, type := 0, pos := "law.go:74", after := #[{ on := 23, ground := Ground.data }, { on := 19, ground := Ground.guard }], guard := some (19, true) }) (v := undef) rfl (by kernel_rfl) (by kernel_rfl) (by kernel_rfl) (fun _ _ _ h => h) (Or.inr ⟨by rfl, rfl⟩) (by assumption) ?_
      simp only [Act.put, List.setIfInBounds_toArray, List.set_cons_zero, List.set_cons_succ]
      refine wpAnyH_take (i := 25) (oi := { dst := some 143, op := Op.load 3 (Operand.tmp 142), type := 3, pos := "law.go:74", after := #[{ on := 24, ground := Ground.data }, { on := 19, ground := Ground.guard }], guard := some (19, true) }) (v := undef) rfl (by kernel_rfl) (by kernel_rfl) (by kernel_rfl) (fun _ _ _ h => h) (Or.inr ⟨by rfl, rfl⟩) (by assumption) ?_
      simp only [Act.put, List.setIfInBounds_toArray, List.set_cons_zero, List.set_cons_succ]
      refine wpAnyH_take (i := 26) (oi := { dst := some 144, op := Op.binOp BinOp.eql 3 (Operand.tmp 139) (Operand.tmp 143) 3, type := 4, pos := "law.go:74", after := #[{ on := 21, ground := Ground.data }, { on := 25, ground := Ground.data }, { on := 19, ground := Ground.guard }], guard := some (19, true) }) (v := undef) rfl (by kernel_rfl) (by kernel_rfl) (by kernel_rfl) (fun _ _ _ h => h) (Or.inr ⟨by rfl, rfl⟩) (by assumption) ?_
      simp only [Act.put, List.setIfInBounds_toArray, List.set_cons_zero, List.set_cons_succ]
      refine wpAnyH_take (i := 27) (oi := { dst := some 145, op := Op.pick (Operand.tmp 137) (Operand.tmp 144) (Operand.const (Value.bool false)), type := 4, pos := "law.go:74", after := #[{ on := 19, ground := Ground.data }, { on := 26, ground := Ground.data }, { on := 2, ground := Ground.guard }], guard := some (2, false) }) (v := undef) rfl (by kernel_rfl) (by kernel_rfl) (by kernel_rfl) (fun _ _ _ h => h) (Or.inr ⟨by rfl, rfl⟩) (by assumption) ?_
      simp only [Act.put, List.setIfInBounds_toArray, List.set_cons_zero, List.set_cons_succ]
      refine wpAnyH_take (i := 28) (oi := { dst := some 146, op := Op.pick (Operand.tmp 120) (Operand.const (Value.bool true)) (Operand.tmp 145), type := 4, pos := "law.go:74", after := #[{ on := 2, ground := Ground.data }, { on := 27, ground := Ground.data }], guard := none }) (v := ?_) rfl (by kernel_rfl) (by kernel_rfl) (by kernel_rfl) (fun _ _ _ h => h) (Or.inl ⟨by rfl, ?_⟩) (by assumption) ?_
      rotate_left
      · intro w hSw; (try dsimp only at hSw); go_simp <;> with_reducible rfl
      simp only [Act.put, List.setIfInBounds_toArray, List.set_cons_zero, List.set_cons_succ]
      refine wpAnyH_take (i := 29) (oi := { dst := some 147, op := Op.move (Operand.tmp 146), type := 4, pos := "law.go:74", after := #[{ on := 28, ground := Ground.data }, { on := 21, ground := Ground.chain }], guard := none }) (v := ?_) rfl (by kernel_rfl) (by kernel_rfl) (by kernel_rfl) (fun _ _ _ h => h) (Or.inl ⟨by rfl, ?_⟩) (by assumption) ?_
      rotate_left
      · intro w hSw; (try dsimp only at hSw); go_simp <;> with_reducible rfl
      simp only [Act.put, List.setIfInBounds_toArray, List.set_cons_zero, List.set_cons_succ]
      refine wpAnyH_take (i := 30) (oi := { dst := some 148, op := Op.move (Operand.tmp 11), type := 24, pos := "law.go:74", after := #[{ on := 29, ground := Ground.guard }], guard := some (29, true) }) (v := ?_) rfl (by kernel_rfl) (by kernel_rfl) (by kernel_rfl) (fun _ _ _ h => h) (Or.inl ⟨by rfl, ?_⟩) (by assumption) ?_
      rotate_left
      · intro w hSw; (try dsimp only at hSw); go_simp <;> with_reducible rfl
      simp only [Act.put, List.setIfInBounds_toArray, List.set_cons_zero, List.set_cons_succ]
      refine wpAnyH_take (i := 31) (oi := { dst := some 149, op := Op.binOp BinOp.eql 24 (Operand.tmp 148) (Operand.const (Value.pointer none)) 24, type := 4, pos := "law.go:74", after := #[{ on := 30, ground := Ground.data }, { on := 29, ground := Ground.guard }], guard := some (29, true) }) (v := ?_) rfl (by kernel_rfl) (by kernel_rfl) (by kernel_rfl) (fun _ _ _ h => h) (Or.inl ⟨by rfl, ?_⟩) (by assumption) ?_
      rotate_left
      · intro w hSw; (try dsimp only at hSw); go_simp <;> with_reducible rfl
      simp only [Act.put, List.setIfInBounds_toArray, List.set_cons_zero, List.set_cons_succ]
      refine wpAnyH_take (i := 32) (oi := { dst := some 150, op := Op.move (Operand.tmp 149), type := 4, pos := "law.go:74", after := #[{ on := 31, ground := Ground.data }, { on := 29, ground := Ground.chain }, { on := 29, ground := Ground.guard }], guard := some (29, true) }) (v := ?_) rfl (by kernel_rfl) (by kernel_rfl) (by kernel_rfl) (fun _ _ _ h => h) (Or.inl ⟨by rfl, ?_⟩) (by assumption) ?_
      rotate_left
      · intro w hSw; (try dsimp only at hSw); go_simp <;> with_reducible rfl
      simp only [Act.put, List.setIfInBounds_toArray, List.set_cons_zero, List.set_cons_succ]
      refine wpAnyH_take (i := 33) (oi := { dst := some 151, op := Op.move (Operand.tmp 11), type := 24, pos := "law.go:74", after := #[{ on := 32, ground := Ground.guard }], guard := some (32, false) }) (v := undef) rfl (by kernel_rfl) (by kernel_rfl) (by kernel_rfl) (fun _ _ _ h => h) (Or.inr ⟨by rfl, rfl⟩) (by assumption) ?_
      simp only [Act.put, List.setIfInBounds_toArray, List.set_cons_zero, List.set_cons_succ]
      refine wpAnyH_take (i := 34) (oi := { dst := some 152, op := Op.call { callee := Callee.value (Operand.func 14), args := #[Operand.tmp 151], argTypes := #[24] }, type := 3, pos := "law.go:74", after := #[{ on := 33, ground := Ground.data }, { on := 32, ground := Ground.chain }, { on := 32, ground := Ground.guard }], guard := some (32, false) }) (v := undef) rfl (by kernel_rfl) (by kernel_rfl) (by kernel_rfl) (fun _ _ _ h => h) (Or.inr ⟨by rfl, rfl⟩) (by assumption) ?_
      simp only [Act.put, List.setIfInBounds_toArray, List.set_cons_zero, List.set_cons_succ]
      refine wpAnyH_take (i := 35) (oi := { dst := some 153, op := Op.move (Operand.tmp 13), type := 28, pos := "law.go:74", after := #[{ on := 32, ground := Ground.guard }], guard := some (32, false) }) (v := undef) rfl (by kernel_rfl) (by kernel_rfl) (by kernel_rfl) (fun _ _ _ h => h) (Or.inr ⟨by rfl, rfl⟩) (by assumption) ?_
      simp only [Act.put, List.setIfInBounds_toArray, List.set_cons_zero, List.set_cons_succ]
      refine wpAnyH_take (i := 36) (oi := { dst := some 154, op := Op.call { callee := Callee.value (Operand.func 15), args := #[Operand.tmp 153], argTypes := #[28] }, type := 3, pos := "law.go:74", after := #[{ on := 35, ground := Ground.data }, { on := 34, ground := Ground.chain }, { on := 32, ground := Ground.guard }], guard := some (32, false) }) (v := undef) rfl (by kernel_rfl) (by kernel_rfl) (by kernel_rfl) (fun _ _ _ h => h) (Or.inr ⟨by rfl, rfl⟩) (by assumption) ?_
      simp only [Act.put, List.setIfInBounds_toArray, List.set_cons_zero, List.set_cons_succ]
      refine wpAnyH_take (i := 37) (oi := { dst := some 155, op := Op.binOp BinOp.eql 3 (Operand.tmp 152) (Operand.tmp 154) 3, type := 4, pos := "law.go:74", after := #[{ on := 34, ground := Ground.data }, { on := 36, ground := Ground.data }, { on := 32, ground := Ground.guard }], guard := some (32, false) }) (v := undef) rfl (by kernel_rfl) (by kernel_rfl) (by kernel_rfl) (fun _ _ _ h => h) (Or.inr ⟨by rfl, rfl⟩) (by assumption) ?_
      simp only [Act.put, List.setIfInBounds_toArray, List.set_cons_zero, List.set_cons_succ]
      refine wpAnyH_take (i := 38) (oi := { dst := some 156, op := Op.move (Operand.tmp 155), type := 4, pos := "law.go:74", after := #[{ on := 37, ground := Ground.data }, { on := 36, ground := Ground.chain }, { on := 32, ground := Ground.guard }], guard := some (32, false) }) (v := undef) rfl (by kernel_rfl) (by kernel_rfl) (by kernel_rfl) (fun _ _ _ h => h) (Or.inr ⟨by rfl, rfl⟩) (by assumption) ?_
      simp only [Act.put, List.setIfInBounds_toArray, List.set_cons_zero, List.set_cons_succ]
      refine wpAnyH_take (i := 39) (oi := { dst := some 157, op := Op.move (Operand.tmp 11), type := 24, pos := "law.go:74", after := #[{ on := 38, ground := Ground.guard }], guard := some (38, true) }) (v := undef) rfl (by kernel_rfl) (by kernel_rfl) (by kernel_rfl) (fun _ _ _ h => h) (Or.inr ⟨by rfl, rfl⟩) (by assumption) ?_
      simp only [Act.put, List.setIfInBounds_toArray, List.set_cons_zero, List.set_cons_succ]
      refine wpAnyH_take (i := 40) (oi := { dst := some 158, op := Op.call { callee := Callee.value (Operand.func 16), args := #[Operand.tmp 157], argTypes := #[24] }, type := 22, pos := "law.go:74", after := #[{ on := 39, ground := Ground.data }, { on := 38, ground := Ground.chain }, { on := 38, ground := Ground.guard }], guard := some (38, true) }) (v := undef) rfl (by kernel_rfl) (by kernel_rfl) (by kernel_rfl) (fun _ _ _ h => h) (Or.inr ⟨by rfl, rfl⟩) (by assumption) ?_
      simp only [Act.put, List.setIfInBounds_toArray, List.set_cons_zero, List.set_cons_succ]
      refine wpAnyH_take (i := 41) (oi := { dst := some 159, op := Op.convert 22 9 (Operand.tmp 158), type := 9, pos := "law.go:74", after := #[{ on := 40, ground := Ground.data }, { on := 38, ground := Ground.guard }], guard := some (38, true) }) (v := undef) rfl (by kernel_rfl) (by kernel_rfl) (by kernel_rfl) (fun _ _ _ h => h) (Or.inr ⟨by rfl, rfl⟩) (by assumption) ?_
      simp only [Act.put, List.setIfInBounds_toArray, List.set_cons_zero, List.set_cons_succ]
      refine wpAnyH_take (i := 42) (oi := { dst := some 160, op := Op.move (Operand.tmp 13), type := 28, pos := "law.go:74", after := #[{ on := 38, ground := Ground.guard }], guard := some (38, true) }) (v := undef) rfl (by kernel_rfl) (by kernel_rfl) (by kernel_rfl) (fun _ _ _ h => h) (Or.inr ⟨by rfl, rfl⟩) (by assumption) ?_
      simp only [Act.put, List.setIfInBounds_toArray, List.set_cons_zero, List.set_cons_succ]
      refine wpAnyH_take (i := 43) (oi := { dst := some 161, op := Op.nilCheck (Operand.tmp 160), type := 0, pos := "law.go:74", after := #[{ on := 42, ground := Ground.data }, { on := 38, ground := Ground.guard }], guard := some (38, true) }) (v := undef) rfl (by kernel_rfl) (by kernel_rfl) (by kernel_rfl) (fun _ _ _ h => h) (Or.inr ⟨by rfl, rfl⟩) (by assumption) ?_
      simp only [Act.put, List.setIfInBounds_toArray, List.set_cons_zero, List.set_cons_succ]
      refine wpAnyH_take (i := 44) (oi := { dst := some 162, op := Op.fieldAddr 41 (Operand.tmp 161) 0, type := 0, pos := "law.go:74", after := #[{ on := 43, ground := Ground.data }, { on := 38, ground := Ground.guard }], guard := some (38, true) }) (v := undef) rfl (by kernel_rfl) (by kernel_rfl) (by kernel_rfl) (fun _ _ _ h => h) (Or.inr ⟨by rfl, rfl⟩) (by assumption) ?_
      simp only [Act.put, List.setIfInBounds_toArray, List.set_cons_zero, List.set_cons_succ]
      refine wpAnyH_take (i := 45) (oi := { dst := some 163, op := Op.load 22 (Operand.tmp 162), type := 22, pos := "law.go:74", after := #[{ on := 44, ground := Ground.data }, { on := 38, ground := Ground.guard }], guard := some (38, true) }) (v := undef) rfl (by kernel_rfl) (by kernel_rfl) (by kernel_rfl) (fun _ _ _ h => h) (Or.inr ⟨by rfl, rfl⟩) (by assumption) ?_
      simp only [Act.put, List.setIfInBounds_toArray, List.set_cons_zero, List.set_cons_succ]
      refine wpAnyH_take (i := 46) (oi := { dst := some 164, op := Op.convert 22 9 (Operand.tmp 163), type := 9, pos := "law.go:74", after := #[{ on := 45, ground := Ground.data }, { on := 38, ground := Ground.guard }], guard := some (38, true) }) (v := undef) rfl (by kernel_rfl) (by kernel_rfl) (by kernel_rfl) (fun _ _ _ h => h) (Or.inr ⟨by rfl, rfl⟩) (by assumption) ?_
      simp only [Act.put, List.setIfInBounds_toArray, List.set_cons_zero, List.set_cons_succ]
      refine wpAnyH_take (i := 47) (oi := { dst := some 165, op := Op.binOp BinOp.eql 9 (Operand.tmp 159) (Operand.tmp 164) 9, type := 4, pos := "law.go:74", after := #[{ on := 41, ground := Ground.data }, { on := 46, ground := Ground.data }, { on := 38, ground := Ground.guard }], guard := some (38, true) }) (v := undef) rfl (by kernel_rfl) (by kernel_rfl) (by kernel_rfl) (fun _ _ _ h => h) (Or.inr ⟨by rfl, rfl⟩) (by assumption) ?_
      simp only [Act.put, List.setIfInBounds_toArray, List.set_cons_zero, List.set_cons_succ]
      refine wpAnyH_take (i := 48) (oi := { dst := some 166, op := Op.pick (Operand.tmp 156) (Operand.tmp 165) (Operand.const (Value.bool false)), type := 4, pos := "law.go:74", after := #[{ on := 38, ground := Ground.data }, { on := 47, ground := Ground.data }, { on := 32, ground := Ground.guard }], guard := some (32, false) }) (v := undef) rfl (by kernel_rfl) (by kernel_rfl) (by kernel_rfl) (fun _ _ _ h => h) (Or.inr ⟨by rfl, rfl⟩) (by assumption) ?_
      simp only [Act.put, List.setIfInBounds_toArray, List.set_cons_zero, List.set_cons_succ]
      refine wpAnyH_take (i := 49) (oi := { dst := some 167, op := Op.move (Operand.tmp 166), type := 4, pos := "law.go:74", after := #[{ on := 48, ground := Ground.data }, { on := 40, ground := Ground.chain }, { on := 32, ground := Ground.guard }], guard := some (32, false) }) (v := undef) rfl (by kernel_rfl) (by kernel_rfl) (by kernel_rfl) (fun _ _ _ h => h) (Or.inr ⟨by rfl, rfl⟩) (by assumption) ?_
      simp only [Act.put, List.setIfInBounds_toArray, List.set_cons_zero, List.set_cons_succ]
      refine wpAnyH_take (i := 50) (oi := { dst := some 168, op := Op.move (Operand.tmp 11), type := 24, pos := "law.go:74", after := #[{ on := 49, ground := Ground.guard }], guard := some (49, true) }) (v := undef) rfl (by kernel_rfl) (by kernel_rfl) (by kernel_rfl) (fun _ _ _ h => h) (Or.inr ⟨by rfl, rfl⟩) (by assumption) ?_
      simp only [Act.put, List.setIfInBounds_toArray, List.set_cons_zero, List.set_cons_succ]
      refine wpAnyH_take (i := 51) (oi := { dst := some 169, op := Op.call { callee := Callee.value (Operand.func 17), args := #[Operand.tmp 168], argTypes := #[24] }, type := 3, pos := "law.go:74", after := #[{ on := 50, ground := Ground.data }, { on := 49, ground := Ground.chain }, { on := 49, ground := Ground.guard }], guard := some (49, true) }) (v := undef) rfl (by kernel_rfl) (by kernel_rfl) (by kernel_rfl) (fun _ _ _ h => h) (Or.inr ⟨by rfl, rfl⟩) (by assumption) ?_
      simp only [Act.put, List.setIfInBounds_toArray, List.set_cons_zero, List.set_cons_succ]
      refine wpAnyH_take (i := 52) (oi := { dst := some 170, op := Op.move (Operand.tmp 13), type := 28, pos := "law.go:74", after := #[{ on := 49, ground := Ground.guard }], guard := some (49, true) }) (v := undef) rfl (by kernel_rfl) (by kernel_rfl) (by kernel_rfl) (fun _ _ _ h => h) (Or.inr ⟨by rfl, rfl⟩) (by assumption) ?_
      simp only [Act.put, List.setIfInBounds_toArray, List.set_cons_zero, List.set_cons_succ]
      refine wpAnyH_take (i := 53) (oi := { dst := some 171, op := Op.nilCheck (Operand.tmp 170), type := 0, pos := "law.go:74", after := #[{ on := 52, ground := Ground.data }, { on := 49, ground := Ground.guard }], guard := some (49, true) }) (v := undef) rfl (by kernel_rfl) (by kernel_rfl) (by kernel_rfl) (fun _ _ _ h => h) (Or.inr ⟨by rfl, rfl⟩) (by assumption) ?_
      simp only [Act.put, List.setIfInBounds_toArray, List.set_cons_zero, List.set_cons_succ]
      refine wpAnyH_take (i := 54) (oi := { dst := some 172, op := Op.fieldAddr 41 (Operand.tmp 171) 1, type := 0, pos := "law.go:74", after := #[{ on := 53, ground := Ground.data }, { on := 49, ground := Ground.guard }], guard := some (49, true) }) (v := undef) rfl (by kernel_rfl) (by kernel_rfl) (by kernel_rfl) (fun _ _ _ h => h) (Or.inr ⟨by rfl, rfl⟩) (by assumption) ?_
      simp only [Act.put, List.setIfInBounds_toArray, List.set_cons_zero, List.set_cons_succ]
      refine wpAnyH_take (i := 55) (oi := { dst := some 173, op := Op.load 3 (Operand.tmp 172), type := 3, pos := "law.go:74", after := #[{ on := 54, ground := Ground.data }, { on := 49, ground := Ground.guard }], guard := some (49, true) }) (v := undef) rfl (by kernel_rfl) (by kernel_rfl) (by kernel_rfl) (fun _ _ _ h => h) (Or.inr ⟨by rfl, rfl⟩) (by assumption) ?_
      simp only [Act.put, List.setIfInBounds_toArray, List.set_cons_zero, List.set_cons_succ]
      refine wpAnyH_take (i := 56) (oi := { dst := some 174, op := Op.binOp BinOp.eql 3 (Operand.tmp 169) (Operand.tmp 173) 3, type := 4, pos := "law.go:74", after := #[{ on := 51, ground := Ground.data }, { on := 55, ground := Ground.data }, { on := 49, ground := Ground.guard }], guard := some (49, true) }) (v := undef) rfl (by kernel_rfl) (by kernel_rfl) (by kernel_rfl) (fun _ _ _ h => h) (Or.inr ⟨by rfl, rfl⟩) (by assumption) ?_
      simp only [Act.put, List.setIfInBounds_toArray, List.set_cons_zero, List.set_cons_succ]
      refine wpAnyH_take (i := 57) (oi := { dst := some 175, op := Op.pick (Operand.tmp 167) (Operand.tmp 174) (Operand.const (Value.bool false)), type := 4, pos := "law.go:74", after := #[{ on := 49, ground := Ground.data }, { on := 56, ground := Ground.data }, { on := 32, ground := Ground.guard }], guard := some (32, false) }) (v := undef) rfl (by kernel_rfl) (by kernel_rfl) (by kernel_rfl) (fun _ _ _ h => h) (Or.inr ⟨by rfl, rfl⟩) (by assumption) ?_
      simp only [Act.put, List.setIfInBounds_toArray, List.set_cons_zero, List.set_cons_succ]
      refine wpAnyH_take (i := 58) (oi := { dst := some 176, op := Op.pick (Operand.tmp 150) (Operand.const (Value.bool true)) (Operand.tmp 175), type := 4, pos := "law.go:74", after := #[{ on := 32, ground := Ground.data }, { on := 57, ground := Ground.data }, { on := 29, ground := Ground.guard }], guard := some (29, true) }) (v := ?_) rfl (by kernel_rfl) (by kernel_rfl) (by kernel_rfl) (fun _ _ _ h => h) (Or.inl ⟨by rfl, ?_⟩) (by assumption) ?_
      rotate_left
      · intro w hSw; (try dsimp only at hSw); go_simp <;> with_reducible rfl
      simp only [Act.put, List.setIfInBounds_toArray, List.set_cons_zero, List.set_cons_succ]
      refine wpAnyH_take (i := 59) (oi := { dst := some 177, op := Op.pick (Operand.tmp 147) (Operand.tmp 176) (Operand.const (Value.bool false)), type := 4, pos := "law.go:74", after := #[{ on := 29, ground := Ground.data }, { on := 58, ground := Ground.data }], guard := none }) (v := ?_) rfl (by kernel_rfl) (by kernel_rfl) (by kernel_rfl) (fun _ _ _ h => h) (Or.inl ⟨by rfl, ?_⟩) (by assumption) ?_
      rotate_left
      · intro w hSw; (try dsimp only at hSw); go_simp <;> with_reducible rfl
      simp only [Act.put, List.setIfInBounds_toArray, List.set_cons_zero, List.set_cons_succ]
      refine wpAnyH_take (i := 60) (oi := { dst := some 6, op := Op.assign (Operand.tmp 177), type := 4, pos := "law.go:74", after := #[{ on := 59, ground := Ground.data }, { on := 51, ground := Ground.chain }, { on := 0, ground := Ground.phase }, { on := 1, ground := Ground.phase }, { on := 2, ground := Ground.phase }, { on := 3, ground := Ground.phase }, { on := 4, ground := Ground.phase }, { on := 5, ground := Ground.phase }, { on := 6, ground := Ground.phase }, { on := 7, ground := Ground.phase }, { on := 8, ground := Ground.phase }, { on := 9, ground := Ground.phase }, { on := 10, ground := Ground.phase }, { on := 11, ground := Ground.phase }, { on := 12, ground := Ground.phase }, { on := 13, ground := Ground.phase }, { on := 14, ground := Ground.phase }, { on := 15, ground := Ground.phase }, { on := 16, ground := Ground.phase }, { on := 17, ground := Ground.phase }, { on := 18, ground := Ground.phase }, { on := 19, ground := Ground.phase }, { on := 20, ground := Ground.phase }, { on := 21, ground := Ground.phase }, { on := 22, ground := Ground.phase }, { on := 23, ground := Ground.phase }, { on := 24, ground := Ground.phase }, { on := 25, ground := Ground.phase }, { on := 26, ground := Ground.phase }, { on := 27, ground := Ground.phase }, { on := 28, ground := Ground.phase }, { on := 29, ground := Ground.phase }, { on := 30, ground := Ground.phase }, { on := 31, ground := Ground.phase }, { on := 32, ground := Ground.phase }, { on := 33, ground := Ground.phase }, { on := 34, ground := Ground.phase }, { on := 35, ground := Ground.phase }, { on := 36, ground := Ground.phase }, { on := 37, ground := Ground.phase }, { on := 38, ground := Ground.phase }, { on := 39, ground := Ground.phase }, { on := 40, ground := Ground.phase }, { on := 41, ground := Ground.phase }, { on := 42, ground := Ground.phase }, { on := 43, ground := Ground.phase }, { on := 44, ground := Ground.phase }, { on := 45, ground := Ground.phase }, { on := 46, ground := Ground.phase }, { on := 47, ground := Ground.phase }, { on := 48, ground := Ground.phase }, { on := 49, ground := Ground.phase }, { on := 50, ground := Ground.phase }, { on := 51, ground := Ground.phase }, { on := 52, ground := Ground.phase }, { on := 53, ground := Ground.phase }, { on := 54, ground := Ground.phase }, { on := 55, ground := Ground.phase }, { on := 56, ground := Ground.phase }, { on := 57, ground := Ground.phase }, { on := 58, ground := Ground.phase }, { on := 59, ground := Ground.phase }], guard := none }) (v := ?_) rfl (by kernel_rfl) (by kernel_rfl) (by kernel_rfl) (fun _ _ _ h => h) (Or.inl ⟨by rfl, ?_⟩) (by assumption) ?_
      rotate_left
      · intro w hSw; (try dsimp only at hSw); go_simp <;> with_reducible rfl
      simp only [Act.put, List.setIfInBounds_toArray, List.set_cons_zero, List.set_cons_succ]
      refine wpAnyH_done (by kernel_rfl) ?_ _
      skip
      go_wp2
      go_ret
      exact ⟨ret_bool (by simp), hB.out.trans ((Below.refl _ wr).drew.mono hB.out.size)⟩
  · as_aux_lemma =>
      have hlen2 := hP'.out.ok.len
      have hmost2 := hP'.out.ok.most
      have hc02 : Hid (∀ V lo hi c, Pz lo hi g' gb' r' rb' rcap' n' c D' V → V.cell? ⟨r', 0, none⟩ = some (.slice (some ⟨rb', 0, none⟩) D'.bytes.length rcap') ∧ V.cell? ⟨r', 1, none⟩ = some (.int .i64 D'.writes) ∧ (convert 22 9 (.slice (some ⟨rb', 0, none⟩) D'.bytes.length rcap')).run Try.prog V = .ok (.string (strB D'.bytes)) V) := fun V lo hi c hV => ⟨hV.rk.cells.1, hV.rk.cells.2.1, conv_bytes hV.rk.rowC⟩
      have KB2 : Hid (∀ V lo hi c, Pz lo hi g' gb' r' rb' rcap' n' c D' V → Calls Try.prog 14 #[.pointer (some ⟨g', 0, none⟩)] V fun e w' => e = .returned (.int .i64 (n' : Int)) ∧ w' = V) := fun V lo hi c hV => blocksF hV.dk hV.ok.len hV.ok.most
      have KC2 : Hid (∀ V lo hi c, Pz lo hi g' gb' r' rb' rcap' n' c D' V → Calls Try.prog 15 #[.pointer (some ⟨r', 0, none⟩)] V fun e w' => e = .returned (.int .i64 (n' : Int)) ∧ w' = V) := fun V lo hi c hV => rBlocksF hV.rk hV.ok.len hV.ok.most
      have KW2 : Hid (∀ V lo hi c, Pz lo hi g' gb' r' rb' rcap' n' c D' V → Calls Try.prog 17 #[.pointer (some ⟨g', 0, none⟩)] V fun e w' => e = .returned (.int .i64 D'.writes) ∧ w' = V) := fun V lo hi c hV => writesF hV.dk
      have KI2 : Hid (∀ V lo hi c, Pz lo hi g' gb' r' rb' rcap' n' c D' V → Calls Try.prog 16 #[.pointer (some ⟨g', 0, none⟩)] V fun e w' => ∃ gi, e = .returned (.slice (some ⟨gi, 0, none⟩) D'.bytes.length D'.bytes.length) ∧ (convert 22 9 (.slice (some ⟨gi, 0, none⟩) D'.bytes.length D'.bytes.length)).run Try.prog w' = .ok (.string (strB D'.bytes)) w' ∧ Hid (Below V.heap.size V w')) := fun V lo hi c hV => (imageF hV.dk (by rw [hlen2]; omega)).mono fun e w' ⟨h1, h2, h3⟩ => ⟨_, h1, conv_bytes (RowC.of_bk h2.out (fun i z hz => by rw [Nat.zero_add]; exact hz) rfl (Nat.le_refl _)), h3⟩
      clear hlen2 hmost2
      generalize D'.bytes.length = ln2 at *
      generalize strB D'.bytes = bs2 at *
      generalize D'.writes = wn2 at *
      go_upto_region 12 with fail
      refine wp_region_held_drew (S := (fun V => (V.cell? ⟨r', 0, none⟩ = some (.slice (some ⟨rb', 0, none⟩) ln2 rcap') ∧ V.cell? ⟨r', 1, none⟩ = some (.int .i64 wn2) ∧ (convert 22 9 (.slice (some ⟨rb', 0, none⟩) ln2 rcap')).run Try.prog V = .ok (.string bs2) V))) (by kernel_rfl) ?_ (fun hHeld => ?_)
      · exact hc02.out _ _ _ _ (hP'.out.up (Below.refl _ wr).drew)
      refine wpAnyH_take (i := 0) (oi := { dst := some 118, op := Op.move (Operand.tmp 7), type := 24, pos := "law.go:74", after := #[], guard := none }) (v := ?_) rfl (by kernel_rfl) (by kernel_rfl) (by kernel_rfl) (fun _ _ _ h => h) (Or.inl ⟨by rfl, ?_⟩) (by assumption) ?_
      rotate_left
      · intro w hSw; (try dsimp only at hSw); go_simp <;> with_reducible rfl
      simp only [Act.put, List.setIfInBounds_toArray, List.set_cons_zero, List.set_cons_succ]
      refine wpAnyH_take (i := 1) (oi := { dst := some 119, op := Op.binOp BinOp.eql 24 (Operand.tmp 118) (Operand.const (Value.pointer none)) 24, type := 4, pos := "law.go:74", after := #[{ on := 0, ground := Ground.data }], guard := none }) (v := ?_) rfl (by kernel_rfl) (by kernel_rfl) (by kernel_rfl) (fun _ _ _ h => h) (Or.inl ⟨by rfl, ?_⟩) (by assumption) ?_
      rotate_left
      · intro w hSw; (try dsimp only at hSw); go_simp <;> with_reducible rfl
      simp only [Act.put, List.setIfInBounds_toArray, List.set_cons_zero, List.set_cons_succ]
      refine wpAnyH_take (i := 2) (oi := { dst := some 120, op := Op.move (Operand.tmp 119), type := 4, pos := "law.go:74", after := #[{ on := 1, ground := Ground.data }], guard := none }) (v := ?_) rfl (by kernel_rfl) (by kernel_rfl) (by kernel_rfl) (fun _ _ _ h => h) (Or.inl ⟨by rfl, ?_⟩) (by assumption) ?_
      rotate_left
      · intro w hSw; (try dsimp only at hSw); go_simp <;> with_reducible rfl
      simp only [Act.put, List.setIfInBounds_toArray, List.set_cons_zero, List.set_cons_succ]
      refine wpAnyH_take (i := 3) (oi := { dst := some 121, op := Op.move (Operand.tmp 7), type := 24, pos := "law.go:74", after := #[{ on := 2, ground := Ground.guard }], guard := some (2, false) }) (v := undef) rfl (by kernel_rfl) (by kernel_rfl) (by kernel_rfl) (fun _ _ _ h => h) (Or.inr ⟨by rfl, rfl⟩) (by assumption) ?_
      simp only [Act.put, List.setIfInBounds_toArray, List.set_cons_zero, List.set_cons_succ]
      refine wpAnyH_take (i := 4) (oi := { dst := some 122, op := Op.call { callee := Callee.value (Operand.func 14), args := #[Operand.tmp 121], argTypes := #[24] }, type := 3, pos := "law.go:74", after := #[{ on := 3, ground := Ground.data }, { on := 2, ground := Ground.chain }, { on := 2, ground := Ground.guard }], guard := some (2, false) }) (v := undef) rfl (by kernel_rfl) (by kernel_rfl) (by kernel_rfl) (fun _ _ _ h => h) (Or.inr ⟨by rfl, rfl⟩) (by assumption) ?_
      simp only [Act.put, List.setIfInBounds_toArray, List.set_cons_zero, List.set_cons_succ]
      refine wpAnyH_take (i := 5) (oi := { dst := some 123, op := Op.move (Operand.tmp 9), type := 28, pos := "law.go:74", after := #[{ on := 2, ground := Ground.guard }], guard := some (2, false) }) (v := undef) rfl (by kernel_rfl) (by kernel_rfl) (by kernel_rfl) (fun _ _ _ h => h) (Or.inr ⟨by rfl, rfl⟩) (by assumption) ?_
      simp only [Act.put, List.setIfInBounds_toArray, List.set_cons_zero, List.set_cons_succ]
      refine wpAnyH_take (i := 6) (oi := { dst := some 124, op := Op.call { callee := Callee.value (Operand.func 15), args := #[Operand.tmp 123], argTypes := #[28] }, type := 3, pos := "law.go:74", after := #[{ on := 5, ground := Ground.data }, { on := 4, ground := Ground.chain }, { on := 2, ground := Ground.guard }], guard := some (2, false) }) (v := undef) rfl (by kernel_rfl) (by kernel_rfl) (by kernel_rfl) (fun _ _ _ h => h) (Or.inr ⟨by rfl, rfl⟩) (by assumption) ?_
      simp only [Act.put, List.setIfInBounds_toArray, List.set_cons_zero, List.set_cons_succ]
      refine wpAnyH_take (i := 7) (oi := { dst := some 125, op := Op.binOp BinOp.eql 3 (Operand.tmp 122) (Operand.tmp 124) 3, type := 4, pos := "law.go:74", after := #[{ on := 4, ground := Ground.data }, { on := 6, ground := Ground.data }, { on := 2, ground := Ground.guard }], guard := some (2, false) }) (v := undef) rfl (by kernel_rfl) (by kernel_rfl) (by kernel_rfl) (fun _ _ _ h => h) (Or.inr ⟨by rfl, rfl⟩) (by assumption) ?_
      simp only [Act.put, List.setIfInBounds_toArray, List.set_cons_zero, List.set_cons_succ]
      refine wpAnyH_take (i := 8) (oi := { dst := some 126, op := Op.move (Operand.tmp 125), type := 4, pos := "law.go:74", after := #[{ on := 7, ground := Ground.data }, { on := 6, ground := Ground.chain }, { on := 2, ground := Ground.guard }], guard := some (2, false) }) (v := undef) rfl (by kernel_rfl) (by kernel_rfl) (by kernel_rfl) (fun _ _ _ h => h) (Or.inr ⟨by rfl, rfl⟩) (by assumption) ?_
      simp only [Act.put, List.setIfInBounds_toArray, List.set_cons_zero, List.set_cons_succ]
      refine wpAnyH_take (i := 9) (oi := { dst := some 127, op := Op.move (Operand.tmp 7), type := 24, pos := "law.go:74", after := #[{ on := 8, ground := Ground.guard }], guard := some (8, true) }) (v := undef) rfl (by kernel_rfl) (by kernel_rfl) (by kernel_rfl) (fun _ _ _ h => h) (Or.inr ⟨by rfl, rfl⟩) (by assumption) ?_
      simp only [Act.put, List.setIfInBounds_toArray, List.set_cons_zero, List.set_cons_succ]
      refine wpAnyH_take (i := 10) (oi := { dst := some 128, op := Op.call { callee := Callee.value (Operand.func 16), args := #[Operand.tmp 127], argTypes := #[24] }, type := 22, pos := "law.go:74", after := #[{ on := 9, ground := Ground.data }, { on := 8, ground := Ground.chain }, { on := 8, ground := Ground.guard }], guard := some (8, true) }) (v := undef) rfl (by kernel_rfl) (by kernel_rfl) (by kernel_rfl) (fun _ _ _ h => h) (Or.inr ⟨by rfl, rfl⟩) (by assumption) ?_
      simp only [Act.put, List.setIfInBounds_toArray, List.set_cons_zero, List.set_cons_succ]
      refine wpAnyH_take (i := 11) (oi := { dst := some 129, op := Op.convert 22 9 (Operand.tmp 128), type := 9, pos := "law.go:74", after := #[{ on := 10, ground := Ground.data }, { on := 8, ground := Ground.guard }], guard := some (8, true) }) (v := undef) rfl (by kernel_rfl) (by kernel_rfl) (by kernel_rfl) (fun _ _ _ h => h) (Or.inr ⟨by rfl, rfl⟩) (by assumption) ?_
      simp only [Act.put, List.setIfInBounds_toArray, List.set_cons_zero, List.set_cons_succ]
      refine wpAnyH_take (i := 12) (oi := { dst := some 130, op := Op.move (Operand.tmp 9), type := 28, pos := "law.go:74", after := #[{ on := 8, ground := Ground.guard }], guard := some (8, true) }) (v := undef) rfl (by kernel_rfl) (by kernel_rfl) (by kernel_rfl) (fun _ _ _ h => h) (Or.inr ⟨by rfl, rfl⟩) (by assumption) ?_
      simp only [Act.put, List.setIfInBounds_toArray, List.set_cons_zero, List.set_cons_succ]
      refine wpAnyH_take (i := 13) (oi := { dst := some 131, op := Op.nilCheck (Operand.tmp 130), type := 0, pos := "law.go:74", after := #[{ on := 12, ground := Ground.data }, { on := 8, ground := Ground.guard }], guard := some (8, true) }) (v := undef) rfl (by kernel_rfl) (by kernel_rfl) (by kernel_rfl) (fun _ _ _ h => h) (Or.inr ⟨by rfl, rfl⟩) (by assumption) ?_
      simp only [Act.put, List.setIfInBounds_toArray, List.set_cons_zero, List.set_cons_succ]
      refine wpAnyH_take (i := 14) (oi := { dst := some 132, op := Op.fieldAddr 41 (Operand.tmp 131) 0, type := 0, pos := "law.go:74", after := #[{ on := 13, ground := Ground.data }, { on := 8, ground := Ground.guard }], guard := some (8, true) }) (v := undef) rfl (by kernel_rfl) (by kernel_rfl) (by kernel_rfl) (fun _ _ _ h => h) (Or.inr ⟨by rfl, rfl⟩) (by assumption) ?_
      simp only [Act.put, List.setIfInBounds_toArray, List.set_cons_zero, List.set_cons_succ]
      refine wpAnyH_take (i := 15) (oi := { dst := some 133, op := Op.load 22 (Operand.tmp 132), type := 22, pos := "law.go:74", after := #[{ on := 14, ground := Ground.data }, { on := 8, ground := Ground.guard }], guard := some (8, true) }) (v := undef) rfl (by kernel_rfl) (by kernel_rfl) (by kernel_rfl) (fun _ _ _ h => h) (Or.inr ⟨by rfl, rfl⟩) (by assumption) ?_
      simp only [Act.put, List.setIfInBounds_toArray, List.set_cons_zero, List.set_cons_succ]
      refine wpAnyH_take (i := 16) (oi := { dst := some 134, op := Op.convert 22 9 (Operand.tmp 133), type := 9, pos := "law.go:74", after := #[{ on := 15, ground := Ground.data }, { on := 8, ground := Ground.guard }], guard := some (8, true) }) (v := undef) rfl (by kernel_rfl) (by kernel_rfl) (by kernel_rfl) (fun _ _ _ h => h) (Or.inr ⟨by rfl, rfl⟩) (by assumption) ?_
      simp only [Act.put, List.setIfInBounds_toArray, List.set_cons_zero, List.set_cons_succ]
      refine wpAnyH_take (i := 17) (oi := { dst := some 135, op := Op.binOp BinOp.eql 9 (Operand.tmp 129) (Operand.tmp 134) 9, type := 4, pos := "law.go:74", after := #[{ on := 11, ground := Ground.data }, { on := 16, ground := Ground.data }, { on := 8, ground := Ground.guard }], guard := some (8, true) }) (v := undef) rfl (by kernel_rfl) (by kernel_rfl) (by kernel_rfl) (fun _ _ _ h => h) (Or.inr ⟨by rfl, rfl⟩) (by assumption) ?_
      simp only [Act.put, List.setIfInBounds_toArray, List.set_cons_zero, List.set_cons_succ]
      refine wpAnyH_take (i := 18) (oi := { dst := some 136, op := Op.pick (Operand.tmp 126) (Operand.tmp 135) (Operand.const (Value.bool false)), type := 4, pos := "law.go:74", after := #[{ on := 8, ground := Ground.data }, { on := 17, ground := Ground.data }, { on := 2, ground := Ground.guard }], guard := some (2, false) }) (v := undef) rfl (by kernel_rfl) (by kernel_rfl) (by kernel_rfl) (fun _ _ _ h => h) (Or.inr ⟨by rfl, rfl⟩) (by assumption) ?_
      simp only [Act.put, List.setIfInBounds_toArray, List.set_cons_zero, List.set_cons_succ]
      refine wpAnyH_take (i := 19) (oi := { dst := some 137, op := Op.move (Operand.tmp 136), type := 4, pos := "law.go:74", after := #[{ on := 18, ground := Ground.data }, { on := 10, ground := Ground.chain }, { on := 2, ground := Ground.guard }], guard := some (2, false) }) (v := undef) rfl (by kernel_rfl) (by kernel_rfl) (by kernel_rfl) (fun _ _ _ h => h) (Or.inr ⟨by rfl, rfl⟩) (by assumption) ?_
      simp only [Act.put, List.setIfInBounds_toArray, List.set_cons_zero, List.set_cons_succ]
      refine wpAnyH_take (i := 20) (oi := { dst := some 138, op := Op.move (Operand.tmp 7), type := 24, pos := "law.go:74", after := #[{ on := 19, ground := Ground.guard }], guard := some (19, true) }) (v := undef) rfl (by kernel_rfl) (by kernel_rfl) (by kernel_rfl) (fun _ _ _ h => h) (Or.inr ⟨by rfl, rfl⟩) (by assumption) ?_
      simp only [Act.put, List.setIfInBounds_toArray, List.set_cons_zero, List.set_cons_succ]
      refine wpAnyH_take (i := 21) (oi := { dst := some 139, op := Op.call { callee := Callee.value (Operand.func 17), args := #[Operand.tmp 138], argTypes := #[24] }, type := 3, pos := "law.go:74", after := #[{ on := 20, ground := Ground.data }, { on := 19, ground := Ground.chain }, { on := 19, ground := Ground.guard }], guard := some (19, true) }) (v := undef) rfl (by kernel_rfl) (by kernel_rfl) (by kernel_rfl) (fun _ _ _ h => h) (Or.inr ⟨by rfl, rfl⟩) (by assumption) ?_
      simp only [Act.put, List.setIfInBounds_toArray, List.set_cons_zero, List.set_cons_succ]
      refine wpAnyH_take (i := 22) (oi := { dst := some 140, op := Op.move (Operand.tmp 9), type := 28, pos := "law.go:74", after := #[{ on := 19, ground := Ground.guard }], guard := some (19, true) }) (v := undef) rfl (by kernel_rfl) (by kernel_rfl) (by kernel_rfl) (fun _ _ _ h => h) (Or.inr ⟨by rfl, rfl⟩) (by assumption) ?_
      simp only [Act.put, List.setIfInBounds_toArray, List.set_cons_zero, List.set_cons_succ]
      refine wpAnyH_take (i := 23) (oi := { dst := some 141, op := Op.nilCheck (Operand.tmp 140), type := 0, pos := "law.go:74", after := #[{ on := 22, ground := Ground.data }, { on := 19, ground := Ground.guard }], guard := some (19, true) }) (v := undef) rfl (by kernel_rfl) (by kernel_rfl) (by kernel_rfl) (fun _ _ _ h => h) (Or.inr ⟨by rfl, rfl⟩) (by assumption) ?_
      simp only [Act.put, List.setIfInBounds_toArray, List.set_cons_zero, List.set_cons_succ]
      refine wpAnyH_take (i := 24) (oi := { dst := some 142, op := Op.fieldAddr 41 (Operand.tmp 141) 1, type := 0, pos := "law.go:74", after := #[{ on := 23, ground := Ground.data }, { on := 19, ground := Ground.guard }], guard := some (19, true) }) (v := undef) rfl (by kernel_rfl) (by kernel_rfl) (by kernel_rfl) (fun _ _ _ h => h) (Or.inr ⟨by rfl, rfl⟩) (by assumption) ?_
      simp only [Act.put, List.setIfInBounds_toArray, List.set_cons_zero, List.set_cons_succ]
      refine wpAnyH_take (i := 25) (oi := { dst := some 143, op := Op.load 3 (Operand.tmp 142), type := 3, pos := "law.go:74", after := #[{ on := 24, ground := Ground.data }, { on := 19, ground := Ground.guard }], guard := some (19, true) }) (v := undef) rfl (by kernel_rfl) (by kernel_rfl) (by kernel_rfl) (fun _ _ _ h => h) (Or.inr ⟨by rfl, rfl⟩) (by assumption) ?_
      simp only [Act.put, List.setIfInBounds_toArray, List.set_cons_zero, List.set_cons_succ]
      refine wpAnyH_take (i := 26) (oi := { dst := some 144, op := Op.binOp BinOp.eql 3 (Operand.tmp 139) (Operand.tmp 143) 3, type := 4, pos := "law.go:74", after := #[{ on := 21, ground := Ground.data }, { on := 25, ground := Ground.data }, { on := 19, ground := Ground.guard }], guard := some (19, true) }) (v := undef) rfl (by kernel_rfl) (by kernel_rfl) (by kernel_rfl) (fun _ _ _ h => h) (Or.inr ⟨by rfl, rfl⟩) (by assumption) ?_
      simp only [Act.put, List.setIfInBounds_toArray, List.set_cons_zero, List.set_cons_succ]
      refine wpAnyH_take (i := 27) (oi := { dst := some 145, op := Op.pick (Operand.tmp 137) (Operand.tmp 144) (Operand.const (Value.bool false)), type := 4, pos := "law.go:74", after := #[{ on := 19, ground := Ground.data }, { on := 26, ground := Ground.data }, { on := 2, ground := Ground.guard }], guard := some (2, false) }) (v := undef) rfl (by kernel_rfl) (by kernel_rfl) (by kernel_rfl) (fun _ _ _ h => h) (Or.inr ⟨by rfl, rfl⟩) (by assumption) ?_
      simp only [Act.put, List.setIfInBounds_toArray, List.set_cons_zero, List.set_cons_succ]
      refine wpAnyH_take (i := 28) (oi := { dst := some 146, op := Op.pick (Operand.tmp 120) (Operand.const (Value.bool true)) (Operand.tmp 145), type := 4, pos := "law.go:74", after := #[{ on := 2, ground := Ground.data }, { on := 27, ground := Ground.data }], guard := none }) (v := ?_) rfl (by kernel_rfl) (by kernel_rfl) (by kernel_rfl) (fun _ _ _ h => h) (Or.inl ⟨by rfl, ?_⟩) (by assumption) ?_
      rotate_left
      · intro w hSw; (try dsimp only at hSw); go_simp <;> with_reducible rfl
      simp only [Act.put, List.setIfInBounds_toArray, List.set_cons_zero, List.set_cons_succ]
      refine wpAnyH_take (i := 29) (oi := { dst := some 147, op := Op.move (Operand.tmp 146), type := 4, pos := "law.go:74", after := #[{ on := 28, ground := Ground.data }, { on := 21, ground := Ground.chain }], guard := none }) (v := ?_) rfl (by kernel_rfl) (by kernel_rfl) (by kernel_rfl) (fun _ _ _ h => h) (Or.inl ⟨by rfl, ?_⟩) (by assumption) ?_
      rotate_left
      · intro w hSw; (try dsimp only at hSw); go_simp <;> with_reducible rfl
      simp only [Act.put, List.setIfInBounds_toArray, List.set_cons_zero, List.set_cons_succ]
      refine wpAnyH_take (i := 30) (oi := { dst := some 148, op := Op.move (Operand.tmp 11), type := 24, pos := "law.go:74", after := #[{ on := 29, ground := Ground.guard }], guard := some (29, true) }) (v := ?_) rfl (by kernel_rfl) (by kernel_rfl) (by kernel_rfl) (fun _ _ _ h => h) (Or.inl ⟨by rfl, ?_⟩) (by assumption) ?_
      rotate_left
      · intro w hSw; (try dsimp only at hSw); go_simp <;> with_reducible rfl
      simp only [Act.put, List.setIfInBounds_toArray, List.set_cons_zero, List.set_cons_succ]
      refine wpAnyH_take (i := 31) (oi := { dst := some 149, op := Op.binOp BinOp.eql 24 (Operand.tmp 148) (Operand.const (Value.pointer none)) 24, type := 4, pos := "law.go:74", after := #[{ on := 30, ground := Ground.data }, { on := 29, ground := Ground.guard }], guard := some (29, true) }) (v := ?_) rfl (by kernel_rfl) (by kernel_rfl) (by kernel_rfl) (fun _ _ _ h => h) (Or.inl ⟨by rfl, ?_⟩) (by assumption) ?_
      rotate_left
      · intro w hSw; (try dsimp only at hSw); go_simp <;> with_reducible rfl
      simp only [Act.put, List.setIfInBounds_toArray, List.set_cons_zero, List.set_cons_succ]
      refine wpAnyH_take (i := 32) (oi := { dst := some 150, op := Op.move (Operand.tmp 149), type := 4, pos := "law.go:74", after := #[{ on := 31, ground := Ground.data }, { on := 29, ground := Ground.chain }, { on := 29, ground := Ground.guard }], guard := some (29, true) }) (v := ?_) rfl (by kernel_rfl) (by kernel_rfl) (by kernel_rfl) (fun _ _ _ h => h) (Or.inl ⟨by rfl, ?_⟩) (by assumption) ?_
      rotate_left
      · intro w hSw; (try dsimp only at hSw); go_simp <;> with_reducible rfl
      simp only [Act.put, List.setIfInBounds_toArray, List.set_cons_zero, List.set_cons_succ]
      refine wpAnyH_take (i := 33) (oi := { dst := some 151, op := Op.move (Operand.tmp 11), type := 24, pos := "law.go:74", after := #[{ on := 32, ground := Ground.guard }], guard := some (32, false) }) (v := ?_) rfl (by kernel_rfl) (by kernel_rfl) (by kernel_rfl) (fun _ _ _ h => h) (Or.inl ⟨by rfl, ?_⟩) (by assumption) ?_
      rotate_left
      · intro w hSw; (try dsimp only at hSw); go_simp <;> with_reducible rfl
      simp only [Act.put, List.setIfInBounds_toArray, List.set_cons_zero, List.set_cons_succ]
      refine wpAnyH_take (i := 35) (oi := { dst := some 153, op := Op.move (Operand.tmp 13), type := 28, pos := "law.go:74", after := #[{ on := 32, ground := Ground.guard }], guard := some (32, false) }) (v := ?_) rfl (by kernel_rfl) (by kernel_rfl) (by kernel_rfl) (fun _ _ _ h => h) (Or.inl ⟨by rfl, ?_⟩) (by assumption) ?_
      rotate_left
      · intro w hSw; (try dsimp only at hSw); go_simp <;> with_reducible rfl
      simp only [Act.put, List.setIfInBounds_toArray, List.set_cons_zero, List.set_cons_succ]
      refine wpAnyH_ready (rs := [34]) (by kernel_rfl) (by simp) ?_
      refine AllReadyH.cons (o := { dst := some 152, op := Op.call { callee := Callee.value (Operand.func 14), args := #[Operand.tmp 151], argTypes := #[24] }, type := 3, pos := "law.go:74", after := #[{ on := 33, ground := Ground.data }, { on := 32, ground := Ground.chain }, { on := 32, ground := Ground.guard }], guard := some (32, false) }) rfl (fun K hK => ?_) AllReadyH.nil
      go_simp
      go_at_call 14; refine (KB2.out _ _ _ _ (hP'.out.up (Below.refl _ wr).drew)).mono ?_; rintro e w9 ⟨rfl, hw1⟩; obtain rfl : wr.drew = w9 := hw1.symm; (try dsimp only)
      refine hK.out _ _ ?_ (fun hHeld => ?_)
      · exact hc02.out _ _ _ _ (hP'.out.up (Below.refl _ wr).drew)
      clear hK K
      try simp only [Act.put, List.setIfInBounds_toArray, List.set_cons_zero, List.set_cons_succ]
      refine wpAnyH_ready (rs := [36]) (by kernel_rfl) (by simp) ?_
      refine AllReadyH.cons (o := { dst := some 154, op := Op.call { callee := Callee.value (Operand.func 15), args := #[Operand.tmp 153], argTypes := #[28] }, type := 3, pos := "law.go:74", after := #[{ on := 35, ground := Ground.data }, { on := 34, ground := Ground.chain }, { on := 32, ground := Ground.guard }], guard := some (32, false) }) rfl (fun K hK => ?_) AllReadyH.nil
      go_simp
      go_at_call 15; refine (KC2.out _ _ _ _ (hP'.out.up (Below.refl _ wr).drew)).mono ?_; rintro e w9 ⟨rfl, hw1⟩; obtain rfl : wr.drew = w9 := hw1.symm; (try dsimp only)
      refine hK.out _ _ ?_ (fun hHeld => ?_)
      · exact hc02.out _ _ _ _ (hP'.out.up (Below.refl _ wr).drew)
      clear hK K
      try simp only [Act.put, List.setIfInBounds_toArray, List.set_cons_zero, List.set_cons_succ]
      refine wpAnyH_take (i := 37) (oi := { dst := some 155, op := Op.binOp BinOp.eql 3 (Operand.tmp 152) (Operand.tmp 154) 3, type := 4, pos := "law.go:74", after := #[{ on := 34, ground := Ground.data }, { on := 36, ground := Ground.data }, { on := 32, ground := Ground.guard }], guard := some (32, false) }) (v := ?_) rfl (by kernel_rfl) (by kernel_rfl) (by kernel_rfl) (fun _ _ _ h => h) (Or.inl ⟨by rfl, ?_⟩) (by assumption) ?_
      rotate_left
      · intro w hSw; (try dsimp only at hSw); go_simp <;> with_reducible rfl
      simp only [Act.put, List.setIfInBounds_toArray, List.set_cons_zero, List.set_cons_succ]
      refine wpAnyH_take (i := 38) (oi := { dst := some 156, op := Op.move (Operand.tmp 155), type := 4, pos := "law.go:74", after := #[{ on := 37, ground := Ground.data }, { on := 36, ground := Ground.chain }, { on := 32, ground := Ground.guard }], guard := some (32, false) }) (v := ?_) rfl (by kernel_rfl) (by kernel_rfl) (by kernel_rfl) (fun _ _ _ h => h) (Or.inl ⟨by rfl, ?_⟩) (by assumption) ?_
      rotate_left
      · intro w hSw; (try dsimp only at hSw); go_simp <;> with_reducible rfl
      simp only [Act.put, List.setIfInBounds_toArray, List.set_cons_zero, List.set_cons_succ]
      refine wpAnyH_take (i := 39) (oi := { dst := some 157, op := Op.move (Operand.tmp 11), type := 24, pos := "law.go:74", after := #[{ on := 38, ground := Ground.guard }], guard := some (38, true) }) (v := ?_) rfl (by kernel_rfl) (by kernel_rfl) (by kernel_rfl) (fun _ _ _ h => h) (Or.inl ⟨by rfl, ?_⟩) (by assumption) ?_
      rotate_left
      · intro w hSw; (try dsimp only at hSw); go_simp <;> with_reducible rfl
      simp only [Act.put, List.setIfInBounds_toArray, List.set_cons_zero, List.set_cons_succ]
      refine wpAnyH_take (i := 42) (oi := { dst := some 160, op := Op.move (Operand.tmp 13), type := 28, pos := "law.go:74", after := #[{ on := 38, ground := Ground.guard }], guard := some (38, true) }) (v := ?_) rfl (by kernel_rfl) (by kernel_rfl) (by kernel_rfl) (fun _ _ _ h => h) (Or.inl ⟨by rfl, ?_⟩) (by assumption) ?_
      rotate_left
      · intro w hSw; (try dsimp only at hSw); go_simp <;> with_reducible rfl
      simp only [Act.put, List.setIfInBounds_toArray, List.set_cons_zero, List.set_cons_succ]
      refine wpAnyH_take (i := 43) (oi := { dst := some 161, op := Op.nilCheck (Operand.tmp 160), type := 0, pos := "law.go:74", after := #[{ on := 42, ground := Ground.data }, { on := 38, ground := Ground.guard }], guard := some (38, true) }) (v := ?_) rfl (by kernel_rfl) (by kernel_rfl) (by kernel_rfl) (fun _ _ _ h => h) (Or.inl ⟨by rfl, ?_⟩) (by assumption) ?_
      rotate_left
      · intro w hSw; (try dsimp only at hSw); go_simp <;> with_reducible rfl
      simp only [Act.put, List.setIfInBounds_toArray, List.set_cons_zero, List.set_cons_succ]
      refine wpAnyH_take (i := 44) (oi := { dst := some 162, op := Op.fieldAddr 41 (Operand.tmp 161) 0, type := 0, pos := "law.go:74", after := #[{ on := 43, ground := Ground.data }, { on := 38, ground := Ground.guard }], guard := some (38, true) }) (v := ?_) rfl (by kernel_rfl) (by kernel_rfl) (by kernel_rfl) (fun _ _ _ h => h) (Or.inl ⟨by rfl, ?_⟩) (by assumption) ?_
      rotate_left
      · intro w hSw; (try dsimp only at hSw); go_simp <;> with_reducible rfl
      simp only [Act.put, List.setIfInBounds_toArray, List.set_cons_zero, List.set_cons_succ]
      refine wpAnyH_take (i := 45) (oi := { dst := some 163, op := Op.load 22 (Operand.tmp 162), type := 22, pos := "law.go:74", after := #[{ on := 44, ground := Ground.data }, { on := 38, ground := Ground.guard }], guard := some (38, true) }) (v := ?_) rfl (by kernel_rfl) (by kernel_rfl) (by kernel_rfl) (fun _ _ _ h => h) (Or.inl ⟨by rfl, ?_⟩) (by assumption) ?_
      rotate_left
      · intro w hSw; (try dsimp only at hSw); go_simp <;> with_reducible rfl
      simp only [Act.put, List.setIfInBounds_toArray, List.set_cons_zero, List.set_cons_succ]
      refine wpAnyH_take (i := 46) (oi := { dst := some 164, op := Op.convert 22 9 (Operand.tmp 163), type := 9, pos := "law.go:74", after := #[{ on := 45, ground := Ground.data }, { on := 38, ground := Ground.guard }], guard := some (38, true) }) (v := ?_) rfl (by kernel_rfl) (by kernel_rfl) (by kernel_rfl) (fun _ _ _ h => h) (Or.inl ⟨by rfl, ?_⟩) (by assumption) ?_
      rotate_left
      · intro w hSw; (try dsimp only at hSw); go_simp <;> with_reducible rfl
      simp only [Act.put, List.setIfInBounds_toArray, List.set_cons_zero, List.set_cons_succ]
      refine wpAnyH_ready (rs := [40]) (by kernel_rfl) (by simp) ?_
      refine AllReadyH.cons (o := { dst := some 158, op := Op.call { callee := Callee.value (Operand.func 16), args := #[Operand.tmp 157], argTypes := #[24] }, type := 22, pos := "law.go:74", after := #[{ on := 39, ground := Ground.data }, { on := 38, ground := Ground.chain }, { on := 38, ground := Ground.guard }], guard := some (38, true) }) rfl (fun K hK => ?_) AllReadyH.nil
      go_simp
      go_at_call 16; refine (KI2.out _ _ _ _ (hP'.out.up (Below.refl _ wr).drew)).mono ?_; rintro e w7 ⟨gj, rfl, hcv7, hb7⟩; have hQ7 := hide' (Pz.up (hP'.out.up (Below.refl _ wr).drew) hb7.out); have hB7 := hide' ((hB.out.trans ((Below.refl _ wr).drew.mono hB.out.size)).trans (hb7.out.mono (hB.out.trans ((Below.refl _ wr).drew.mono hB.out.size)).size)); (try dsimp only)
      refine hK.out _ _ ?_ (fun hHeld => ?_)
      · exact hc02.out _ _ _ _ (hQ7.out)
      clear hK K
      try simp only [Act.put, List.setIfInBounds_toArray, List.set_cons_zero, List.set_cons_succ]
      refine wpAnyH_ready (rs := [41]) (by kernel_rfl) (by simp) ?_
      refine AllReadyH.cons (o := { dst := some 159, op := Op.convert 22 9 (Operand.tmp 158), type := 9, pos := "law.go:74", after := #[{ on := 40, ground := Ground.data }, { on := 38, ground := Ground.guard }], guard := some (38, true) }) rfl (fun K hK => ?_) AllReadyH.nil
      go_simp
      refine hK.out _ _ ?_ (fun hHeld => ?_)
      · exact hc02.out _ _ _ _ (hQ7.out)
      clear hK K
      try simp only [Act.put, List.setIfInBounds_toArray, List.set_cons_zero, List.set_cons_succ]
      refine wpAnyH_take (i := 47) (oi := { dst := some 165, op := Op.binOp BinOp.eql 9 (Operand.tmp 159) (Operand.tmp 164) 9, type := 4, pos := "law.go:74", after := #[{ on := 41, ground := Ground.data }, { on := 46, ground := Ground.data }, { on := 38, ground := Ground.guard }], guard := some (38, true) }) (v := ?_) rfl (by kernel_rfl) (by kernel_rfl) (by kernel_rfl) (fun _ _ _ h => h) (Or.inl ⟨by rfl, ?_⟩) (by assumption) ?_
      rotate_left
      · intro w hSw; (try dsimp only at hSw); go_simp <;> with_reducible rfl
      simp only [Act.put, List.setIfInBounds_toArray, List.set_cons_zero, List.set_cons_succ]
      refine wpAnyH_take (i := 48) (oi := { dst := some 166, op := Op.pick (Operand.tmp 156) (Operand.tmp 165) (Operand.const (Value.bool false)), type := 4, pos := "law.go:74", after := #[{ on := 38, ground := Ground.data }, { on := 47, ground := Ground.data }, { on := 32, ground := Ground.guard }], guard := some (32, false) }) (v := ?_) rfl (by kernel_rfl) (by kernel_rfl) (by kernel_rfl) (fun _ _ _ h => h) (Or.inl ⟨by rfl, ?_⟩) (by assumption) ?_
      rotate_left
      · intro w hSw; (try dsimp only at hSw); go_simp <;> with_reducible rfl
      simp only [Act.put, List.setIfInBounds_toArray, List.set_cons_zero, List.set_cons_succ]
      refine wpAnyH_take (i := 49) (oi := { dst := some 167, op := Op.move (Operand.tmp 166), type := 4, pos := "law.go:74", after := #[{ on := 48, ground := Ground.data }, { on := 40, ground := Ground.chain }, { on := 32, ground := Ground.guard }], guard := some (32, false) }) (v := ?_) rfl (by kernel_rfl) (by kernel_rfl) (by kernel_rfl) (fun _ _ _ h => h) (Or.inl ⟨by rfl, ?_⟩) (by assumption) ?_
      rotate_left
      · intro w hSw; (try dsimp only at hSw); go_simp <;> with_reducible rfl
      simp only [Act.put, List.setIfInBounds_toArray, List.set_cons_zero, List.set_cons_succ]
      refine wpAnyH_take (i := 50) (oi := { dst := some 168, op := Op.move (Operand.tmp 11), type := 24, pos := "law.go:74", after := #[{ on := 49, ground := Ground.guard }], guard := some (49, true) }) (v := ?_) rfl (by kernel_rfl) (by kernel_rfl) (by kernel_rfl) (fun _ _ _ h => h) (Or.inl ⟨by rfl, ?_⟩) (by assumption) ?_
      rotate_left
      · intro w hSw; (try dsimp only at hSw); go_simp <;> with_reducible rfl
      simp only [Act.put, List.setIfInBounds_toArray, List.set_cons_zero, List.set_cons_succ]
      refine wpAnyH_take (i := 52) (oi := { dst := some 170, op := Op.move (Operand.tmp 13), type := 28, pos := "law.go:74", after := #[{ on := 49, ground := Ground.guard }], guard := some (49, true) }) (v := ?_) rfl (by kernel_rfl) (by kernel_rfl) (by kernel_rfl) (fun _ _ _ h => h) (Or.inl ⟨by rfl, ?_⟩) (by assumption) ?_
      rotate_left
      · intro w hSw; (try dsimp only at hSw); go_simp <;> with_reducible rfl
      simp only [Act.put, List.setIfInBounds_toArray, List.set_cons_zero, List.set_cons_succ]
      refine wpAnyH_take (i := 53) (oi := { dst := some 171, op := Op.nilCheck (Operand.tmp 170), type := 0, pos := "law.go:74", after := #[{ on := 52, ground := Ground.data }, { on := 49, ground := Ground.guard }], guard := some (49, true) }) (v := ?_) rfl (by kernel_rfl) (by kernel_rfl) (by kernel_rfl) (fun _ _ _ h => h) (Or.inl ⟨by rfl, ?_⟩) (by assumption) ?_
      rotate_left
      · intro w hSw; (try dsimp only at hSw); go_simp <;> with_reducible rfl
      simp only [Act.put, List.setIfInBounds_toArray, List.set_cons_zero, List.set_cons_succ]
      refine wpAnyH_take (i := 54) (oi := { dst := some 172, op := Op.fieldAddr 41 (Operand.tmp 171) 1, type := 0, pos := "law.go:74", after := #[{ on := 53, ground := Ground.data }, { on := 49, ground := Ground.guard }], guard := some (49, true) }) (v := ?_) rfl (by kernel_rfl) (by kernel_rfl) (by kernel_rfl) (fun _ _ _ h => h) (Or.inl ⟨by rfl, ?_⟩) (by assumption) ?_
      rotate_left
      · intro w hSw; (try dsimp only at hSw); go_simp <;> with_reducible rfl
      simp only [Act.put, List.setIfInBounds_toArray, List.set_cons_zero, List.set_cons_succ]
      refine wpAnyH_take (i := 55) (oi := { dst := some 173, op := Op.load 3 (Operand.tmp 172), type := 3, pos := "law.go:74", after := #[{ on := 54, ground := Ground.data }, { on := 49, ground := Ground.guard }], guard := some (49, true) }) (v := ?_) rfl (by kernel_rfl) (by kernel_rfl) (by kernel_rfl) (fun _ _ _ h => h) (Or.inl ⟨by rfl, ?_⟩) (by assumption) ?_
      rotate_left
      · intro w hSw; (try dsimp only at hSw); go_simp <;> with_reducible rfl
      simp only [Act.put, List.setIfInBounds_toArray, List.set_cons_zero, List.set_cons_succ]
      refine wpAnyH_ready (rs := [51]) (by kernel_rfl) (by simp) ?_
      refine AllReadyH.cons (o := { dst := some 169, op := Op.call { callee := Callee.value (Operand.func 17), args := #[Operand.tmp 168], argTypes := #[24] }, type := 3, pos := "law.go:74", after := #[{ on := 50, ground := Ground.data }, { on := 49, ground := Ground.chain }, { on := 49, ground := Ground.guard }], guard := some (49, true) }) rfl (fun K hK => ?_) AllReadyH.nil
      go_simp
      go_at_call 17; refine (KW2.out _ _ _ _ (hQ7.out)).mono ?_; rintro e w9 ⟨rfl, hw1⟩; obtain rfl : w7 = w9 := hw1.symm; (try dsimp only)
      refine hK.out _ _ ?_ (fun hHeld => ?_)
      · exact hc02.out _ _ _ _ (hQ7.out)
      clear hK K
      try simp only [Act.put, List.setIfInBounds_toArray, List.set_cons_zero, List.set_cons_succ]
      refine wpAnyH_take (i := 56) (oi := { dst := some 174, op := Op.binOp BinOp.eql 3 (Operand.tmp 169) (Operand.tmp 173) 3, type := 4, pos := "law.go:74", after := #[{ on := 51, ground := Ground.data }, { on := 55, ground := Ground.data }, { on := 49, ground := Ground.guard }], guard := some (49, true) }) (v := ?_) rfl (by kernel_rfl) (by kernel_rfl) (by kernel_rfl) (fun _ _ _ h => h) (Or.inl ⟨by rfl, ?_⟩) (by assumption) ?_
      rotate_left
      · intro w hSw; (try dsimp only at hSw); go_simp <;> with_reducible rfl
      simp only [Act.put, List.setIfInBounds_toArray, List.set_cons_zero, List.set_cons_succ]
      refine wpAnyH_take (i := 57) (oi := { dst := some 175, op := Op.pick (Operand.tmp 167) (Operand.tmp 174) (Operand.const (Value.bool false)), type := 4, pos := "law.go:74", after := #[{ on := 49, ground := Ground.data }, { on := 56, ground := Ground.data }, { on := 32, ground := Ground.guard }], guard := some (32, false) }) (v := ?_) rfl (by kernel_rfl) (by kernel_rfl) (by kernel_rfl) (fun _ _ _ h => h) (Or.inl ⟨by rfl, ?_⟩) (by assumption) ?_
      rotate_left
      · intro w hSw; (try dsimp only at hSw); go_simp <;> with_reducible rfl
      simp only [Act.put, List.setIfInBounds_toArray, List.set_cons_zero, List.set_cons_succ]
      refine wpAnyH_take (i := 58) (oi := { dst := some 176, op := Op.pick (Operand.tmp 150) (Operand.const (Value.bool true)) (Operand.tmp 175), type := 4, pos := "law.go:74", after := #[{ on := 32, ground := Ground.data }, { on := 57, ground := Ground.data }, { on := 29, ground := Ground.guard }], guard := some (29, true) }) (v := ?_) rfl (by kernel_rfl) (by kernel_rfl) (by kernel_rfl) (fun _ _ _ h => h) (Or.inl ⟨by rfl, ?_⟩) (by assumption) ?_
      rotate_left
      · intro w hSw; (try dsimp only at hSw); go_simp <;> with_reducible rfl
      simp only [Act.put, List.setIfInBounds_toArray, List.set_cons_zero, List.set_cons_succ]
      refine wpAnyH_take (i := 59) (oi := { dst := some 177, op := Op.pick (Operand.tmp 147) (Operand.tmp 176) (Operand.const (Value.bool false)), type := 4, pos := "law.go:74", after := #[{ on := 29, ground := Ground.data }, { on := 58, ground := Ground.data }], guard := none }) (v := ?_) rfl (by kernel_rfl) (by kernel_rfl) (by kernel_rfl) (fun _ _ _ h => h) (Or.inl ⟨by rfl, ?_⟩) (by assumption) ?_
      rotate_left
      · intro w hSw; (try dsimp only at hSw); go_simp <;> with_reducible rfl
      simp only [Act.put, List.setIfInBounds_toArray, List.set_cons_zero, List.set_cons_succ]
      refine wpAnyH_take (i := 60) (oi := { dst := some 6, op := Op.assign (Operand.tmp 177), type := 4, pos := "law.go:74", after := #[{ on := 59, ground := Ground.data }, { on := 51, ground := Ground.chain }, { on := 0, ground := Ground.phase }, { on := 1, ground := Ground.phase }, { on := 2, ground := Ground.phase }, { on := 3, ground := Ground.phase }, { on := 4, ground := Ground.phase }, { on := 5, ground := Ground.phase }, { on := 6, ground := Ground.phase }, { on := 7, ground := Ground.phase }, { on := 8, ground := Ground.phase }, { on := 9, ground := Ground.phase }, { on := 10, ground := Ground.phase }, { on := 11, ground := Ground.phase }, { on := 12, ground := Ground.phase }, { on := 13, ground := Ground.phase }, { on := 14, ground := Ground.phase }, { on := 15, ground := Ground.phase }, { on := 16, ground := Ground.phase }, { on := 17, ground := Ground.phase }, { on := 18, ground := Ground.phase }, { on := 19, ground := Ground.phase }, { on := 20, ground := Ground.phase }, { on := 21, ground := Ground.phase }, { on := 22, ground := Ground.phase }, { on := 23, ground := Ground.phase }, { on := 24, ground := Ground.phase }, { on := 25, ground := Ground.phase }, { on := 26, ground := Ground.phase }, { on := 27, ground := Ground.phase }, { on := 28, ground := Ground.phase }, { on := 29, ground := Ground.phase }, { on := 30, ground := Ground.phase }, { on := 31, ground := Ground.phase }, { on := 32, ground := Ground.phase }, { on := 33, ground := Ground.phase }, { on := 34, ground := Ground.phase }, { on := 35, ground := Ground.phase }, { on := 36, ground := Ground.phase }, { on := 37, ground := Ground.phase }, { on := 38, ground := Ground.phase }, { on := 39, ground := Ground.phase }, { on := 40, ground := Ground.phase }, { on := 41, ground := Ground.phase }, { on := 42, ground := Ground.phase }, { on := 43, ground := Ground.phase }, { on := 44, ground := Ground.phase }, { on := 45, ground := Ground.phase }, { on := 46, ground := Ground.phase }, { on := 47, ground := Ground.phase }, { on := 48, ground := Ground.phase }, { on := 49, ground := Ground.phase }, { on := 50, ground := Ground.phase }, { on := 51, ground := Ground.phase }, { on := 52, ground := Ground.phase }, { on := 53, ground := Ground.phase }, { on := 54, ground := Ground.phase }, { on := 55, ground := Ground.phase }, { on := 56, ground := Ground.phase }, { on := 57, ground := Ground.phase }, { on := 58, ground := Ground.phase }, { on := 59, ground := Ground.phase }], guard := none }) (v := ?_) rfl (by kernel_rfl) (by kernel_rfl) (by kernel_rfl) (fun _ _ _ h => h) (Or.inl ⟨by rfl, ?_⟩) (by assumption) ?_
      rotate_left
      · intro w hSw; (try dsimp only at hSw); go_simp <;> with_reducible rfl
      simp only [Act.put, List.setIfInBounds_toArray, List.set_cons_zero, List.set_cons_succ]
      refine wpAnyH_done (by kernel_rfl) ?_ _
      skip
      go_wp2
      go_ret
      exact ⟨ret_bool (by simp), hB7.out⟩
  · as_aux_lemma =>
      have hlen := hP.out.ok.len
      have hmost := hP.out.ok.most
      have hc0 : Hid (∀ V lo hi c, Pz lo hi g gb r rb rcap n c D V → V.cell? ⟨r, 0, none⟩ = some (.slice (some ⟨rb, 0, none⟩) D.bytes.length rcap) ∧ V.cell? ⟨r, 1, none⟩ = some (.int .i64 D.writes) ∧ (convert 22 9 (.slice (some ⟨rb, 0, none⟩) D.bytes.length rcap)).run Try.prog V = .ok (.string (strB D.bytes)) V) := fun V lo hi c hV => ⟨hV.rk.cells.1, hV.rk.cells.2.1, conv_bytes hV.rk.rowC⟩
      have KB : Hid (∀ V lo hi c, Pz lo hi g gb r rb rcap n c D V → Calls Try.prog 14 #[.pointer (some ⟨g, 0, none⟩)] V fun e w' => e = .returned (.int .i64 (n : Int)) ∧ w' = V) := fun V lo hi c hV => blocksF hV.dk hV.ok.len hV.ok.most
      have KC : Hid (∀ V lo hi c, Pz lo hi g gb r rb rcap n c D V → Calls Try.prog 15 #[.pointer (some ⟨r, 0, none⟩)] V fun e w' => e = .returned (.int .i64 (n : Int)) ∧ w' = V) := fun V lo hi c hV => rBlocksF hV.rk hV.ok.len hV.ok.most
      have KW : Hid (∀ V lo hi c, Pz lo hi g gb r rb rcap n c D V → Calls Try.prog 17 #[.pointer (some ⟨g, 0, none⟩)] V fun e w' => e = .returned (.int .i64 D.writes) ∧ w' = V) := fun V lo hi c hV => writesF hV.dk
      have KI : Hid (∀ V lo hi c, Pz lo hi g gb r rb rcap n c D V → Calls Try.prog 16 #[.pointer (some ⟨g, 0, none⟩)] V fun e w' => ∃ gi, e = .returned (.slice (some ⟨gi, 0, none⟩) D.bytes.length D.bytes.length) ∧ (convert 22 9 (.slice (some ⟨gi, 0, none⟩) D.bytes.length D.bytes.length)).run Try.prog w' = .ok (.string (strB D.bytes)) w' ∧ Hid (Below V.heap.size V w')) := fun V lo hi c hV => (imageF hV.dk (by rw [hlen]; omega)).mono fun e w' ⟨h1, h2, h3⟩ => ⟨_, h1, conv_bytes (RowC.of_bk h2.out (fun i z hz => by rw [Nat.zero_add]; exact hz) rfl (Nat.le_refl _)), h3⟩
      clear hlen hmost
      generalize D.bytes.length = ln at *
      generalize strB D.bytes = bs at *
      generalize D.writes = wn at *
      go_upto_region 12 with fail
      refine wp_region_held_drew (S := (fun V => (V.cell? ⟨r, 0, none⟩ = some (.slice (some ⟨rb, 0, none⟩) ln rcap) ∧ V.cell? ⟨r, 1, none⟩ = some (.int .i64 wn) ∧ (convert 22 9 (.slice (some ⟨rb, 0, none⟩) ln rcap)).run Try.prog V = .ok (.string bs) V))) (by kernel_rfl) ?_ (fun hHeld => ?_)
      · exact hc0.out _ _ _ _ (hP.out.up (Below.refl _ wr).drew)
      refine wpAnyH_take (i := 0) (oi := { dst := some 118, op := Op.move (Operand.tmp 7), type := 24, pos := "law.go:74", after := #[], guard := none }) (v := ?_) rfl (by kernel_rfl) (by kernel_rfl) (by kernel_rfl) (fun _ _ _ h => h) (Or.inl ⟨by rfl, ?_⟩) (by assumption) ?_
      rotate_left
      · intro w hSw; (try dsimp only at hSw); go_simp <;> with_reducible rfl
      simp only [Act.put, List.setIfInBounds_toArray, List.set_cons_zero, List.set_cons_succ]
      refine wpAnyH_take (i := 1) (oi := { dst := some 119, op := Op.binOp BinOp.eql 24 (Operand.tmp 118) (Operand.const (Value.pointer none)) 24, type := 4, pos := "law.go:74", after := #[{ on := 0, ground := Ground.data }], guard := none }) (v := ?_) rfl (by kernel_rfl) (by kernel_rfl) (by kernel_rfl) (fun _ _ _ h => h) (Or.inl ⟨by rfl, ?_⟩) (by assumption) ?_
      rotate_left
      · intro w hSw; (try dsimp only at hSw); go_simp <;> with_reducible rfl
      simp only [Act.put, List.setIfInBounds_toArray, List.set_cons_zero, List.set_cons_succ]
      refine wpAnyH_take (i := 2) (oi := { dst := some 120, op := Op.move (Operand.tmp 119), type := 4, pos := "law.go:74", after := #[{ on := 1, ground := Ground.data }], guard := none }) (v := ?_) rfl (by kernel_rfl) (by kernel_rfl) (by kernel_rfl) (fun _ _ _ h => h) (Or.inl ⟨by rfl, ?_⟩) (by assumption) ?_
      rotate_left
      · intro w hSw; (try dsimp only at hSw); go_simp <;> with_reducible rfl
      simp only [Act.put, List.setIfInBounds_toArray, List.set_cons_zero, List.set_cons_succ]
      refine wpAnyH_take (i := 3) (oi := { dst := some 121, op := Op.move (Operand.tmp 7), type := 24, pos := "law.go:74", after := #[{ on := 2, ground := Ground.guard }], guard := some (2, false) }) (v := ?_) rfl (by kernel_rfl) (by kernel_rfl) (by kernel_rfl) (fun _ _ _ h => h) (Or.inl ⟨by rfl, ?_⟩) (by assumption) ?_
      rotate_left
      · intro w hSw; (try dsimp only at hSw); go_simp <;> with_reducible rfl
      simp only [Act.put, List.setIfInBounds_toArray, List.set_cons_zero, List.set_cons_succ]
      refine wpAnyH_take (i := 5) (oi := { dst := some 123, op := Op.move (Operand.tmp 9), type := 28, pos := "law.go:74", after := #[{ on := 2, ground := Ground.guard }], guard := some (2, false) }) (v := ?_) rfl (by kernel_rfl) (by kernel_rfl) (by kernel_rfl) (fun _ _ _ h => h) (Or.inl ⟨by rfl, ?_⟩) (by assumption) ?_
      rotate_left
      · intro w hSw; (try dsimp only at hSw); go_simp <;> with_reducible rfl
      simp only [Act.put, List.setIfInBounds_toArray, List.set_cons_zero, List.set_cons_succ]
      refine wpAnyH_ready (rs := [4]) (by kernel_rfl) (by simp) ?_
      refine AllReadyH.cons (o := { dst := some 122, op := Op.call { callee := Callee.value (Operand.func 14), args := #[Operand.tmp 121], argTypes := #[24] }, type := 3, pos := "law.go:74", after := #[{ on := 3, ground := Ground.data }, { on := 2, ground := Ground.chain }, { on := 2, ground := Ground.guard }], guard := some (2, false) }) rfl (fun K hK => ?_) AllReadyH.nil
      go_simp
      go_at_call 14; refine (KB.out _ _ _ _ (hP.out.up (Below.refl _ wr).drew)).mono ?_; rintro e w9 ⟨rfl, hw1⟩; obtain rfl : wr.drew = w9 := hw1.symm; (try dsimp only)
      refine hK.out _ _ ?_ (fun hHeld => ?_)
      · exact hc0.out _ _ _ _ (hP.out.up (Below.refl _ wr).drew)
      clear hK K
      try simp only [Act.put, List.setIfInBounds_toArray, List.set_cons_zero, List.set_cons_succ]
      refine wpAnyH_ready (rs := [6]) (by kernel_rfl) (by simp) ?_
      refine AllReadyH.cons (o := { dst := some 124, op := Op.call { callee := Callee.value (Operand.func 15), args := #[Operand.tmp 123], argTypes := #[28] }, type := 3, pos := "law.go:74", after := #[{ on := 5, ground := Ground.data }, { on := 4, ground := Ground.chain }, { on := 2, ground := Ground.guard }], guard := some (2, false) }) rfl (fun K hK => ?_) AllReadyH.nil
      go_simp
      go_at_call 15; refine (KC.out _ _ _ _ (hP.out.up (Below.refl _ wr).drew)).mono ?_; rintro e w9 ⟨rfl, hw1⟩; obtain rfl : wr.drew = w9 := hw1.symm; (try dsimp only)
      refine hK.out _ _ ?_ (fun hHeld => ?_)
      · exact hc0.out _ _ _ _ (hP.out.up (Below.refl _ wr).drew)
      clear hK K
      try simp only [Act.put, List.setIfInBounds_toArray, List.set_cons_zero, List.set_cons_succ]
      refine wpAnyH_take (i := 7) (oi := { dst := some 125, op := Op.binOp BinOp.eql 3 (Operand.tmp 122) (Operand.tmp 124) 3, type := 4, pos := "law.go:74", after := #[{ on := 4, ground := Ground.data }, { on := 6, ground := Ground.data }, { on := 2, ground := Ground.guard }], guard := some (2, false) }) (v := ?_) rfl (by kernel_rfl) (by kernel_rfl) (by kernel_rfl) (fun _ _ _ h => h) (Or.inl ⟨by rfl, ?_⟩) (by assumption) ?_
      rotate_left
      · intro w hSw; (try dsimp only at hSw); go_simp <;> with_reducible rfl
      simp only [Act.put, List.setIfInBounds_toArray, List.set_cons_zero, List.set_cons_succ]
      refine wpAnyH_take (i := 8) (oi := { dst := some 126, op := Op.move (Operand.tmp 125), type := 4, pos := "law.go:74", after := #[{ on := 7, ground := Ground.data }, { on := 6, ground := Ground.chain }, { on := 2, ground := Ground.guard }], guard := some (2, false) }) (v := ?_) rfl (by kernel_rfl) (by kernel_rfl) (by kernel_rfl) (fun _ _ _ h => h) (Or.inl ⟨by rfl, ?_⟩) (by assumption) ?_
      rotate_left
      · intro w hSw; (try dsimp only at hSw); go_simp <;> with_reducible rfl
      simp only [Act.put, List.setIfInBounds_toArray, List.set_cons_zero, List.set_cons_succ]
      refine wpAnyH_take (i := 9) (oi := { dst := some 127, op := Op.move (Operand.tmp 7), type := 24, pos := "law.go:74", after := #[{ on := 8, ground := Ground.guard }], guard := some (8, true) }) (v := ?_) rfl (by kernel_rfl) (by kernel_rfl) (by kernel_rfl) (fun _ _ _ h => h) (Or.inl ⟨by rfl, ?_⟩) (by assumption) ?_
      rotate_left
      · intro w hSw; (try dsimp only at hSw); go_simp <;> with_reducible rfl
      simp only [Act.put, List.setIfInBounds_toArray, List.set_cons_zero, List.set_cons_succ]
      refine wpAnyH_take (i := 12) (oi := { dst := some 130, op := Op.move (Operand.tmp 9), type := 28, pos := "law.go:74", after := #[{ on := 8, ground := Ground.guard }], guard := some (8, true) }) (v := ?_) rfl (by kernel_rfl) (by kernel_rfl) (by kernel_rfl) (fun _ _ _ h => h) (Or.inl ⟨by rfl, ?_⟩) (by assumption) ?_
      rotate_left
      · intro w hSw; (try dsimp only at hSw); go_simp <;> with_reducible rfl
      simp only [Act.put, List.setIfInBounds_toArray, List.set_cons_zero, List.set_cons_succ]
      refine wpAnyH_take (i := 13) (oi := { dst := some 131, op := Op.nilCheck (Operand.tmp 130), type := 0, pos := "law.go:74", after := #[{ on := 12, ground := Ground.data }, { on := 8, ground := Ground.guard }], guard := some (8, true) }) (v := ?_) rfl (by kernel_rfl) (by kernel_rfl) (by kernel_rfl) (fun _ _ _ h => h) (Or.inl ⟨by rfl, ?_⟩) (by assumption) ?_
      rotate_left
      · intro w hSw; (try dsimp only at hSw); go_simp <;> with_reducible rfl
      simp only [Act.put, List.setIfInBounds_toArray, List.set_cons_zero, List.set_cons_succ]
      refine wpAnyH_take (i := 14) (oi := { dst := some 132, op := Op.fieldAddr 41 (Operand.tmp 131) 0, type := 0, pos := "law.go:74", after := #[{ on := 13, ground := Ground.data }, { on := 8, ground := Ground.guard }], guard := some (8, true) }) (v := ?_) rfl (by kernel_rfl) (by kernel_rfl) (by kernel_rfl) (fun _ _ _ h => h) (Or.inl ⟨by rfl, ?_⟩) (by assumption) ?_
      rotate_left
      · intro w hSw; (try dsimp only at hSw); go_simp <;> with_reducible rfl
      simp only [Act.put, List.setIfInBounds_toArray, List.set_cons_zero, List.set_cons_succ]
      refine wpAnyH_take (i := 15) (oi := { dst := some 133, op := Op.load 22 (Operand.tmp 132), type := 22, pos := "law.go:74", after := #[{ on := 14, ground := Ground.data }, { on := 8, ground := Ground.guard }], guard := some (8, true) }) (v := ?_) rfl (by kernel_rfl) (by kernel_rfl) (by kernel_rfl) (fun _ _ _ h => h) (Or.inl ⟨by rfl, ?_⟩) (by assumption) ?_
      rotate_left
      · intro w hSw; (try dsimp only at hSw); go_simp <;> with_reducible rfl
      simp only [Act.put, List.setIfInBounds_toArray, List.set_cons_zero, List.set_cons_succ]
      refine wpAnyH_take (i := 16) (oi := { dst := some 134, op := Op.convert 22 9 (Operand.tmp 133), type := 9, pos := "law.go:74", after := #[{ on := 15, ground := Ground.data }, { on := 8, ground := Ground.guard }], guard := some (8, true) }) (v := ?_) rfl (by kernel_rfl) (by kernel_rfl) (by kernel_rfl) (fun _ _ _ h => h) (Or.inl ⟨by rfl, ?_⟩) (by assumption) ?_
      rotate_left
      · intro w hSw; (try dsimp only at hSw); go_simp <;> with_reducible rfl
      simp only [Act.put, List.setIfInBounds_toArray, List.set_cons_zero, List.set_cons_succ]
      refine wpAnyH_ready (rs := [10]) (by kernel_rfl) (by simp) ?_
      refine AllReadyH.cons (o := { dst := some 128, op := Op.call { callee := Callee.value (Operand.func 16), args := #[Operand.tmp 127], argTypes := #[24] }, type := 22, pos := "law.go:74", after := #[{ on := 9, ground := Ground.data }, { on := 8, ground := Ground.chain }, { on := 8, ground := Ground.guard }], guard := some (8, true) }) rfl (fun K hK => ?_) AllReadyH.nil
      go_simp
      go_at_call 16; refine (KI.out _ _ _ _ (hP.out.up (Below.refl _ wr).drew)).mono ?_; rintro e w6 ⟨gi, rfl, hcv6, hb6⟩; have hP6 := hide' (Pz.up (hP.out.up (Below.refl _ wr).drew) hb6.out); have hB6 := hide' ((hB.out.trans ((Below.refl _ wr).drew.mono hB.out.size)).trans (hb6.out.mono (hB.out.trans ((Below.refl _ wr).drew.mono hB.out.size)).size)); (try dsimp only)
      refine hK.out _ _ ?_ (fun hHeld => ?_)
      · exact hc0.out _ _ _ _ (hP6.out)
      clear hK K
      try simp only [Act.put, List.setIfInBounds_toArray, List.set_cons_zero, List.set_cons_succ]
      refine wpAnyH_ready (rs := [11]) (by kernel_rfl) (by simp) ?_
      refine AllReadyH.cons (o := { dst := some 129, op := Op.convert 22 9 (Operand.tmp 128), type := 9, pos := "law.go:74", after := #[{ on := 10, ground := Ground.data }, { on := 8, ground := Ground.guard }], guard := some (8, true) }) rfl (fun K hK => ?_) AllReadyH.nil
      go_simp
      refine hK.out _ _ ?_ (fun hHeld => ?_)
      · exact hc0.out _ _ _ _ (hP6.out)
      clear hK K
      try simp only [Act.put, List.setIfInBounds_toArray, List.set_cons_zero, List.set_cons_succ]
      refine wpAnyH_take (i := 17) (oi := { dst := some 135, op := Op.binOp BinOp.eql 9 (Operand.tmp 129) (Operand.tmp 134) 9, type := 4, pos := "law.go:74", after := #[{ on := 11, ground := Ground.data }, { on := 16, ground := Ground.data }, { on := 8, ground := Ground.guard }], guard := some (8, true) }) (v := ?_) rfl (by kernel_rfl) (by kernel_rfl) (by kernel_rfl) (fun _ _ _ h => h) (Or.inl ⟨by rfl, ?_⟩) (by assumption) ?_
      rotate_left
      · intro w hSw; (try dsimp only at hSw); go_simp <;> with_reducible rfl
      simp only [Act.put, List.setIfInBounds_toArray, List.set_cons_zero, List.set_cons_succ]
      refine wpAnyH_take (i := 18) (oi := { dst := some 136, op := Op.pick (Operand.tmp 126) (Operand.tmp 135) (Operand.const (Value.bool false)), type := 4, pos := "law.go:74", after := #[{ on := 8, ground := Ground.data }, { on := 17, ground := Ground.data }, { on := 2, ground := Ground.guard }], guard := some (2, false) }) (v := ?_) rfl (by kernel_rfl) (by kernel_rfl) (by kernel_rfl) (fun _ _ _ h => h) (Or.inl ⟨by rfl, ?_⟩) (by assumption) ?_
      rotate_left
      · intro w hSw; (try dsimp only at hSw); go_simp <;> with_reducible rfl
      simp only [Act.put, List.setIfInBounds_toArray, List.set_cons_zero, List.set_cons_succ]
      refine wpAnyH_take (i := 19) (oi := { dst := some 137, op := Op.move (Operand.tmp 136), type := 4, pos := "law.go:74", after := #[{ on := 18, ground := Ground.data }, { on := 10, ground := Ground.chain }, { on := 2, ground := Ground.guard }], guard := some (2, false) }) (v := ?_) rfl (by kernel_rfl) (by kernel_rfl) (by kernel_rfl) (fun _ _ _ h => h) (Or.inl ⟨by rfl, ?_⟩) (by assumption) ?_
      rotate_left
      · intro w hSw; (try dsimp only at hSw); go_simp <;> with_reducible rfl
      simp only [Act.put, List.setIfInBounds_toArray, List.set_cons_zero, List.set_cons_succ]
      refine wpAnyH_take (i := 20) (oi := { dst := some 138, op := Op.move (Operand.tmp 7), type := 24, pos := "law.go:74", after := #[{ on := 19, ground := Ground.guard }], guard := some (19, true) }) (v := ?_) rfl (by kernel_rfl) (by kernel_rfl) (by kernel_rfl) (fun _ _ _ h => h) (Or.inl ⟨by rfl, ?_⟩) (by assumption) ?_
      rotate_left
      · intro w hSw; (try dsimp only at hSw); go_simp <;> with_reducible rfl
      simp only [Act.put, List.setIfInBounds_toArray, List.set_cons_zero, List.set_cons_succ]
      refine wpAnyH_take (i := 22) (oi := { dst := some 140, op := Op.move (Operand.tmp 9), type := 28, pos := "law.go:74", after := #[{ on := 19, ground := Ground.guard }], guard := some (19, true) }) (v := ?_) rfl (by kernel_rfl) (by kernel_rfl) (by kernel_rfl) (fun _ _ _ h => h) (Or.inl ⟨by rfl, ?_⟩) (by assumption) ?_
      rotate_left
      · intro w hSw; (try dsimp only at hSw); go_simp <;> with_reducible rfl
      simp only [Act.put, List.setIfInBounds_toArray, List.set_cons_zero, List.set_cons_succ]
      refine wpAnyH_take (i := 23) (oi := { dst := some 141, op := Op.nilCheck (Operand.tmp 140), type := 0, pos := "law.go:74", after := #[{ on := 22, ground := Ground.data }, { on := 19, ground := Ground.guard }], guard := some (19, true) }) (v := ?_) rfl (by kernel_rfl) (by kernel_rfl) (by kernel_rfl) (fun _ _ _ h => h) (Or.inl ⟨by rfl, ?_⟩) (by assumption) ?_
      rotate_left
      · intro w hSw; (try dsimp only at hSw); go_simp <;> with_reducible rfl
      simp only [Act.put, List.setIfInBounds_toArray, List.set_cons_zero, List.set_cons_succ]
      refine wpAnyH_take (i := 24) (oi := { dst := some 142, op := Op.fieldAddr 41 (Operand.tmp 141) 1, type := 0, pos := "law.go:74", after := #[{ on := 23, ground := Ground.data }, { on := 19, ground := Ground.guard }], guard := some (19, true) }) (v := ?_) rfl (by kernel_rfl) (by kernel_rfl) (by kernel_rfl) (fun _ _ _ h => h) (Or.inl ⟨by rfl, ?_⟩) (by assumption) ?_
      rotate_left
      · intro w hSw; (try dsimp only at hSw); go_simp <;> with_reducible rfl
      simp only [Act.put, List.setIfInBounds_toArray, List.set_cons_zero, List.set_cons_succ]
      refine wpAnyH_take (i := 25) (oi := { dst := some 143, op := Op.load 3 (Operand.tmp 142), type := 3, pos := "law.go:74", after := #[{ on := 24, ground := Ground.data }, { on := 19, ground := Ground.guard }], guard := some (19, true) }) (v := ?_) rfl (by kernel_rfl) (by kernel_rfl) (by kernel_rfl) (fun _ _ _ h => h) (Or.inl ⟨by rfl, ?_⟩) (by assumption) ?_
      rotate_left
      · intro w hSw; (try dsimp only at hSw); go_simp <;> with_reducible rfl
      simp only [Act.put, List.setIfInBounds_toArray, List.set_cons_zero, List.set_cons_succ]
      refine wpAnyH_ready (rs := [21]) (by kernel_rfl) (by simp) ?_
      refine AllReadyH.cons (o := { dst := some 139, op := Op.call { callee := Callee.value (Operand.func 17), args := #[Operand.tmp 138], argTypes := #[24] }, type := 3, pos := "law.go:74", after := #[{ on := 20, ground := Ground.data }, { on := 19, ground := Ground.chain }, { on := 19, ground := Ground.guard }], guard := some (19, true) }) rfl (fun K hK => ?_) AllReadyH.nil
      go_simp
      go_at_call 17; refine (KW.out _ _ _ _ (hP6.out)).mono ?_; rintro e w9 ⟨rfl, hw1⟩; obtain rfl : w6 = w9 := hw1.symm; (try dsimp only)
      refine hK.out _ _ ?_ (fun hHeld => ?_)
      · exact hc0.out _ _ _ _ (hP6.out)
      clear hK K
      try simp only [Act.put, List.setIfInBounds_toArray, List.set_cons_zero, List.set_cons_succ]
      refine wpAnyH_take (i := 26) (oi := { dst := some 144, op := Op.binOp BinOp.eql 3 (Operand.tmp 139) (Operand.tmp 143) 3, type := 4, pos := "law.go:74", after := #[{ on := 21, ground := Ground.data }, { on := 25, ground := Ground.data }, { on := 19, ground := Ground.guard }], guard := some (19, true) }) (v := ?_) rfl (by kernel_rfl) (by kernel_rfl) (by kernel_rfl) (fun _ _ _ h => h) (Or.inl ⟨by rfl, ?_⟩) (by assumption) ?_
      rotate_left
      · intro w hSw; (try dsimp only at hSw); go_simp <;> with_reducible rfl
      simp only [Act.put, List.setIfInBounds_toArray, List.set_cons_zero, List.set_cons_succ]
      refine wpAnyH_take (i := 27) (oi := { dst := some 145, op := Op.pick (Operand.tmp 137) (Operand.tmp 144) (Operand.const (Value.bool false)), type := 4, pos := "law.go:74", after := #[{ on := 19, ground := Ground.data }, { on := 26, ground := Ground.data }, { on := 2, ground := Ground.guard }], guard := some (2, false) }) (v := ?_) rfl (by kernel_rfl) (by kernel_rfl) (by kernel_rfl) (fun _ _ _ h => h) (Or.inl ⟨by rfl, ?_⟩) (by assumption) ?_
      rotate_left
      · intro w hSw; (try dsimp only at hSw); go_simp <;> with_reducible rfl
      simp only [Act.put, List.setIfInBounds_toArray, List.set_cons_zero, List.set_cons_succ]
      refine wpAnyH_take (i := 28) (oi := { dst := some 146, op := Op.pick (Operand.tmp 120) (Operand.const (Value.bool true)) (Operand.tmp 145), type := 4, pos := "law.go:74", after := #[{ on := 2, ground := Ground.data }, { on := 27, ground := Ground.data }], guard := none }) (v := ?_) rfl (by kernel_rfl) (by kernel_rfl) (by kernel_rfl) (fun _ _ _ h => h) (Or.inl ⟨by rfl, ?_⟩) (by assumption) ?_
      rotate_left
      · intro w hSw; (try dsimp only at hSw); go_simp <;> with_reducible rfl
      simp only [Act.put, List.setIfInBounds_toArray, List.set_cons_zero, List.set_cons_succ]
      refine wpAnyH_take (i := 29) (oi := { dst := some 147, op := Op.move (Operand.tmp 146), type := 4, pos := "law.go:74", after := #[{ on := 28, ground := Ground.data }, { on := 21, ground := Ground.chain }], guard := none }) (v := ?_) rfl (by kernel_rfl) (by kernel_rfl) (by kernel_rfl) (fun _ _ _ h => h) (Or.inl ⟨by rfl, ?_⟩) (by assumption) ?_
      rotate_left
      · intro w hSw; (try dsimp only at hSw); go_simp <;> with_reducible rfl
      simp only [Act.put, List.setIfInBounds_toArray, List.set_cons_zero, List.set_cons_succ]
      refine wpAnyH_take (i := 30) (oi := { dst := some 148, op := Op.move (Operand.tmp 11), type := 24, pos := "law.go:74", after := #[{ on := 29, ground := Ground.guard }], guard := some (29, true) }) (v := ?_) rfl (by kernel_rfl) (by kernel_rfl) (by kernel_rfl) (fun _ _ _ h => h) (Or.inl ⟨by rfl, ?_⟩) (by assumption) ?_
      rotate_left
      · intro w hSw; (try dsimp only at hSw); go_simp <;> with_reducible rfl
      simp only [Act.put, List.setIfInBounds_toArray, List.set_cons_zero, List.set_cons_succ]
      refine wpAnyH_take (i := 31) (oi := { dst := some 149, op := Op.binOp BinOp.eql 24 (Operand.tmp 148) (Operand.const (Value.pointer none)) 24, type := 4, pos := "law.go:74", after := #[{ on := 30, ground := Ground.data }, { on := 29, ground := Ground.guard }], guard := some (29, true) }) (v := ?_) rfl (by kernel_rfl) (by kernel_rfl) (by kernel_rfl) (fun _ _ _ h => h) (Or.inl ⟨by rfl, ?_⟩) (by assumption) ?_
      rotate_left
      · intro w hSw; (try dsimp only at hSw); go_simp <;> with_reducible rfl
      simp only [Act.put, List.setIfInBounds_toArray, List.set_cons_zero, List.set_cons_succ]
      refine wpAnyH_take (i := 32) (oi := { dst := some 150, op := Op.move (Operand.tmp 149), type := 4, pos := "law.go:74", after := #[{ on := 31, ground := Ground.data }, { on := 29, ground := Ground.chain }, { on := 29, ground := Ground.guard }], guard := some (29, true) }) (v := ?_) rfl (by kernel_rfl) (by kernel_rfl) (by kernel_rfl) (fun _ _ _ h => h) (Or.inl ⟨by rfl, ?_⟩) (by assumption) ?_
      rotate_left
      · intro w hSw; (try dsimp only at hSw); go_simp <;> with_reducible rfl
      simp only [Act.put, List.setIfInBounds_toArray, List.set_cons_zero, List.set_cons_succ]
      refine wpAnyH_take (i := 33) (oi := { dst := some 151, op := Op.move (Operand.tmp 11), type := 24, pos := "law.go:74", after := #[{ on := 32, ground := Ground.guard }], guard := some (32, false) }) (v := undef) rfl (by kernel_rfl) (by kernel_rfl) (by kernel_rfl) (fun _ _ _ h => h) (Or.inr ⟨by rfl, rfl⟩) (by assumption) ?_
      simp only [Act.put, List.setIfInBounds_toArray, List.set_cons_zero, List.set_cons_succ]
      refine wpAnyH_take (i := 34) (oi := { dst := some 152, op := Op.call { callee := Callee.value (Operand.func 14), args := #[Operand.tmp 151], argTypes := #[24] }, type := 3, pos := "law.go:74", after := #[{ on := 33, ground := Ground.data }, { on := 32, ground := Ground.chain }, { on := 32, ground := Ground.guard }], guard := some (32, false) }) (v := undef) rfl (by kernel_rfl) (by kernel_rfl) (by kernel_rfl) (fun _ _ _ h => h) (Or.inr ⟨by rfl, rfl⟩) (by assumption) ?_
      simp only [Act.put, List.setIfInBounds_toArray, List.set_cons_zero, List.set_cons_succ]
      refine wpAnyH_take (i := 35) (oi := { dst := some 153, op := Op.move (Operand.tmp 13), type := 28, pos := "law.go:74", after := #[{ on := 32, ground := Ground.guard }], guard := some (32, false) }) (v := undef) rfl (by kernel_rfl) (by kernel_rfl) (by kernel_rfl) (fun _ _ _ h => h) (Or.inr ⟨by rfl, rfl⟩) (by assumption) ?_
      simp only [Act.put, List.setIfInBounds_toArray, List.set_cons_zero, List.set_cons_succ]
      refine wpAnyH_take (i := 36) (oi := { dst := some 154, op := Op.call { callee := Callee.value (Operand.func 15), args := #[Operand.tmp 153], argTypes := #[28] }, type := 3, pos := "law.go:74", after := #[{ on := 35, ground := Ground.data }, { on := 34, ground := Ground.chain }, { on := 32, ground := Ground.guard }], guard := some (32, false) }) (v := undef) rfl (by kernel_rfl) (by kernel_rfl) (by kernel_rfl) (fun _ _ _ h => h) (Or.inr ⟨by rfl, rfl⟩) (by assumption) ?_
      simp only [Act.put, List.setIfInBounds_toArray, List.set_cons_zero, List.set_cons_succ]
      refine wpAnyH_take (i := 37) (oi := { dst := some 155, op := Op.binOp BinOp.eql 3 (Operand.tmp 152) (Operand.tmp 154) 3, type := 4, pos := "law.go:74", after := #[{ on := 34, ground := Ground.data }, { on := 36, ground := Ground.data }, { on := 32, ground := Ground.guard }], guard := some (32, false) }) (v := undef) rfl (by kernel_rfl) (by kernel_rfl) (by kernel_rfl) (fun _ _ _ h => h) (Or.inr ⟨by rfl, rfl⟩) (by assumption) ?_
      simp only [Act.put, List.setIfInBounds_toArray, List.set_cons_zero, List.set_cons_succ]
      refine wpAnyH_take (i := 38) (oi := { dst := some 156, op := Op.move (Operand.tmp 155), type := 4, pos := "law.go:74", after := #[{ on := 37, ground := Ground.data }, { on := 36, ground := Ground.chain }, { on := 32, ground := Ground.guard }], guard := some (32, false) }) (v := undef) rfl (by kernel_rfl) (by kernel_rfl) (by kernel_rfl) (fun _ _ _ h => h) (Or.inr ⟨by rfl, rfl⟩) (by assumption) ?_
      simp only [Act.put, List.setIfInBounds_toArray, List.set_cons_zero, List.set_cons_succ]
      refine wpAnyH_take (i := 39) (oi := { dst := some 157, op := Op.move (Operand.tmp 11), type := 24, pos := "law.go:74", after := #[{ on := 38, ground := Ground.guard }], guard := some (38, true) }) (v := undef) rfl (by kernel_rfl) (by kernel_rfl) (by kernel_rfl) (fun _ _ _ h => h) (Or.inr ⟨by rfl, rfl⟩) (by assumption) ?_
      simp only [Act.put, List.setIfInBounds_toArray, List.set_cons_zero, List.set_cons_succ]
      refine wpAnyH_take (i := 40) (oi := { dst := some 158, op := Op.call { callee := Callee.value (Operand.func 16), args := #[Operand.tmp 157], argTypes := #[24] }, type := 22, pos := "law.go:74", after := #[{ on := 39, ground := Ground.data }, { on := 38, ground := Ground.chain }, { on := 38, ground := Ground.guard }], guard := some (38, true) }) (v := undef) rfl (by kernel_rfl) (by kernel_rfl) (by kernel_rfl) (fun _ _ _ h => h) (Or.inr ⟨by rfl, rfl⟩) (by assumption) ?_
      simp only [Act.put, List.setIfInBounds_toArray, List.set_cons_zero, List.set_cons_succ]
      refine wpAnyH_take (i := 41) (oi := { dst := some 159, op := Op.convert 22 9 (Operand.tmp 158), type := 9, pos := "law.go:74", after := #[{ on := 40, ground := Ground.data }, { on := 38, ground := Ground.guard }], guard := some (38, true) }) (v := undef) rfl (by kernel_rfl) (by kernel_rfl) (by kernel_rfl) (fun _ _ _ h => h) (Or.inr ⟨by rfl, rfl⟩) (by assumption) ?_
      simp only [Act.put, List.setIfInBounds_toArray, List.set_cons_zero, List.set_cons_succ]
      refine wpAnyH_take (i := 42) (oi := { dst := some 160, op := Op.move (Operand.tmp 13), type := 28, pos := "law.go:74", after := #[{ on := 38, ground := Ground.guard }], guard := some (38, true) }) (v := undef) rfl (by kernel_rfl) (by kernel_rfl) (by kernel_rfl) (fun _ _ _ h => h) (Or.inr ⟨by rfl, rfl⟩) (by assumption) ?_
      simp only [Act.put, List.setIfInBounds_toArray, List.set_cons_zero, List.set_cons_succ]
      refine wpAnyH_take (i := 43) (oi := { dst := some 161, op := Op.nilCheck (Operand.tmp 160), type := 0, pos := "law.go:74", after := #[{ on := 42, ground := Ground.data }, { on := 38, ground := Ground.guard }], guard := some (38, true) }) (v := undef) rfl (by kernel_rfl) (by kernel_rfl) (by kernel_rfl) (fun _ _ _ h => h) (Or.inr ⟨by rfl, rfl⟩) (by assumption) ?_
      simp only [Act.put, List.setIfInBounds_toArray, List.set_cons_zero, List.set_cons_succ]
      refine wpAnyH_take (i := 44) (oi := { dst := some 162, op := Op.fieldAddr 41 (Operand.tmp 161) 0, type := 0, pos := "law.go:74", after := #[{ on := 43, ground := Ground.data }, { on := 38, ground := Ground.guard }], guard := some (38, true) }) (v := undef) rfl (by kernel_rfl) (by kernel_rfl) (by kernel_rfl) (fun _ _ _ h => h) (Or.inr ⟨by rfl, rfl⟩) (by assumption) ?_
      simp only [Act.put, List.setIfInBounds_toArray, List.set_cons_zero, List.set_cons_succ]
      refine wpAnyH_take (i := 45) (oi := { dst := some 163, op := Op.load 22 (Operand.tmp 162), type := 22, pos := "law.go:74", after := #[{ on := 44, ground := Ground.data }, { on := 38, ground := Ground.guard }], guard := some (38, true) }) (v := undef) rfl (by kernel_rfl) (by kernel_rfl) (by kernel_rfl) (fun _ _ _ h => h) (Or.inr ⟨by rfl, rfl⟩) (by assumption) ?_
      simp only [Act.put, List.setIfInBounds_toArray, List.set_cons_zero, List.set_cons_succ]
      refine wpAnyH_take (i := 46) (oi := { dst := some 164, op := Op.convert 22 9 (Operand.tmp 163), type := 9, pos := "law.go:74", after := #[{ on := 45, ground := Ground.data }, { on := 38, ground := Ground.guard }], guard := some (38, true) }) (v := undef) rfl (by kernel_rfl) (by kernel_rfl) (by kernel_rfl) (fun _ _ _ h => h) (Or.inr ⟨by rfl, rfl⟩) (by assumption) ?_
      simp only [Act.put, List.setIfInBounds_toArray, List.set_cons_zero, List.set_cons_succ]
      refine wpAnyH_take (i := 47) (oi := { dst := some 165, op := Op.binOp BinOp.eql 9 (Operand.tmp 159) (Operand.tmp 164) 9, type := 4, pos := "law.go:74", after := #[{ on := 41, ground := Ground.data }, { on := 46, ground := Ground.data }, { on := 38, ground := Ground.guard }], guard := some (38, true) }) (v := undef) rfl (by kernel_rfl) (by kernel_rfl) (by kernel_rfl) (fun _ _ _ h => h) (Or.inr ⟨by rfl, rfl⟩) (by assumption) ?_
      simp only [Act.put, List.setIfInBounds_toArray, List.set_cons_zero, List.set_cons_succ]
      refine wpAnyH_take (i := 48) (oi := { dst := some 166, op := Op.pick (Operand.tmp 156) (Operand.tmp 165) (Operand.const (Value.bool false)), type := 4, pos := "law.go:74", after := #[{ on := 38, ground := Ground.data }, { on := 47, ground := Ground.data }, { on := 32, ground := Ground.guard }], guard := some (32, false) }) (v := undef) rfl (by kernel_rfl) (by kernel_rfl) (by kernel_rfl) (fun _ _ _ h => h) (Or.inr ⟨by rfl, rfl⟩) (by assumption) ?_
      simp only [Act.put, List.setIfInBounds_toArray, List.set_cons_zero, List.set_cons_succ]
      refine wpAnyH_take (i := 49) (oi := { dst := some 167, op := Op.move (Operand.tmp 166), type := 4, pos := "law.go:74", after := #[{ on := 48, ground := Ground.data }, { on := 40, ground := Ground.chain }, { on := 32, ground := Ground.guard }], guard := some (32, false) }) (v := undef) rfl (by kernel_rfl) (by kernel_rfl) (by kernel_rfl) (fun _ _ _ h => h) (Or.inr ⟨by rfl, rfl⟩) (by assumption) ?_
      simp only [Act.put, List.setIfInBounds_toArray, List.set_cons_zero, List.set_cons_succ]
      refine wpAnyH_take (i := 50) (oi := { dst := some 168, op := Op.move (Operand.tmp 11), type := 24, pos := "law.go:74", after := #[{ on := 49, ground := Ground.guard }], guard := some (49, true) }) (v := undef) rfl (by kernel_rfl) (by kernel_rfl) (by kernel_rfl) (fun _ _ _ h => h) (Or.inr ⟨by rfl, rfl⟩) (by assumption) ?_
      simp only [Act.put, List.setIfInBounds_toArray, List.set_cons_zero, List.set_cons_succ]
      refine wpAnyH_take (i := 51) (oi := { dst := some 169, op := Op.call { callee := Callee.value (Operand.func 17), args := #[Operand.tmp 168], argTypes := #[24] }, type := 3, pos := "law.go:74", after := #[{ on := 50, ground := Ground.data }, { on := 49, ground := Ground.chain }, { on := 49, ground := Ground.guard }], guard := some (49, true) }) (v := undef) rfl (by kernel_rfl) (by kernel_rfl) (by kernel_rfl) (fun _ _ _ h => h) (Or.inr ⟨by rfl, rfl⟩) (by assumption) ?_
      simp only [Act.put, List.setIfInBounds_toArray, List.set_cons_zero, List.set_cons_succ]
      refine wpAnyH_take (i := 52) (oi := { dst := some 170, op := Op.move (Operand.tmp 13), type := 28, pos := "law.go:74", after := #[{ on := 49, ground := Ground.guard }], guard := some (49, true) }) (v := undef) rfl (by kernel_rfl) (by kernel_rfl) (by kernel_rfl) (fun _ _ _ h => h) (Or.inr ⟨by rfl, rfl⟩) (by assumption) ?_
      simp only [Act.put, List.setIfInBounds_toArray, List.set_cons_zero, List.set_cons_succ]
      refine wpAnyH_take (i := 53) (oi := { dst := some 171, op := Op.nilCheck (Operand.tmp 170), type := 0, pos := "law.go:74", after := #[{ on := 52, ground := Ground.data }, { on := 49, ground := Ground.guard }], guard := some (49, true) }) (v := undef) rfl (by kernel_rfl) (by kernel_rfl) (by kernel_rfl) (fun _ _ _ h => h) (Or.inr ⟨by rfl, rfl⟩) (by assumption) ?_
      simp only [Act.put, List.setIfInBounds_toArray, List.set_cons_zero, List.set_cons_succ]
      refine wpAnyH_take (i := 54) (oi := { dst := some 172, op := Op.fieldAddr 41 (Operand.tmp 171) 1, type := 0, pos := "law.go:74", after := #[{ on := 53, ground := Ground.data }, { on := 49, ground := Ground.guard }], guard := some (49, true) }) (v := undef) rfl (by kernel_rfl) (by kernel_rfl) (by kernel_rfl) (fun _ _ _ h => h) (Or.inr ⟨by rfl, rfl⟩) (by assumption) ?_
      simp only [Act.put, List.setIfInBounds_toArray, List.set_cons_zero, List.set_cons_succ]
      refine wpAnyH_take (i := 55) (oi := { dst := some 173, op := Op.load 3 (Operand.tmp 172), type := 3, pos := "law.go:74", after := #[{ on := 54, ground := Ground.data }, { on := 49, ground := Ground.guard }], guard := some (49, true) }) (v := undef) rfl (by kernel_rfl) (by kernel_rfl) (by kernel_rfl) (fun _ _ _ h => h) (Or.inr ⟨by rfl, rfl⟩) (by assumption) ?_
      simp only [Act.put, List.setIfInBounds_toArray, List.set_cons_zero, List.set_cons_succ]
      refine wpAnyH_take (i := 56) (oi := { dst := some 174, op := Op.binOp BinOp.eql 3 (Operand.tmp 169) (Operand.tmp 173) 3, type := 4, pos := "law.go:74", after := #[{ on := 51, ground := Ground.data }, { on := 55, ground := Ground.data }, { on := 49, ground := Ground.guard }], guard := some (49, true) }) (v := undef) rfl (by kernel_rfl) (by kernel_rfl) (by kernel_rfl) (fun _ _ _ h => h) (Or.inr ⟨by rfl, rfl⟩) (by assumption) ?_
      simp only [Act.put, List.setIfInBounds_toArray, List.set_cons_zero, List.set_cons_succ]
      refine wpAnyH_take (i := 57) (oi := { dst := some 175, op := Op.pick (Operand.tmp 167) (Operand.tmp 174) (Operand.const (Value.bool false)), type := 4, pos := "law.go:74", after := #[{ on := 49, ground := Ground.data }, { on := 56, ground := Ground.data }, { on := 32, ground := Ground.guard }], guard := some (32, false) }) (v := undef) rfl (by kernel_rfl) (by kernel_rfl) (by kernel_rfl) (fun _ _ _ h => h) (Or.inr ⟨by rfl, rfl⟩) (by assumption) ?_
      simp only [Act.put, List.setIfInBounds_toArray, List.set_cons_zero, List.set_cons_succ]
      refine wpAnyH_take (i := 58) (oi := { dst := some 176, op := Op.pick (Operand.tmp 150) (Operand.const (Value.bool true)) (Operand.tmp 175), type := 4, pos := "law.go:74", after := #[{ on := 32, ground := Ground.data }, { on := 57, ground := Ground.data }, { on := 29, ground := Ground.guard }], guard := some (29, true) }) (v := ?_) rfl (by kernel_rfl) (by kernel_rfl) (by kernel_rfl) (fun _ _ _ h => h) (Or.inl ⟨by rfl, ?_⟩) (by assumption) ?_
      rotate_left
      · intro w hSw; (try dsimp only at hSw); go_simp <;> with_reducible rfl
      simp only [Act.put, List.setIfInBounds_toArray, List.set_cons_zero, List.set_cons_succ]
      refine wpAnyH_take (i := 59) (oi := { dst := some 177, op := Op.pick (Operand.tmp 147) (Operand.tmp 176) (Operand.const (Value.bool false)), type := 4, pos := "law.go:74", after := #[{ on := 29, ground := Ground.data }, { on := 58, ground := Ground.data }], guard := none }) (v := ?_) rfl (by kernel_rfl) (by kernel_rfl) (by kernel_rfl) (fun _ _ _ h => h) (Or.inl ⟨by rfl, ?_⟩) (by assumption) ?_
      rotate_left
      · intro w hSw; (try dsimp only at hSw); go_simp <;> with_reducible rfl
      simp only [Act.put, List.setIfInBounds_toArray, List.set_cons_zero, List.set_cons_succ]
      refine wpAnyH_take (i := 60) (oi := { dst := some 6, op := Op.assign (Operand.tmp 177), type := 4, pos := "law.go:74", after := #[{ on := 59, ground := Ground.data }, { on := 51, ground := Ground.chain }, { on := 0, ground := Ground.phase }, { on := 1, ground := Ground.phase }, { on := 2, ground := Ground.phase }, { on := 3, ground := Ground.phase }, { on := 4, ground := Ground.phase }, { on := 5, ground := Ground.phase }, { on := 6, ground := Ground.phase }, { on := 7, ground := Ground.phase }, { on := 8, ground := Ground.phase }, { on := 9, ground := Ground.phase }, { on := 10, ground := Ground.phase }, { on := 11, ground := Ground.phase }, { on := 12, ground := Ground.phase }, { on := 13, ground := Ground.phase }, { on := 14, ground := Ground.phase }, { on := 15, ground := Ground.phase }, { on := 16, ground := Ground.phase }, { on := 17, ground := Ground.phase }, { on := 18, ground := Ground.phase }, { on := 19, ground := Ground.phase }, { on := 20, ground := Ground.phase }, { on := 21, ground := Ground.phase }, { on := 22, ground := Ground.phase }, { on := 23, ground := Ground.phase }, { on := 24, ground := Ground.phase }, { on := 25, ground := Ground.phase }, { on := 26, ground := Ground.phase }, { on := 27, ground := Ground.phase }, { on := 28, ground := Ground.phase }, { on := 29, ground := Ground.phase }, { on := 30, ground := Ground.phase }, { on := 31, ground := Ground.phase }, { on := 32, ground := Ground.phase }, { on := 33, ground := Ground.phase }, { on := 34, ground := Ground.phase }, { on := 35, ground := Ground.phase }, { on := 36, ground := Ground.phase }, { on := 37, ground := Ground.phase }, { on := 38, ground := Ground.phase }, { on := 39, ground := Ground.phase }, { on := 40, ground := Ground.phase }, { on := 41, ground := Ground.phase }, { on := 42, ground := Ground.phase }, { on := 43, ground := Ground.phase }, { on := 44, ground := Ground.phase }, { on := 45, ground := Ground.phase }, { on := 46, ground := Ground.phase }, { on := 47, ground := Ground.phase }, { on := 48, ground := Ground.phase }, { on := 49, ground := Ground.phase }, { on := 50, ground := Ground.phase }, { on := 51, ground := Ground.phase }, { on := 52, ground := Ground.phase }, { on := 53, ground := Ground.phase }, { on := 54, ground := Ground.phase }, { on := 55, ground := Ground.phase }, { on := 56, ground := Ground.phase }, { on := 57, ground := Ground.phase }, { on := 58, ground := Ground.phase }, { on := 59, ground := Ground.phase }], guard := none }) (v := ?_) rfl (by kernel_rfl) (by kernel_rfl) (by kernel_rfl) (fun _ _ _ h => h) (Or.inl ⟨by rfl, ?_⟩) (by assumption) ?_
      rotate_left
      · intro w hSw; (try dsimp only at hSw); go_simp <;> with_reducible rfl
      simp only [Act.put, List.setIfInBounds_toArray, List.set_cons_zero, List.set_cons_succ]
      refine wpAnyH_done (by kernel_rfl) ?_ _
      skip
      go_wp2
      go_ret
      exact ⟨ret_bool (by simp), hB6.out⟩
  · as_aux_lemma =>
      have hlen := hP.out.ok.len
      have hmost := hP.out.ok.most
      have hc0 : Hid (∀ V lo hi c, Pz lo hi g gb r rb rcap n c D V → V.cell? ⟨r, 0, none⟩ = some (.slice (some ⟨rb, 0, none⟩) D.bytes.length rcap) ∧ V.cell? ⟨r, 1, none⟩ = some (.int .i64 D.writes) ∧ (convert 22 9 (.slice (some ⟨rb, 0, none⟩) D.bytes.length rcap)).run Try.prog V = .ok (.string (strB D.bytes)) V) := fun V lo hi c hV => ⟨hV.rk.cells.1, hV.rk.cells.2.1, conv_bytes hV.rk.rowC⟩
      have KB : Hid (∀ V lo hi c, Pz lo hi g gb r rb rcap n c D V → Calls Try.prog 14 #[.pointer (some ⟨g, 0, none⟩)] V fun e w' => e = .returned (.int .i64 (n : Int)) ∧ w' = V) := fun V lo hi c hV => blocksF hV.dk hV.ok.len hV.ok.most
      have KC : Hid (∀ V lo hi c, Pz lo hi g gb r rb rcap n c D V → Calls Try.prog 15 #[.pointer (some ⟨r, 0, none⟩)] V fun e w' => e = .returned (.int .i64 (n : Int)) ∧ w' = V) := fun V lo hi c hV => rBlocksF hV.rk hV.ok.len hV.ok.most
      have KW : Hid (∀ V lo hi c, Pz lo hi g gb r rb rcap n c D V → Calls Try.prog 17 #[.pointer (some ⟨g, 0, none⟩)] V fun e w' => e = .returned (.int .i64 D.writes) ∧ w' = V) := fun V lo hi c hV => writesF hV.dk
      have KI : Hid (∀ V lo hi c, Pz lo hi g gb r rb rcap n c D V → Calls Try.prog 16 #[.pointer (some ⟨g, 0, none⟩)] V fun e w' => ∃ gi, e = .returned (.slice (some ⟨gi, 0, none⟩) D.bytes.length D.bytes.length) ∧ (convert 22 9 (.slice (some ⟨gi, 0, none⟩) D.bytes.length D.bytes.length)).run Try.prog w' = .ok (.string (strB D.bytes)) w' ∧ Hid (Below V.heap.size V w')) := fun V lo hi c hV => (imageF hV.dk (by rw [hlen]; omega)).mono fun e w' ⟨h1, h2, h3⟩ => ⟨_, h1, conv_bytes (RowC.of_bk h2.out (fun i z hz => by rw [Nat.zero_add]; exact hz) rfl (Nat.le_refl _)), h3⟩
      clear hlen hmost
      generalize D.bytes.length = ln at *
      generalize strB D.bytes = bs at *
      generalize D.writes = wn at *
      have hlen2 := hP'.out.ok.len
      have hmost2 := hP'.out.ok.most
      have hc02 : Hid (∀ V lo hi c, Pz lo hi g' gb' r' rb' rcap' n' c D' V → V.cell? ⟨r', 0, none⟩ = some (.slice (some ⟨rb', 0, none⟩) D'.bytes.length rcap') ∧ V.cell? ⟨r', 1, none⟩ = some (.int .i64 D'.writes) ∧ (convert 22 9 (.slice (some ⟨rb', 0, none⟩) D'.bytes.length rcap')).run Try.prog V = .ok (.string (strB D'.bytes)) V) := fun V lo hi c hV => ⟨hV.rk.cells.1, hV.rk.cells.2.1, conv_bytes hV.rk.rowC⟩
      have KB2 : Hid (∀ V lo hi c, Pz lo hi g' gb' r' rb' rcap' n' c D' V → Calls Try.prog 14 #[.pointer (some ⟨g', 0, none⟩)] V fun e w' => e = .returned (.int .i64 (n' : Int)) ∧ w' = V) := fun V lo hi c hV => blocksF hV.dk hV.ok.len hV.ok.most
      have KC2 : Hid (∀ V lo hi c, Pz lo hi g' gb' r' rb' rcap' n' c D' V → Calls Try.prog 15 #[.pointer (some ⟨r', 0, none⟩)] V fun e w' => e = .returned (.int .i64 (n' : Int)) ∧ w' = V) := fun V lo hi c hV => rBlocksF hV.rk hV.ok.len hV.ok.most
      have KW2 : Hid (∀ V lo hi c, Pz lo hi g' gb' r' rb' rcap' n' c D' V → Calls Try.prog 17 #[.pointer (some ⟨g', 0, none⟩)] V fun e w' => e = .returned (.int .i64 D'.writes) ∧ w' = V) := fun V lo hi c hV => writesF hV.dk
      have KI2 : Hid (∀ V lo hi c, Pz lo hi g' gb' r' rb' rcap' n' c D' V → Calls Try.prog 16 #[.pointer (some ⟨g', 0, none⟩)] V fun e w' => ∃ gi, e = .returned (.slice (some ⟨gi, 0, none⟩) D'.bytes.length D'.bytes.length) ∧ (convert 22 9 (.slice (some ⟨gi, 0, none⟩) D'.bytes.length D'.bytes.length)).run Try.prog w' = .ok (.string (strB D'.bytes)) w' ∧ Hid (Below V.heap.size V w')) := fun V lo hi c hV => (imageF hV.dk (by rw [hlen2]; omega)).mono fun e w' ⟨h1, h2, h3⟩ => ⟨_, h1, conv_bytes (RowC.of_bk h2.out (fun i z hz => by rw [Nat.zero_add]; exact hz) rfl (Nat.le_refl _)), h3⟩
      clear hlen2 hmost2
      generalize D'.bytes.length = ln2 at *
      generalize strB D'.bytes = bs2 at *
      generalize D'.writes = wn2 at *
      go_upto_region 12 with fail
      refine wp_region_held_drew (S := (fun V => (V.cell? ⟨r, 0, none⟩ = some (.slice (some ⟨rb, 0, none⟩) ln rcap) ∧ V.cell? ⟨r, 1, none⟩ = some (.int .i64 wn) ∧ (convert 22 9 (.slice (some ⟨rb, 0, none⟩) ln rcap)).run Try.prog V = .ok (.string bs) V) ∧ (V.cell? ⟨r', 0, none⟩ = some (.slice (some ⟨rb', 0, none⟩) ln2 rcap') ∧ V.cell? ⟨r', 1, none⟩ = some (.int .i64 wn2) ∧ (convert 22 9 (.slice (some ⟨rb', 0, none⟩) ln2 rcap')).run Try.prog V = .ok (.string bs2) V))) (by kernel_rfl) ?_ (fun hHeld => ?_)
      · exact ⟨hc0.out _ _ _ _ (hP.out.up (Below.refl _ wr).drew), hc02.out _ _ _ _ (hP'.out.up (Below.refl _ wr).drew)⟩
      refine wpAnyH_take (i := 0) (oi := { dst := some 118, op := Op.move (Operand.tmp 7), type := 24, pos := "law.go:74", after := #[], guard := none }) (v := ?_) rfl (by kernel_rfl) (by kernel_rfl) (by kernel_rfl) (fun _ _ _ h => h) (Or.inl ⟨by rfl, ?_⟩) (by assumption) ?_
      rotate_left
      · intro w hSw; (try dsimp only at hSw); go_simp <;> with_reducible rfl
      simp only [Act.put, List.setIfInBounds_toArray, List.set_cons_zero, List.set_cons_succ]
      refine wpAnyH_take (i := 1) (oi := { dst := some 119, op := Op.binOp BinOp.eql 24 (Operand.tmp 118) (Operand.const (Value.pointer none)) 24, type := 4, pos := "law.go:74", after := #[{ on := 0, ground := Ground.data }], guard := none }) (v := ?_) rfl (by kernel_rfl) (by kernel_rfl) (by kernel_rfl) (fun _ _ _ h => h) (Or.inl ⟨by rfl, ?_⟩) (by assumption) ?_
      rotate_left
      · intro w hSw; (try dsimp only at hSw); go_simp <;> with_reducible rfl
      simp only [Act.put, List.setIfInBounds_toArray, List.set_cons_zero, List.set_cons_succ]
      refine wpAnyH_take (i := 2) (oi := { dst := some 120, op := Op.move (Operand.tmp 119), type := 4, pos := "law.go:74", after := #[{ on := 1, ground := Ground.data }], guard := none }) (v := ?_) rfl (by kernel_rfl) (by kernel_rfl) (by kernel_rfl) (fun _ _ _ h => h) (Or.inl ⟨by rfl, ?_⟩) (by assumption) ?_
      rotate_left
      · intro w hSw; (try dsimp only at hSw); go_simp <;> with_reducible rfl
      simp only [Act.put, List.setIfInBounds_toArray, List.set_cons_zero, List.set_cons_succ]
      refine wpAnyH_take (i := 3) (oi := { dst := some 121, op := Op.move (Operand.tmp 7), type := 24, pos := "law.go:74", after := #[{ on := 2, ground := Ground.guard }], guard := some (2, false) }) (v := ?_) rfl (by kernel_rfl) (by kernel_rfl) (by kernel_rfl) (fun _ _ _ h => h) (Or.inl ⟨by rfl, ?_⟩) (by assumption) ?_
      rotate_left
      · intro w hSw; (try dsimp only at hSw); go_simp <;> with_reducible rfl
      simp only [Act.put, List.setIfInBounds_toArray, List.set_cons_zero, List.set_cons_succ]
      refine wpAnyH_take (i := 5) (oi := { dst := some 123, op := Op.move (Operand.tmp 9), type := 28, pos := "law.go:74", after := #[{ on := 2, ground := Ground.guard }], guard := some (2, false) }) (v := ?_) rfl (by kernel_rfl) (by kernel_rfl) (by kernel_rfl) (fun _ _ _ h => h) (Or.inl ⟨by rfl, ?_⟩) (by assumption) ?_
      rotate_left
      · intro w hSw; (try dsimp only at hSw); go_simp <;> with_reducible rfl
      simp only [Act.put, List.setIfInBounds_toArray, List.set_cons_zero, List.set_cons_succ]
      refine wpAnyH_ready (rs := [4]) (by kernel_rfl) (by simp) ?_
      refine AllReadyH.cons (o := { dst := some 122, op := Op.call { callee := Callee.value (Operand.func 14), args := #[Operand.tmp 121], argTypes := #[24] }, type := 3, pos := "law.go:74", after := #[{ on := 3, ground := Ground.data }, { on := 2, ground := Ground.chain }, { on := 2, ground := Ground.guard }], guard := some (2, false) }) rfl (fun K hK => ?_) AllReadyH.nil
      go_simp
      go_at_call 14; refine (KB.out _ _ _ _ (hP.out.up (Below.refl _ wr).drew)).mono ?_; rintro e w9 ⟨rfl, hw1⟩; obtain rfl : wr.drew = w9 := hw1.symm; (try dsimp only)
      refine hK.out _ _ ?_ (fun hHeld => ?_)
      · exact ⟨hc0.out _ _ _ _ (hP.out.up (Below.refl _ wr).drew), hc02.out _ _ _ _ (hP'.out.up (Below.refl _ wr).drew)⟩
      clear hK K
      try simp only [Act.put, List.setIfInBounds_toArray, List.set_cons_zero, List.set_cons_succ]
      refine wpAnyH_ready (rs := [6]) (by kernel_rfl) (by simp) ?_
      refine AllReadyH.cons (o := { dst := some 124, op := Op.call { callee := Callee.value (Operand.func 15), args := #[Operand.tmp 123], argTypes := #[28] }, type := 3, pos := "law.go:74", after := #[{ on := 5, ground := Ground.data }, { on := 4, ground := Ground.chain }, { on := 2, ground := Ground.guard }], guard := some (2, false) }) rfl (fun K hK => ?_) AllReadyH.nil
      go_simp
      go_at_call 15; refine (KC.out _ _ _ _ (hP.out.up (Below.refl _ wr).drew)).mono ?_; rintro e w9 ⟨rfl, hw1⟩; obtain rfl : wr.drew = w9 := hw1.symm; (try dsimp only)
      refine hK.out _ _ ?_ (fun hHeld => ?_)
      · exact ⟨hc0.out _ _ _ _ (hP.out.up (Below.refl _ wr).drew), hc02.out _ _ _ _ (hP'.out.up (Below.refl _ wr).drew)⟩
      clear hK K
      try simp only [Act.put, List.setIfInBounds_toArray, List.set_cons_zero, List.set_cons_succ]
      refine wpAnyH_take (i := 7) (oi := { dst := some 125, op := Op.binOp BinOp.eql 3 (Operand.tmp 122) (Operand.tmp 124) 3, type := 4, pos := "law.go:74", after := #[{ on := 4, ground := Ground.data }, { on := 6, ground := Ground.data }, { on := 2, ground := Ground.guard }], guard := some (2, false) }) (v := ?_) rfl (by kernel_rfl) (by kernel_rfl) (by kernel_rfl) (fun _ _ _ h => h) (Or.inl ⟨by rfl, ?_⟩) (by assumption) ?_
      rotate_left
      · intro w hSw; (try dsimp only at hSw); go_simp <;> with_reducible rfl
      simp only [Act.put, List.setIfInBounds_toArray, List.set_cons_zero, List.set_cons_succ]
      refine wpAnyH_take (i := 8) (oi := { dst := some 126, op := Op.move (Operand.tmp 125), type := 4, pos := "law.go:74", after := #[{ on := 7, ground := Ground.data }, { on := 6, ground := Ground.chain }, { on := 2, ground := Ground.guard }], guard := some (2, false) }) (v := ?_) rfl (by kernel_rfl) (by kernel_rfl) (by kernel_rfl) (fun _ _ _ h => h) (Or.inl ⟨by rfl, ?_⟩) (by assumption) ?_
      rotate_left
      · intro w hSw; (try dsimp only at hSw); go_simp <;> with_reducible rfl
      simp only [Act.put, List.setIfInBounds_toArray, List.set_cons_zero, List.set_cons_succ]
      refine wpAnyH_take (i := 9) (oi := { dst := some 127, op := Op.move (Operand.tmp 7), type := 24, pos := "law.go:74", after := #[{ on := 8, ground := Ground.guard }], guard := some (8, true) }) (v := ?_) rfl (by kernel_rfl) (by kernel_rfl) (by kernel_rfl) (fun _ _ _ h => h) (Or.inl ⟨by rfl, ?_⟩) (by assumption) ?_
      rotate_left
      · intro w hSw; (try dsimp only at hSw); go_simp <;> with_reducible rfl
      simp only [Act.put, List.setIfInBounds_toArray, List.set_cons_zero, List.set_cons_succ]
      refine wpAnyH_take (i := 12) (oi := { dst := some 130, op := Op.move (Operand.tmp 9), type := 28, pos := "law.go:74", after := #[{ on := 8, ground := Ground.guard }], guard := some (8, true) }) (v := ?_) rfl (by kernel_rfl) (by kernel_rfl) (by kernel_rfl) (fun _ _ _ h => h) (Or.inl ⟨by rfl, ?_⟩) (by assumption) ?_
      rotate_left
      · intro w hSw; (try dsimp only at hSw); go_simp <;> with_reducible rfl
      simp only [Act.put, List.setIfInBounds_toArray, List.set_cons_zero, List.set_cons_succ]
      refine wpAnyH_take (i := 13) (oi := { dst := some 131, op := Op.nilCheck (Operand.tmp 130), type := 0, pos := "law.go:74", after := #[{ on := 12, ground := Ground.data }, { on := 8, ground := Ground.guard }], guard := some (8, true) }) (v := ?_) rfl (by kernel_rfl) (by kernel_rfl) (by kernel_rfl) (fun _ _ _ h => h) (Or.inl ⟨by rfl, ?_⟩) (by assumption) ?_
      rotate_left
      · intro w hSw; (try dsimp only at hSw); go_simp <;> with_reducible rfl
      simp only [Act.put, List.setIfInBounds_toArray, List.set_cons_zero, List.set_cons_succ]
      refine wpAnyH_take (i := 14) (oi := { dst := some 132, op := Op.fieldAddr 41 (Operand.tmp 131) 0, type := 0, pos := "law.go:74", after := #[{ on := 13, ground := Ground.data }, { on := 8, ground := Ground.guard }], guard := some (8, true) }) (v := ?_) rfl (by kernel_rfl) (by kernel_rfl) (by kernel_rfl) (fun _ _ _ h => h) (Or.inl ⟨by rfl, ?_⟩) (by assumption) ?_
      rotate_left
      · intro w hSw; (try dsimp only at hSw); go_simp <;> with_reducible rfl
      simp only [Act.put, List.setIfInBounds_toArray, List.set_cons_zero, List.set_cons_succ]
      refine wpAnyH_take (i := 15) (oi := { dst := some 133, op := Op.load 22 (Operand.tmp 132), type := 22, pos := "law.go:74", after := #[{ on := 14, ground := Ground.data }, { on := 8, ground := Ground.guard }], guard := some (8, true) }) (v := ?_) rfl (by kernel_rfl) (by kernel_rfl) (by kernel_rfl) (fun _ _ _ h => h) (Or.inl ⟨by rfl, ?_⟩) (by assumption) ?_
      rotate_left
      · intro w hSw; (try dsimp only at hSw); go_simp <;> with_reducible rfl
      simp only [Act.put, List.setIfInBounds_toArray, List.set_cons_zero, List.set_cons_succ]
      refine wpAnyH_take (i := 16) (oi := { dst := some 134, op := Op.convert 22 9 (Operand.tmp 133), type := 9, pos := "law.go:74", after := #[{ on := 15, ground := Ground.data }, { on := 8, ground := Ground.guard }], guard := some (8, true) }) (v := ?_) rfl (by kernel_rfl) (by kernel_rfl) (by kernel_rfl) (fun _ _ _ h => h) (Or.inl ⟨by rfl, ?_⟩) (by assumption) ?_
      rotate_left
      · intro w hSw; (try dsimp only at hSw); go_simp <;> with_reducible rfl
      simp only [Act.put, List.setIfInBounds_toArray, List.set_cons_zero, List.set_cons_succ]
      refine wpAnyH_ready (rs := [10]) (by kernel_rfl) (by simp) ?_
      refine AllReadyH.cons (o := { dst := some 128, op := Op.call { callee := Callee.value (Operand.func 16), args := #[Operand.tmp 127], argTypes := #[24] }, type := 22, pos := "law.go:74", after := #[{ on := 9, ground := Ground.data }, { on := 8, ground := Ground.chain }, { on := 8, ground := Ground.guard }], guard := some (8, true) }) rfl (fun K hK => ?_) AllReadyH.nil
      go_simp
      go_at_call 16; refine (KI.out _ _ _ _ (hP.out.up (Below.refl _ wr).drew)).mono ?_; rintro e w6 ⟨gi, rfl, hcv6, hb6⟩; have hP6 := hide' (Pz.up (hP.out.up (Below.refl _ wr).drew) hb6.out); have hQ6 := hide' (Pz.up (hP'.out.up (Below.refl _ wr).drew) hb6.out); have hB6 := hide' ((hB.out.trans ((Below.refl _ wr).drew.mono hB.out.size)).trans (hb6.out.mono (hB.out.trans ((Below.refl _ wr).drew.mono hB.out.size)).size)); (try dsimp only)
      refine hK.out _ _ ?_ (fun hHeld => ?_)
      · exact ⟨hc0.out _ _ _ _ (hP6.out), hc02.out _ _ _ _ (hQ6.out)⟩
      clear hK K
      try simp only [Act.put, List.setIfInBounds_toArray, List.set_cons_zero, List.set_cons_succ]
      refine wpAnyH_ready (rs := [11]) (by kernel_rfl) (by simp) ?_
      refine AllReadyH.cons (o := { dst := some 129, op := Op.convert 22 9 (Operand.tmp 128), type := 9, pos := "law.go:74", after := #[{ on := 10, ground := Ground.data }, { on := 8, ground := Ground.guard }], guard := some (8, true) }) rfl (fun K hK => ?_) AllReadyH.nil
      go_simp
      refine hK.out _ _ ?_ (fun hHeld => ?_)
      · exact ⟨hc0.out _ _ _ _ (hP6.out), hc02.out _ _ _ _ (hQ6.out)⟩
      clear hK K
      try simp only [Act.put, List.setIfInBounds_toArray, List.set_cons_zero, List.set_cons_succ]
      refine wpAnyH_take (i := 17) (oi := { dst := some 135, op := Op.binOp BinOp.eql 9 (Operand.tmp 129) (Operand.tmp 134) 9, type := 4, pos := "law.go:74", after := #[{ on := 11, ground := Ground.data }, { on := 16, ground := Ground.data }, { on := 8, ground := Ground.guard }], guard := some (8, true) }) (v := ?_) rfl (by kernel_rfl) (by kernel_rfl) (by kernel_rfl) (fun _ _ _ h => h) (Or.inl ⟨by rfl, ?_⟩) (by assumption) ?_
      rotate_left
      · intro w hSw; (try dsimp only at hSw); go_simp <;> with_reducible rfl
      simp only [Act.put, List.setIfInBounds_toArray, List.set_cons_zero, List.set_cons_succ]
      refine wpAnyH_take (i := 18) (oi := { dst := some 136, op := Op.pick (Operand.tmp 126) (Operand.tmp 135) (Operand.const (Value.bool false)), type := 4, pos := "law.go:74", after := #[{ on := 8, ground := Ground.data }, { on := 17, ground := Ground.data }, { on := 2, ground := Ground.guard }], guard := some (2, false) }) (v := ?_) rfl (by kernel_rfl) (by kernel_rfl) (by kernel_rfl) (fun _ _ _ h => h) (Or.inl ⟨by rfl, ?_⟩) (by assumption) ?_
      rotate_left
      · intro w hSw; (try dsimp only at hSw); go_simp <;> with_reducible rfl
      simp only [Act.put, List.setIfInBounds_toArray, List.set_cons_zero, List.set_cons_succ]
      refine wpAnyH_take (i := 19) (oi := { dst := some 137, op := Op.move (Operand.tmp 136), type := 4, pos := "law.go:74", after := #[{ on := 18, ground := Ground.data }, { on := 10, ground := Ground.chain }, { on := 2, ground := Ground.guard }], guard := some (2, false) }) (v := ?_) rfl (by kernel_rfl) (by kernel_rfl) (by kernel_rfl) (fun _ _ _ h => h) (Or.inl ⟨by rfl, ?_⟩) (by assumption) ?_
      rotate_left
      · intro w hSw; (try dsimp only at hSw); go_simp <;> with_reducible rfl
      simp only [Act.put, List.setIfInBounds_toArray, List.set_cons_zero, List.set_cons_succ]
      refine wpAnyH_take (i := 20) (oi := { dst := some 138, op := Op.move (Operand.tmp 7), type := 24, pos := "law.go:74", after := #[{ on := 19, ground := Ground.guard }], guard := some (19, true) }) (v := ?_) rfl (by kernel_rfl) (by kernel_rfl) (by kernel_rfl) (fun _ _ _ h => h) (Or.inl ⟨by rfl, ?_⟩) (by assumption) ?_
      rotate_left
      · intro w hSw; (try dsimp only at hSw); go_simp <;> with_reducible rfl
      simp only [Act.put, List.setIfInBounds_toArray, List.set_cons_zero, List.set_cons_succ]
      refine wpAnyH_take (i := 22) (oi := { dst := some 140, op := Op.move (Operand.tmp 9), type := 28, pos := "law.go:74", after := #[{ on := 19, ground := Ground.guard }], guard := some (19, true) }) (v := ?_) rfl (by kernel_rfl) (by kernel_rfl) (by kernel_rfl) (fun _ _ _ h => h) (Or.inl ⟨by rfl, ?_⟩) (by assumption) ?_
      rotate_left
      · intro w hSw; (try dsimp only at hSw); go_simp <;> with_reducible rfl
      simp only [Act.put, List.setIfInBounds_toArray, List.set_cons_zero, List.set_cons_succ]
      refine wpAnyH_take (i := 23) (oi := { dst := some 141, op := Op.nilCheck (Operand.tmp 140), type := 0, pos := "law.go:74", after := #[{ on := 22, ground := Ground.data }, { on := 19, ground := Ground.guard }], guard := some (19, true) }) (v := ?_) rfl (by kernel_rfl) (by kernel_rfl) (by kernel_rfl) (fun _ _ _ h => h) (Or.inl ⟨by rfl, ?_⟩) (by assumption) ?_
      rotate_left
      · intro w hSw; (try dsimp only at hSw); go_simp <;> with_reducible rfl
      simp only [Act.put, List.setIfInBounds_toArray, List.set_cons_zero, List.set_cons_succ]
      refine wpAnyH_take (i := 24) (oi := { dst := some 142, op := Op.fieldAddr 41 (Operand.tmp 141) 1, type := 0, pos := "law.go:74", after := #[{ on := 23, ground := Ground.data }, { on := 19, ground := Ground.guard }], guard := some (19, true) }) (v := ?_) rfl (by kernel_rfl) (by kernel_rfl) (by kernel_rfl) (fun _ _ _ h => h) (Or.inl ⟨by rfl, ?_⟩) (by assumption) ?_
      rotate_left
      · intro w hSw; (try dsimp only at hSw); go_simp <;> with_reducible rfl
      simp only [Act.put, List.setIfInBounds_toArray, List.set_cons_zero, List.set_cons_succ]
      refine wpAnyH_take (i := 25) (oi := { dst := some 143, op := Op.load 3 (Operand.tmp 142), type := 3, pos := "law.go:74", after := #[{ on := 24, ground := Ground.data }, { on := 19, ground := Ground.guard }], guard := some (19, true) }) (v := ?_) rfl (by kernel_rfl) (by kernel_rfl) (by kernel_rfl) (fun _ _ _ h => h) (Or.inl ⟨by rfl, ?_⟩) (by assumption) ?_
      rotate_left
      · intro w hSw; (try dsimp only at hSw); go_simp <;> with_reducible rfl
      simp only [Act.put, List.setIfInBounds_toArray, List.set_cons_zero, List.set_cons_succ]
      refine wpAnyH_ready (rs := [21]) (by kernel_rfl) (by simp) ?_
      refine AllReadyH.cons (o := { dst := some 139, op := Op.call { callee := Callee.value (Operand.func 17), args := #[Operand.tmp 138], argTypes := #[24] }, type := 3, pos := "law.go:74", after := #[{ on := 20, ground := Ground.data }, { on := 19, ground := Ground.chain }, { on := 19, ground := Ground.guard }], guard := some (19, true) }) rfl (fun K hK => ?_) AllReadyH.nil
      go_simp
      go_at_call 17; refine (KW.out _ _ _ _ (hP6.out)).mono ?_; rintro e w9 ⟨rfl, hw1⟩; obtain rfl : w6 = w9 := hw1.symm; (try dsimp only)
      refine hK.out _ _ ?_ (fun hHeld => ?_)
      · exact ⟨hc0.out _ _ _ _ (hP6.out), hc02.out _ _ _ _ (hQ6.out)⟩
      clear hK K
      try simp only [Act.put, List.setIfInBounds_toArray, List.set_cons_zero, List.set_cons_succ]
      refine wpAnyH_take (i := 26) (oi := { dst := some 144, op := Op.binOp BinOp.eql 3 (Operand.tmp 139) (Operand.tmp 143) 3, type := 4, pos := "law.go:74", after := #[{ on := 21, ground := Ground.data }, { on := 25, ground := Ground.data }, { on := 19, ground := Ground.guard }], guard := some (19, true) }) (v := ?_) rfl (by kernel_rfl) (by kernel_rfl) (by kernel_rfl) (fun _ _ _ h => h) (Or.inl ⟨by rfl, ?_⟩) (by assumption) ?_
      rotate_left
      · intro w hSw; (try dsimp only at hSw); go_simp <;> with_reducible rfl
      simp only [Act.put, List.setIfInBounds_toArray, List.set_cons_zero, List.set_cons_succ]
      refine wpAnyH_take (i := 27) (oi := { dst := some 145, op := Op.pick (Operand.tmp 137) (Operand.tmp 144) (Operand.const (Value.bool false)), type := 4, pos := "law.go:74", after := #[{ on := 19, ground := Ground.data }, { on := 26, ground := Ground.data }, { on := 2, ground := Ground.guard }], guard := some (2, false) }) (v := ?_) rfl (by kernel_rfl) (by kernel_rfl) (by kernel_rfl) (fun _ _ _ h => h) (Or.inl ⟨by rfl, ?_⟩) (by assumption) ?_
      rotate_left
      · intro w hSw; (try dsimp only at hSw); go_simp <;> with_reducible rfl
      simp only [Act.put, List.setIfInBounds_toArray, List.set_cons_zero, List.set_cons_succ]
      refine wpAnyH_take (i := 28) (oi := { dst := some 146, op := Op.pick (Operand.tmp 120) (Operand.const (Value.bool true)) (Operand.tmp 145), type := 4, pos := "law.go:74", after := #[{ on := 2, ground := Ground.data }, { on := 27, ground := Ground.data }], guard := none }) (v := ?_) rfl (by kernel_rfl) (by kernel_rfl) (by kernel_rfl) (fun _ _ _ h => h) (Or.inl ⟨by rfl, ?_⟩) (by assumption) ?_
      rotate_left
      · intro w hSw; (try dsimp only at hSw); go_simp <;> with_reducible rfl
      simp only [Act.put, List.setIfInBounds_toArray, List.set_cons_zero, List.set_cons_succ]
      refine wpAnyH_take (i := 29) (oi := { dst := some 147, op := Op.move (Operand.tmp 146), type := 4, pos := "law.go:74", after := #[{ on := 28, ground := Ground.data }, { on := 21, ground := Ground.chain }], guard := none }) (v := ?_) rfl (by kernel_rfl) (by kernel_rfl) (by kernel_rfl) (fun _ _ _ h => h) (Or.inl ⟨by rfl, ?_⟩) (by assumption) ?_
      rotate_left
      · intro w hSw; (try dsimp only at hSw); go_simp <;> with_reducible rfl
      simp only [Act.put, List.setIfInBounds_toArray, List.set_cons_zero, List.set_cons_succ]
      refine wpAnyH_take (i := 30) (oi := { dst := some 148, op := Op.move (Operand.tmp 11), type := 24, pos := "law.go:74", after := #[{ on := 29, ground := Ground.guard }], guard := some (29, true) }) (v := ?_) rfl (by kernel_rfl) (by kernel_rfl) (by kernel_rfl) (fun _ _ _ h => h) (Or.inl ⟨by rfl, ?_⟩) (by assumption) ?_
      rotate_left
      · intro w hSw; (try dsimp only at hSw); go_simp <;> with_reducible rfl
      simp only [Act.put, List.setIfInBounds_toArray, List.set_cons_zero, List.set_cons_succ]
      refine wpAnyH_take (i := 31) (oi := { dst := some 149, op := Op.binOp BinOp.eql 24 (Operand.tmp 148) (Operand.const (Value.pointer none)) 24, type := 4, pos := "law.go:74", after := #[{ on := 30, ground := Ground.data }, { on := 29, ground := Ground.guard }], guard := some (29, true) }) (v := ?_) rfl (by kernel_rfl) (by kernel_rfl) (by kernel_rfl) (fun _ _ _ h => h) (Or.inl ⟨by rfl, ?_⟩) (by assumption) ?_
      rotate_left
      · intro w hSw; (try dsimp only at hSw); go_simp <;> with_reducible rfl
      simp only [Act.put, List.setIfInBounds_toArray, List.set_cons_zero, List.set_cons_succ]
      refine wpAnyH_take (i := 32) (oi := { dst := some 150, op := Op.move (Operand.tmp 149), type := 4, pos := "law.go:74", after := #[{ on := 31, ground := Ground.data }, { on := 29, ground := Ground.chain }, { on := 29, ground := Ground.guard }], guard := some (29, true) }) (v := ?_) rfl (by kernel_rfl) (by kernel_rfl) (by kernel_rfl) (fun _ _ _ h => h) (Or.inl ⟨by rfl, ?_⟩) (by assumption) ?_
      rotate_left
      · intro w hSw; (try dsimp only at hSw); go_simp <;> with_reducible rfl
      simp only [Act.put, List.setIfInBounds_toArray, List.set_cons_zero, List.set_cons_succ]
      refine wpAnyH_take (i := 33) (oi := { dst := some 151, op := Op.move (Operand.tmp 11), type := 24, pos := "law.go:74", after := #[{ on := 32, ground := Ground.guard }], guard := some (32, false) }) (v := ?_) rfl (by kernel_rfl) (by kernel_rfl) (by kernel_rfl) (fun _ _ _ h => h) (Or.inl ⟨by rfl, ?_⟩) (by assumption) ?_
      rotate_left
      · intro w hSw; (try dsimp only at hSw); go_simp <;> with_reducible rfl
      simp only [Act.put, List.setIfInBounds_toArray, List.set_cons_zero, List.set_cons_succ]
      refine wpAnyH_take (i := 35) (oi := { dst := some 153, op := Op.move (Operand.tmp 13), type := 28, pos := "law.go:74", after := #[{ on := 32, ground := Ground.guard }], guard := some (32, false) }) (v := ?_) rfl (by kernel_rfl) (by kernel_rfl) (by kernel_rfl) (fun _ _ _ h => h) (Or.inl ⟨by rfl, ?_⟩) (by assumption) ?_
      rotate_left
      · intro w hSw; (try dsimp only at hSw); go_simp <;> with_reducible rfl
      simp only [Act.put, List.setIfInBounds_toArray, List.set_cons_zero, List.set_cons_succ]
      refine wpAnyH_ready (rs := [34]) (by kernel_rfl) (by simp) ?_
      refine AllReadyH.cons (o := { dst := some 152, op := Op.call { callee := Callee.value (Operand.func 14), args := #[Operand.tmp 151], argTypes := #[24] }, type := 3, pos := "law.go:74", after := #[{ on := 33, ground := Ground.data }, { on := 32, ground := Ground.chain }, { on := 32, ground := Ground.guard }], guard := some (32, false) }) rfl (fun K hK => ?_) AllReadyH.nil
      go_simp
      go_at_call 14; refine (KB2.out _ _ _ _ (hQ6.out)).mono ?_; rintro e w9 ⟨rfl, hw1⟩; obtain rfl : w6 = w9 := hw1.symm; (try dsimp only)
      refine hK.out _ _ ?_ (fun hHeld => ?_)
      · exact ⟨hc0.out _ _ _ _ (hP6.out), hc02.out _ _ _ _ (hQ6.out)⟩
      clear hK K
      try simp only [Act.put, List.setIfInBounds_toArray, List.set_cons_zero, List.set_cons_succ]
      refine wpAnyH_ready (rs := [36]) (by kernel_rfl) (by simp) ?_
      refine AllReadyH.cons (o := { dst := some 154, op := Op.call { callee := Callee.value (Operand.func 15), args := #[Operand.tmp 153], argTypes := #[28] }, type := 3, pos := "law.go:74", after := #[{ on := 35, ground := Ground.data }, { on := 34, ground := Ground.chain }, { on := 32, ground := Ground.guard }], guard := some (32, false) }) rfl (fun K hK => ?_) AllReadyH.nil
      go_simp
      go_at_call 15; refine (KC2.out _ _ _ _ (hQ6.out)).mono ?_; rintro e w9 ⟨rfl, hw1⟩; obtain rfl : w6 = w9 := hw1.symm; (try dsimp only)
      refine hK.out _ _ ?_ (fun hHeld => ?_)
      · exact ⟨hc0.out _ _ _ _ (hP6.out), hc02.out _ _ _ _ (hQ6.out)⟩
      clear hK K
      try simp only [Act.put, List.setIfInBounds_toArray, List.set_cons_zero, List.set_cons_succ]
      refine wpAnyH_take (i := 37) (oi := { dst := some 155, op := Op.binOp BinOp.eql 3 (Operand.tmp 152) (Operand.tmp 154) 3, type := 4, pos := "law.go:74", after := #[{ on := 34, ground := Ground.data }, { on := 36, ground := Ground.data }, { on := 32, ground := Ground.guard }], guard := some (32, false) }) (v := ?_) rfl (by kernel_rfl) (by kernel_rfl) (by kernel_rfl) (fun _ _ _ h => h) (Or.inl ⟨by rfl, ?_⟩) (by assumption) ?_
      rotate_left
      · intro w hSw; (try dsimp only at hSw); go_simp <;> with_reducible rfl
      simp only [Act.put, List.setIfInBounds_toArray, List.set_cons_zero, List.set_cons_succ]
      refine wpAnyH_take (i := 38) (oi := { dst := some 156, op := Op.move (Operand.tmp 155), type := 4, pos := "law.go:74", after := #[{ on := 37, ground := Ground.data }, { on := 36, ground := Ground.chain }, { on := 32, ground := Ground.guard }], guard := some (32, false) }) (v := ?_) rfl (by kernel_rfl) (by kernel_rfl) (by kernel_rfl) (fun _ _ _ h => h) (Or.inl ⟨by rfl, ?_⟩) (by assumption) ?_
      rotate_left
      · intro w hSw; (try dsimp only at hSw); go_simp <;> with_reducible rfl
      simp only [Act.put, List.setIfInBounds_toArray, List.set_cons_zero, List.set_cons_succ]
      refine wpAnyH_take (i := 39) (oi := { dst := some 157, op := Op.move (Operand.tmp 11), type := 24, pos := "law.go:74", after := #[{ on := 38, ground := Ground.guard }], guard := some (38, true) }) (v := ?_) rfl (by kernel_rfl) (by kernel_rfl) (by kernel_rfl) (fun _ _ _ h => h) (Or.inl ⟨by rfl, ?_⟩) (by assumption) ?_
      rotate_left
      · intro w hSw; (try dsimp only at hSw); go_simp <;> with_reducible rfl
      simp only [Act.put, List.setIfInBounds_toArray, List.set_cons_zero, List.set_cons_succ]
      refine wpAnyH_take (i := 42) (oi := { dst := some 160, op := Op.move (Operand.tmp 13), type := 28, pos := "law.go:74", after := #[{ on := 38, ground := Ground.guard }], guard := some (38, true) }) (v := ?_) rfl (by kernel_rfl) (by kernel_rfl) (by kernel_rfl) (fun _ _ _ h => h) (Or.inl ⟨by rfl, ?_⟩) (by assumption) ?_
      rotate_left
      · intro w hSw; (try dsimp only at hSw); go_simp <;> with_reducible rfl
      simp only [Act.put, List.setIfInBounds_toArray, List.set_cons_zero, List.set_cons_succ]
      refine wpAnyH_take (i := 43) (oi := { dst := some 161, op := Op.nilCheck (Operand.tmp 160), type := 0, pos := "law.go:74", after := #[{ on := 42, ground := Ground.data }, { on := 38, ground := Ground.guard }], guard := some (38, true) }) (v := ?_) rfl (by kernel_rfl) (by kernel_rfl) (by kernel_rfl) (fun _ _ _ h => h) (Or.inl ⟨by rfl, ?_⟩) (by assumption) ?_
      rotate_left
      · intro w hSw; (try dsimp only at hSw); go_simp <;> with_reducible rfl
      simp only [Act.put, List.setIfInBounds_toArray, List.set_cons_zero, List.set_cons_succ]
      refine wpAnyH_take (i := 44) (oi := { dst := some 162, op := Op.fieldAddr 41 (Operand.tmp 161) 0, type := 0, pos := "law.go:74", after := #[{ on := 43, ground := Ground.data }, { on := 38, ground := Ground.guard }], guard := some (38, true) }) (v := ?_) rfl (by kernel_rfl) (by kernel_rfl) (by kernel_rfl) (fun _ _ _ h => h) (Or.inl ⟨by rfl, ?_⟩) (by assumption) ?_
      rotate_left
      · intro w hSw; (try dsimp only at hSw); go_simp <;> with_reducible rfl
      simp only [Act.put, List.setIfInBounds_toArray, List.set_cons_zero, List.set_cons_succ]
      refine wpAnyH_take (i := 45) (oi := { dst := some 163, op := Op.load 22 (Operand.tmp 162), type := 22, pos := "law.go:74", after := #[{ on := 44, ground := Ground.data }, { on := 38, ground := Ground.guard }], guard := some (38, true) }) (v := ?_) rfl (by kernel_rfl) (by kernel_rfl) (by kernel_rfl) (fun _ _ _ h => h) (Or.inl ⟨by rfl, ?_⟩) (by assumption) ?_
      rotate_left
      · intro w hSw; (try dsimp only at hSw); go_simp <;> with_reducible rfl
      simp only [Act.put, List.setIfInBounds_toArray, List.set_cons_zero, List.set_cons_succ]
      refine wpAnyH_take (i := 46) (oi := { dst := some 164, op := Op.convert 22 9 (Operand.tmp 163), type := 9, pos := "law.go:74", after := #[{ on := 45, ground := Ground.data }, { on := 38, ground := Ground.guard }], guard := some (38, true) }) (v := ?_) rfl (by kernel_rfl) (by kernel_rfl) (by kernel_rfl) (fun _ _ _ h => h) (Or.inl ⟨by rfl, ?_⟩) (by assumption) ?_
      rotate_left
      · intro w hSw; (try dsimp only at hSw); go_simp <;> with_reducible rfl
      simp only [Act.put, List.setIfInBounds_toArray, List.set_cons_zero, List.set_cons_succ]
      refine wpAnyH_ready (rs := [40]) (by kernel_rfl) (by simp) ?_
      refine AllReadyH.cons (o := { dst := some 158, op := Op.call { callee := Callee.value (Operand.func 16), args := #[Operand.tmp 157], argTypes := #[24] }, type := 22, pos := "law.go:74", after := #[{ on := 39, ground := Ground.data }, { on := 38, ground := Ground.chain }, { on := 38, ground := Ground.guard }], guard := some (38, true) }) rfl (fun K hK => ?_) AllReadyH.nil
      go_simp
      go_at_call 16; refine (KI2.out _ _ _ _ (hQ6.out)).mono ?_; rintro e w7 ⟨gj, rfl, hcv7, hb7⟩; have hQ7 := hide' (Pz.up (hQ6.out) hb7.out); have hP7 := hide' (Pz.up (hP6.out) hb7.out); have hB7 := hide' ((hB6.out).trans (hb7.out.mono (hB6.out).size)); (try dsimp only)
      refine hK.out _ _ ?_ (fun hHeld => ?_)
      · exact ⟨hc0.out _ _ _ _ (hP7.out), hc02.out _ _ _ _ (hQ7.out)⟩
      clear hK K
      try simp only [Act.put, List.setIfInBounds_toArray, List.set_cons_zero, List.set_cons_succ]
      refine wpAnyH_ready (rs := [41]) (by kernel_rfl) (by simp) ?_
      refine AllReadyH.cons (o := { dst := some 159, op := Op.convert 22 9 (Operand.tmp 158), type := 9, pos := "law.go:74", after := #[{ on := 40, ground := Ground.data }, { on := 38, ground := Ground.guard }], guard := some (38, true) }) rfl (fun K hK => ?_) AllReadyH.nil
      go_simp
      refine hK.out _ _ ?_ (fun hHeld => ?_)
      · exact ⟨hc0.out _ _ _ _ (hP7.out), hc02.out _ _ _ _ (hQ7.out)⟩
      clear hK K
      try simp only [Act.put, List.setIfInBounds_toArray, List.set_cons_zero, List.set_cons_succ]
      refine wpAnyH_take (i := 47) (oi := { dst := some 165, op := Op.binOp BinOp.eql 9 (Operand.tmp 159) (Operand.tmp 164) 9, type := 4, pos := "law.go:74", after := #[{ on := 41, ground := Ground.data }, { on := 46, ground := Ground.data }, { on := 38, ground := Ground.guard }], guard := some (38, true) }) (v := ?_) rfl (by kernel_rfl) (by kernel_rfl) (by kernel_rfl) (fun _ _ _ h => h) (Or.inl ⟨by rfl, ?_⟩) (by assumption) ?_
      rotate_left
      · intro w hSw; (try dsimp only at hSw); go_simp <;> with_reducible rfl
      simp only [Act.put, List.setIfInBounds_toArray, List.set_cons_zero, List.set_cons_succ]
      refine wpAnyH_take (i := 48) (oi := { dst := some 166, op := Op.pick (Operand.tmp 156) (Operand.tmp 165) (Operand.const (Value.bool false)), type := 4, pos := "law.go:74", after := #[{ on := 38, ground := Ground.data }, { on := 47, ground := Ground.data }, { on := 32, ground := Ground.guard }], guard := some (32, false) }) (v := ?_) rfl (by kernel_rfl) (by kernel_rfl) (by kernel_rfl) (fun _ _ _ h => h) (Or.inl ⟨by rfl, ?_⟩) (by assumption) ?_
      rotate_left
      · intro w hSw; (try dsimp only at hSw); go_simp <;> with_reducible rfl
      simp only [Act.put, List.setIfInBounds_toArray, List.set_cons_zero, List.set_cons_succ]
      refine wpAnyH_take (i := 49) (oi := { dst := some 167, op := Op.move (Operand.tmp 166), type := 4, pos := "law.go:74", after := #[{ on := 48, ground := Ground.data }, { on := 40, ground := Ground.chain }, { on := 32, ground := Ground.guard }], guard := some (32, false) }) (v := ?_) rfl (by kernel_rfl) (by kernel_rfl) (by kernel_rfl) (fun _ _ _ h => h) (Or.inl ⟨by rfl, ?_⟩) (by assumption) ?_
      rotate_left
      · intro w hSw; (try dsimp only at hSw); go_simp <;> with_reducible rfl
      simp only [Act.put, List.setIfInBounds_toArray, List.set_cons_zero, List.set_cons_succ]
      refine wpAnyH_take (i := 50) (oi := { dst := some 168, op := Op.move (Operand.tmp 11), type := 24, pos := "law.go:74", after := #[{ on := 49, ground := Ground.guard }], guard := some (49, true) }) (v := ?_) rfl (by kernel_rfl) (by kernel_rfl) (by kernel_rfl) (fun _ _ _ h => h) (Or.inl ⟨by rfl, ?_⟩) (by assumption) ?_
      rotate_left
      · intro w hSw; (try dsimp only at hSw); go_simp <;> with_reducible rfl
      simp only [Act.put, List.setIfInBounds_toArray, List.set_cons_zero, List.set_cons_succ]
      refine wpAnyH_take (i := 52) (oi := { dst := some 170, op := Op.move (Operand.tmp 13), type := 28, pos := "law.go:74", after := #[{ on := 49, ground := Ground.guard }], guard := some (49, true) }) (v := ?_) rfl (by kernel_rfl) (by kernel_rfl) (by kernel_rfl) (fun _ _ _ h => h) (Or.inl ⟨by rfl, ?_⟩) (by assumption) ?_
      rotate_left
      · intro w hSw; (try dsimp only at hSw); go_simp <;> with_reducible rfl
      simp only [Act.put, List.setIfInBounds_toArray, List.set_cons_zero, List.set_cons_succ]
      refine wpAnyH_take (i := 53) (oi := { dst := some 171, op := Op.nilCheck (Operand.tmp 170), type := 0, pos := "law.go:74", after := #[{ on := 52, ground := Ground.data }, { on := 49, ground := Ground.guard }], guard := some (49, true) }) (v := ?_) rfl (by kernel_rfl) (by kernel_rfl) (by kernel_rfl) (fun _ _ _ h => h) (Or.inl ⟨by rfl, ?_⟩) (by assumption) ?_
      rotate_left
      · intro w hSw; (try dsimp only at hSw); go_simp <;> with_reducible rfl
      simp only [Act.put, List.setIfInBounds_toArray, List.set_cons_zero, List.set_cons_succ]
      refine wpAnyH_take (i := 54) (oi := { dst := some 172, op := Op.fieldAddr 41 (Operand.tmp 171) 1, type := 0, pos := "law.go:74", after := #[{ on := 53, ground := Ground.data }, { on := 49, ground := Ground.guard }], guard := some (49, true) }) (v := ?_) rfl (by kernel_rfl) (by kernel_rfl) (by kernel_rfl) (fun _ _ _ h => h) (Or.inl ⟨by rfl, ?_⟩) (by assumption) ?_
      rotate_left
      · intro w hSw; (try dsimp only at hSw); go_simp <;> with_reducible rfl
      simp only [Act.put, List.setIfInBounds_toArray, List.set_cons_zero, List.set_cons_succ]
      refine wpAnyH_take (i := 55) (oi := { dst := some 173, op := Op.load 3 (Operand.tmp 172), type := 3, pos := "law.go:74", after := #[{ on := 54, ground := Ground.data }, { on := 49, ground := Ground.guard }], guard := some (49, true) }) (v := ?_) rfl (by kernel_rfl) (by kernel_rfl) (by kernel_rfl) (fun _ _ _ h => h) (Or.inl ⟨by rfl, ?_⟩) (by assumption) ?_
      rotate_left
      · intro w hSw; (try dsimp only at hSw); go_simp <;> with_reducible rfl
      simp only [Act.put, List.setIfInBounds_toArray, List.set_cons_zero, List.set_cons_succ]
      refine wpAnyH_ready (rs := [51]) (by kernel_rfl) (by simp) ?_
      refine AllReadyH.cons (o := { dst := some 169, op := Op.call { callee := Callee.value (Operand.func 17), args := #[Operand.tmp 168], argTypes := #[24] }, type := 3, pos := "law.go:74", after := #[{ on := 50, ground := Ground.data }, { on := 49, ground := Ground.chain }, { on := 49, ground := Ground.guard }], guard := some (49, true) }) rfl (fun K hK => ?_) AllReadyH.nil
      go_simp
      go_at_call 17; refine (KW2.out _ _ _ _ (hQ7.out)).mono ?_; rintro e w9 ⟨rfl, hw1⟩; obtain rfl : w7 = w9 := hw1.symm; (try dsimp only)
      refine hK.out _ _ ?_ (fun hHeld => ?_)
      · exact ⟨hc0.out _ _ _ _ (hP7.out), hc02.out _ _ _ _ (hQ7.out)⟩
      clear hK K
      try simp only [Act.put, List.setIfInBounds_toArray, List.set_cons_zero, List.set_cons_succ]
      refine wpAnyH_take (i := 56) (oi := { dst := some 174, op := Op.binOp BinOp.eql 3 (Operand.tmp 169) (Operand.tmp 173) 3, type := 4, pos := "law.go:74", after := #[{ on := 51, ground := Ground.data }, { on := 55, ground := Ground.data }, { on := 49, ground := Ground.guard }], guard := some (49, true) }) (v := ?_) rfl (by kernel_rfl) (by kernel_rfl) (by kernel_rfl) (fun _ _ _ h => h) (Or.inl ⟨by rfl, ?_⟩) (by assumption) ?_
      rotate_left
      · intro w hSw; (try dsimp only at hSw); go_simp <;> with_reducible rfl
      simp only [Act.put, List.setIfInBounds_toArray, List.set_cons_zero, List.set_cons_succ]
      refine wpAnyH_take (i := 57) (oi := { dst := some 175, op := Op.pick (Operand.tmp 167) (Operand.tmp 174) (Operand.const (Value.bool false)), type := 4, pos := "law.go:74", after := #[{ on := 49, ground := Ground.data }, { on := 56, ground := Ground.data }, { on := 32, ground := Ground.guard }], guard := some (32, false) }) (v := ?_) rfl (by kernel_rfl) (by kernel_rfl) (by kernel_rfl) (fun _ _ _ h => h) (Or.inl ⟨by rfl, ?_⟩) (by assumption) ?_
      rotate_left
      · intro w hSw; (try dsimp only at hSw); go_simp <;> with_reducible rfl
      simp only [Act.put, List.setIfInBounds_toArray, List.set_cons_zero, List.set_cons_succ]
      refine wpAnyH_take (i := 58) (oi := { dst := some 176, op := Op.pick (Operand.tmp 150) (Operand.const (Value.bool true)) (Operand.tmp 175), type := 4, pos := "law.go:74", after := #[{ on := 32, ground := Ground.data }, { on := 57, ground := Ground.data }, { on := 29, ground := Ground.guard }], guard := some (29, true) }) (v := ?_) rfl (by kernel_rfl) (by kernel_rfl) (by kernel_rfl) (fun _ _ _ h => h) (Or.inl ⟨by rfl, ?_⟩) (by assumption) ?_
      rotate_left
      · intro w hSw; (try dsimp only at hSw); go_simp <;> with_reducible rfl
      simp only [Act.put, List.setIfInBounds_toArray, List.set_cons_zero, List.set_cons_succ]
      refine wpAnyH_take (i := 59) (oi := { dst := some 177, op := Op.pick (Operand.tmp 147) (Operand.tmp 176) (Operand.const (Value.bool false)), type := 4, pos := "law.go:74", after := #[{ on := 29, ground := Ground.data }, { on := 58, ground := Ground.data }], guard := none }) (v := ?_) rfl (by kernel_rfl) (by kernel_rfl) (by kernel_rfl) (fun _ _ _ h => h) (Or.inl ⟨by rfl, ?_⟩) (by assumption) ?_
      rotate_left
      · intro w hSw; (try dsimp only at hSw); go_simp <;> with_reducible rfl
      simp only [Act.put, List.setIfInBounds_toArray, List.set_cons_zero, List.set_cons_succ]
      refine wpAnyH_take (i := 60) (oi := { dst := some 6, op := Op.assign (Operand.tmp 177), type := 4, pos := "law.go:74", after := #[{ on := 59, ground := Ground.data }, { on := 51, ground := Ground.chain }, { on := 0, ground := Ground.phase }, { on := 1, ground := Ground.phase }, { on := 2, ground := Ground.phase }, { on := 3, ground := Ground.phase }, { on := 4, ground := Ground.phase }, { on := 5, ground := Ground.phase }, { on := 6, ground := Ground.phase }, { on := 7, ground := Ground.phase }, { on := 8, ground := Ground.phase }, { on := 9, ground := Ground.phase }, { on := 10, ground := Ground.phase }, { on := 11, ground := Ground.phase }, { on := 12, ground := Ground.phase }, { on := 13, ground := Ground.phase }, { on := 14, ground := Ground.phase }, { on := 15, ground := Ground.phase }, { on := 16, ground := Ground.phase }, { on := 17, ground := Ground.phase }, { on := 18, ground := Ground.phase }, { on := 19, ground := Ground.phase }, { on := 20, ground := Ground.phase }, { on := 21, ground := Ground.phase }, { on := 22, ground := Ground.phase }, { on := 23, ground := Ground.phase }, { on := 24, ground := Ground.phase }, { on := 25, ground := Ground.phase }, { on := 26, ground := Ground.phase }, { on := 27, ground := Ground.phase }, { on := 28, ground := Ground.phase }, { on := 29, ground := Ground.phase }, { on := 30, ground := Ground.phase }, { on := 31, ground := Ground.phase }, { on := 32, ground := Ground.phase }, { on := 33, ground := Ground.phase }, { on := 34, ground := Ground.phase }, { on := 35, ground := Ground.phase }, { on := 36, ground := Ground.phase }, { on := 37, ground := Ground.phase }, { on := 38, ground := Ground.phase }, { on := 39, ground := Ground.phase }, { on := 40, ground := Ground.phase }, { on := 41, ground := Ground.phase }, { on := 42, ground := Ground.phase }, { on := 43, ground := Ground.phase }, { on := 44, ground := Ground.phase }, { on := 45, ground := Ground.phase }, { on := 46, ground := Ground.phase }, { on := 47, ground := Ground.phase }, { on := 48, ground := Ground.phase }, { on := 49, ground := Ground.phase }, { on := 50, ground := Ground.phase }, { on := 51, ground := Ground.phase }, { on := 52, ground := Ground.phase }, { on := 53, ground := Ground.phase }, { on := 54, ground := Ground.phase }, { on := 55, ground := Ground.phase }, { on := 56, ground := Ground.phase }, { on := 57, ground := Ground.phase }, { on := 58, ground := Ground.phase }, { on := 59, ground := Ground.phase }], guard := none }) (v := ?_) rfl (by kernel_rfl) (by kernel_rfl) (by kernel_rfl) (fun _ _ _ h => h) (Or.inl ⟨by rfl, ?_⟩) (by assumption) ?_
      rotate_left
      · intro w hSw; (try dsimp only at hSw); go_simp <;> with_reducible rfl
      simp only [Act.put, List.setIfInBounds_toArray, List.set_cons_zero, List.set_cons_succ]
      refine wpAnyH_done (by kernel_rfl) ?_ _
      skip
      go_wp2
      go_ret
      exact ⟨ret_bool (by simp), hB7.out⟩
end Go.Proofs.Ytkabileeincjaaa
