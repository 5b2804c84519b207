/- DiskOwn, walked. -/
import Derived.Test.YtkabileeincjaaaDkOS
import Derived.Deep.CutBlock
import Derived.Deep.CutRange
namespace Go.Proofs.Ytkabileeincjaaa
open Go.RowKit
theorem app_clean {W : World} {B m k : Nat} {v : Value} {L M : List Nat} (h : W.ownsRow B 5 1 v (m + k) (cellsB L ++ cellsB M)) (hm : L.length = m) (hk : M.length = k) : W.ownsRow B 5 1 v (L ++ M).length (cellsB (L ++ M)) := by
  rw [List.length_append, hm, hk, cellsB_app]
  exact h
theorem own_some {W : World} {B m : Nat} {v : Value} {xs : List Value} (h : W.ownsRow B 5 1 v m xs) (hm : 0 < m) : ∃ g cap, v = .slice (some ⟨g, 0, none⟩) m cap ∧ B ≤ g := by
  rcases h.2 with ⟨_, h0⟩ | ⟨g, cap, cur, e, hb, _⟩
  · omega
  · exact ⟨g, cap, e, hb⟩
theorem lent1 {w w1 w2 : World} {oa : Option Addr} {ca n : Nat} {L : List Nat} {v2 : Value} {o : Obj} (hn : n = L.length) (hb1 : Below w.heap.size w w1) (hown : w1.ownsRow w.heap.size 5 1 (.slice oa n ca) n (cellsB L)) (h : w2.ownsRow w.heap.size 5 1 v2 (n + 3) (cellsB L ++ cellsB [1, 2, 3])) (hg : (w1.alloc o).grownBy w2 (Value.slice oa n ca).ownBlock) :
    ∃ gl cl, v2 = .slice (some ⟨gl, 0, none⟩) (n + 3) cl ∧ Hid (w2.ownsRow w.heap.size 5 1 (.slice (some ⟨gl, 0, none⟩) (n + 3) cl) (n + 3) (cellsB (L ++ [1, 2, 3]))) ∧ Hid (Below w.heap.size w w2) ∧ Hid (w.heap.size ≤ gl) := by
  obtain ⟨gl, cl, rfl, hge⟩ := own_some h (by omega)
  refine ⟨gl, cl, rfl, ?_, ?_, hge⟩
  · show World.ownsRow _ _ _ _ _ _ _
    rw [cellsB_app]
    exact h
  · have hs := hb1.size
    exact (hb1.alloc hs o).grown hg (by rw [size_alloc]; omega) (fun j ej => own_ge' hown ej)
theorem lent2 {w2 w3 : World} {m : Nat} {M : List Nat} {v3 : Value} (hm : 0 < m) (h : w3.ownsRow w2.heap.size 5 1 v3 (0 + m) (cellsB [] ++ cellsB M)) (hg : (w2.alloc (.cells #[] 5)).grownBy w3 (Value.slice (some ⟨w2.heap.size, 0, none⟩) 0 0).ownBlock) :
    ∃ gw cw, v3 = .slice (some ⟨gw, 0, none⟩) m cw ∧ Hid (w3.ownsRow w2.heap.size 5 1 (.slice (some ⟨gw, 0, none⟩) m cw) m (cellsB M)) ∧ Hid (Below w2.heap.size w2 w3) ∧ Hid (w2.heap.size ≤ gw) := by
  rw [Nat.zero_add] at h
  obtain ⟨gl, cl, rfl, hge⟩ := own_some h hm
  exact ⟨gl, cl, rfl, h, ((Below.refl _ w2).alloc (Nat.le_refl _) _).grown hg (by rw [size_alloc]; omega) (fun j ej => by cases ej; exact Nat.le_refl _), hge⟩
theorem own_news {W : World} {B g m cap : Nat} {M : List Nat} (h : W.ownsRow B 5 1 (.slice (some ⟨g, 0, none⟩) m cap) m (cellsB M)) (o : Obj) : ∀ j u, (cellsB M)[j]? = some u → (W.alloc o).cell? (Addr.add ⟨g, 0, none⟩ j) = some u := fun j u hu => by
  obtain ⟨z, hz, rfl⟩ := cellsB_at hu
  have hl : m = M.length := by have := h.1; rw [cellsB_len] at this; omega
  have hj := (List.getElem?_eq_some_iff.1 hz).1
  rw [Addr.add_lit, Nat.zero_add]
  refine cell_new ?_
  rw [h.cellAt j (by omega)]
  exact hu
theorem own_cut {W : World} {B g m cap n : Nat} {M L : List Nat} (h : W.ownsRow B 5 1 (.slice (some ⟨g, 0, none⟩) m cap) m (cellsB M)) (o : Nat) (hL : ∀ i z, L[i]? = some z → M[o + i]? = some z) (hn : n = L.length) (hc : n ≤ cap - o) : RowC W (.slice (some ⟨g, o, none⟩) n (cap - o)) L := by
  subst hn
  refine ⟨_, cap - o, rfl, ⟨hc, fun e => by cases e⟩, fun i z hz => ⟨g, o, rfl, ?_⟩⟩
  have h2 := hL i z hz
  have hl : m = M.length := by have := h.1; rw [cellsB_len] at this; omega
  have hj := (List.getElem?_eq_some_iff.1 h2).1
  rw [h.cellAt (o + i) (by omega)]
  simp [cellsB, h2]
theorem own_cap {W : World} {B : Nat} {g m cap : Nat} {xs : List Value} (h : W.ownsRow B 5 1 (.slice (some ⟨g, 0, none⟩) m cap) m xs) : m ≤ cap := by
  rcases h.2 with ⟨e, _⟩ | ⟨g', c, cur, e, _, _, hc, _⟩
  · cases e
  · cases e; exact hc
theorem own_zero {w : World} {B : Nat} {e : TypeId} {size : Nat} {v : Value} {n : Nat} {xs : List Value} (h : w.ownsRow B e size v n xs) : w.ownsRow 0 e size v n xs := by
  refine ⟨h.1, ?_⟩
  rcases h.2 with q | ⟨g', cap, cur, e1, _, e3⟩
  · exact .inl q
  · exact .inr ⟨g', cap, cur, e1, Nat.zero_le _, e3⟩
/-- The bytes that are lent, and those kept beside them. -/
structure Lo (w : World) (gl cl gw cw n lo : Nat) (M Ls : List Nat) (W : World) : Prop where
  lent : W.ownsRow 0 5 1 (.slice (some ⟨gl, 0, none⟩) (n + 3) cl) (n + 3) (cellsB M)
  was : W.ownsRow 0 5 1 (.slice (some ⟨gw, 0, none⟩) (n + 3) cw) (n + 3) (cellsB Ls)
  lM : M.length = n + 3
  lL : Ls.length = n + 3
  gel : w.heap.size ≤ gl
  gew : w.heap.size ≤ gw
  ne : gl ≠ gw
  ltl : gl < lo
  ltw : gw < lo
  top : lo ≤ W.heap.size
  bel : Below w.heap.size w W
/-- A disk of these bytes, or none. -/
def Dn (L : List Nat) (lo : Nat) (pv : Value) (W : World) : Prop :=
  pv = .pointer none ∨ ∃ g gb m, pv = .pointer (some ⟨g, 0, none⟩) ∧ Hid (DkA W g gb (ldD L)) ∧ Hid (DkO (ldD L) m) ∧ Hid (lo ≤ g ∧ lo ≤ gb)
section
variable {w W W' : World} {gl cl gw cw n lo : Nat} {M Ls L : List Nat} {pv : Value}
theorem Lo.up (h : Lo w gl cl gw cw n lo M Ls W) (hb : Below W.heap.size W W') : Lo w gl cl gw cw n lo M Ls W' :=
  ⟨own_move h.lent (hb.block gl (own_blt h.lent)), own_move h.was (hb.block gw (own_blt h.was)), h.lM, h.lL, h.gel, h.gew, h.ne, h.ltl, h.ltw, Nat.le_trans h.top hb.size, h.bel.trans (hb.mono h.bel.size)⟩
theorem Dn.up (h : Dn L lo pv W) (hb : Below W.heap.size W W') : Dn L lo pv W' := by
  rcases h with h | ⟨g, gb, m, e, h1, h2, h3⟩
  · exact .inl h
  · exact .inr ⟨g, gb, m, e, h1.out.below hb (Nat.le_refl _), h2, h3⟩
theorem Lo.set (h : Lo w gl cl gw cw n lo M Ls W) (i z : Nat) : Lo w gl cl gw cw n lo (M.set i z) Ls (W.setCell ⟨gl, i, none⟩ (.int .u8 (z : Int))) := by
  have e := (h.lent.stored i (.int .u8 (z : Int))).1
  have e2 : (cellsB M).set i (.int .u8 (z : Int)) = cellsB (M.set i z) := by simp [cellsB]
  rw [e2] at e
  exact ⟨e, own_move h.was (Below.heap_setCell _ _ _ _ h.ne.symm), by rw [List.length_set]; exact h.lM, h.lL, h.gel, h.gew, h.ne, h.ltl, h.ltw, by simpa [World.setCell] using h.top, h.bel.setCell h.gel _⟩
theorem Dn.set (h : Dn L lo pv W) (hl : gl < lo) (i : Nat) (v : Value) : Dn L lo pv (W.setCell ⟨gl, i, none⟩ v) := by
  rcases h with h | ⟨g, gb, m, e, h1, h2, h3⟩
  · exact .inl h
  · have h4 := h3.out
    exact .inr ⟨g, gb, m, e, ⟨(Below.heap_setCell _ _ _ _ (by show g ≠ gl; omega)).trans h1.out.1, (Below.heap_setCell _ _ _ _ (by show gb ≠ gl; omega)).trans h1.out.2⟩, h2, h3⟩
theorem Lo.cell (h : Lo w gl cl gw cw n lo M Ls W) {i : Nat} (hi : i < n + 3) : (∃ y, W.cell? ⟨gl, i, none⟩ = some y) ∧ ∀ k, W.frozen? ⟨gl, k, none⟩ = false := by
  refine ⟨?_, fun k => h.lent.frozenAt k⟩
  have := h.lent.cellAt i (by omega)
  obtain ⟨z, hz⟩ : ∃ z, M[i]? = some z := ⟨_, List.getElem?_eq_getElem (by rw [h.lM]; exact hi)⟩
  exact ⟨.int .u8 (z : Int), by rw [this]; simp [cellsB, hz]⟩
end
theorem spl16 {L Z : List Nat} (hZ : Z.length = 16) {i z : Nat} (h : (L.drop 16)[i]? = some z) : (splice L 0 Z)[16 + i]? = some z := by
  unfold splice
  rw [List.take_zero, List.nil_append, List.getElem?_append_right (by omega), hZ, Nat.zero_add, show 16 + i - 16 = i by omega]
  exact h
theorem blk_spl {L Z : List Nat} (hZ : Z.length = 16) : blkB (splice L 0 Z) 0 = Z := by
  unfold blkB splice
  rw [Nat.mul_zero, List.drop_zero, List.take_zero, List.nil_append, List.take_left' hZ]
section
variable {w W : World} {g gb m gw cw b : Nat} {D : Dk} {Ls : List Nat} {tag : Nat → Nat}
/-- A book takes bytes in that are new memory. -/
theorem owB (h : Ow w g gb m gw cw D Ls b tag W) {gi : Nat} {X : List Nat} (hX : BkB W gi X) (hl : X.length ≤ 1000000) (ht : tag gi = 0) (h1 : gi ≠ g ∧ gi ≠ gb ∧ gi ≠ gw) (hw : w.heap.size ≤ gi) :
    Calls Try.prog 23 #[.pointer (some ⟨b, 0, none⟩), .slice (some ⟨gi, 0, none⟩) X.length X.length] W fun e w' => e = .returned (.tuple #[]) ∧ ∃ tag', Hid (Ow w g gb m gw cw D Ls b tag' w') := by
  refine (KB.bookBytes b tag _ _ W h.bk (own_kb (own_bk hX (by omega))) (by rw [List.length_map]; exact hl) (fun x e => by cases e; exact ht)).mono ?_
  rintro e w' ⟨rfl, tag', hk, hf⟩
  exact ⟨rfl, tag', h.fr (x := gi) rfl hw h1 hk hf⟩
theorem Ow.fresh (h : Ow w g gb m gw cw D Ls b tag W) {x : Nat} (hx : W.heap.size ≤ x) : tag x = 0 ∧ (x ≠ g ∧ x ≠ gb ∧ x ≠ gw) ∧ w.heap.size ≤ x := by
  have l1 := blk_lt h.dk.1
  have l2 := blk_lt h.dk.2
  have l3 := own_blt h.was
  have l4 := h.bel.size
  exact ⟨book_fresh h.bk x hx, ⟨by omega, by omega, by omega⟩, by omega⟩
end
theorem own_bk0 {W : World} {g : Nat} {L : List Nat} (h : BkB W g L) (hl : L.length ≤ 10000000) : W.ownsRow g 5 1 (.slice (some ⟨g, 0, none⟩) L.length L.length) L.length (cellsB L) :=
  ⟨by rw [cellsB_len]; omega, .inr ⟨g, L.length, (cellsB L).toArray, rfl, Nat.le_refl _, h, Nat.le_refl _, by unfold maxLen; omega, by simp [cellsB_len], by rw [Nat.mul_one]; exact List.take_of_length_le (by rw [cellsB_len]; exact Nat.le_refl _)⟩⟩
theorem full1 {wc w5 w6 : World} {v6 : Value} {o : Obj} (hb : Below wc.heap.size wc w5) (hown : w5.ownsRow wc.heap.size 5 1 (.slice (some ⟨wc.heap.size, 0, none⟩) 16 16) 16 (cellsB (List.replicate 16 0))) (h : w6.ownsRow wc.heap.size 5 1 v6 (16 + 2) (cellsB (List.replicate 16 0) ++ cellsB [5, 6])) (hg : (w5.alloc o).grownBy w6 (Value.slice (some ⟨wc.heap.size, 0, none⟩) 16 16).ownBlock) :
    ∃ gf cf, v6 = .slice (some ⟨gf, 0, none⟩) 18 cf ∧ Hid (w6.ownsRow wc.heap.size 5 1 (.slice (some ⟨gf, 0, none⟩) 18 cf) 18 (cellsB (List.replicate 16 0 ++ [5, 6]))) ∧ Hid (Below wc.heap.size wc w6) ∧ Hid (wc.heap.size ≤ gf) := by
  obtain ⟨gl, cl, rfl, hge⟩ := own_some h (by omega)
  refine ⟨gl, cl, rfl, ?_, ?_, hge⟩
  · show World.ownsRow _ _ _ _ _ _ _
    rw [cellsB_app]
    exact h
  · have hs := hb.size
    exact (hb.alloc hs o).grown hg (by rw [size_alloc]; omega) (fun j ej => own_ge' hown ej)
theorem ow_start {w W : World} {gl cl gw cw n lo g gb m : Nat} {M Ls L : List Nat} (h : Lo w gl cl gw cw n lo M Ls W) (hd : DkA W g gb (ldD L)) (hk : DkO (ldD L) m) (hge : lo ≤ g ∧ lo ≤ gb) :
    Ow w g gb m gw cw (ldD L) Ls W.heap.size (fun x => if x = W.heap.size then 1 else 0) (W.alloc (.cells #[.slice none 0 0, .slice none 0 0, .slice none 0 0, .slice none 0 0, .slice none 0 0, .slice none 0 0, .slice none 0 0, .slice none 0 0, .slice none 0 0, .slice none 0 0, .slice none 0 0, .slice none 0 0, .int .i64 0] 56)) := by
  have hb : Below W.heap.size W (W.alloc (.cells #[.slice none 0 0, .slice none 0 0, .slice none 0 0, .slice none 0 0, .slice none 0 0, .slice none 0 0, .slice none 0 0, .slice none 0 0, .slice none 0 0, .slice none 0 0, .slice none 0 0, .slice none 0 0, .int .i64 0] 56)) := (Below.refl _ W).alloc (Nat.le_refl _) _
  have l1 := blk_lt hd.1
  have l2 := blk_lt hd.2
  have l3 := own_blt h.was
  have l4 := h.bel.size
  have l5 := h.gew
  have l6 := h.ltw
  have l7 := h.gel
  have l8 := h.ltl
  refine ⟨hd.below hb (Nat.le_refl _), hk, ?_, book_start W, if_neg (by omega), if_neg (by omega), if_neg (by omega), fun k hk => if_neg (by omega), by omega, by omega, h.gew, ⟨by omega, by omega⟩, h.bel.trans (hb.mono l4)⟩
  rw [h.lL]
  exact own_move h.was (hb.block gw l3)
set_option maxRecDepth 100000 in
set_option maxHeartbeats 4000000 in
theorem diskOwn_walk (I : List Nat) (iv : Value) (w : World) (hr : RowC w iv I) : Calls Try.prog 6 #[iv] w fun e w' => e = .returned (.bool true) ∧ Below w.heap.size w w' := by
  have KF := hide' (fewF I iv w hr)
  obtain ⟨ia, icap, rfl, _, _⟩ := hr
  have hle : Hid ((I.take 2000).length ≤ 2000) := by
    show (I.take 2000).length ≤ 2000
    rw [List.length_take]
    omega
  obtain ⟨i0, hi, hz0, hz1, hz2⟩ := info_parts infoU8
  generalize I.take 2000 = L at *
  go_enter Try.func6, Try.ntmps6
  go_wp2_with fail
  refine KF.out.mono ?_
  rintro e w1 ⟨v1, rfl, hown1, hb1⟩
  obtain ⟨oa, ca, rfl⟩ := own_shp hown1
  obtain ⟨n, hn⟩ : ∃ n, n = L.length := ⟨_, rfl⟩
  have hn' := hide' hn
  have hlen := hle.out
  rw [← hn] at hlen hown1 ⊢
  have hown1' := hide' hown1
  have hb1' := hide' hb1
  clear hn hown1 hb1
  go_upto_region 3 with (first | (at_builtin; refine wpList_append_own _ rfl (.tmp 16) (.tmp 17) 22 rfl w.heap.size 5 i0 (.int .u8 0) 1 1 Try.underlying22 hi hz0 hz1 hz2 rfl (by decide) (.slice oa n ca) n (cellsB L) rfl (hown1'.out.alloc _) ⟨w1.heap.size, 0, none⟩ 3 3 (cellsB [1, 2, 3]) rfl rfl (World.news_of_block (heap_new _ _)) (oneB _) (by unfold maxLen; omega) (by omega) (by rw [size_alloc]; exact Nat.le_succ_of_le hb1'.out.size) ?_; intro v2 w2 hown2 hgrow2 _; obtain ⟨gl, cl, rfl, hL2, hB2, hgl⟩ := lent1 hn'.out hb1'.out hown1'.out hown2 hgrow2; clear hown2 hgrow2) | (at_builtin; refine wpList_append_own _ rfl (.tmp 19) (.tmp 20) 22 rfl w2.heap.size 5 i0 (.int .u8 0) 1 1 Try.underlying22 hi hz0 hz1 hz2 rfl (by decide) _ 0 (cellsB []) rfl (owns_zero w2 _) ⟨gl, 0, none⟩ (n + 3) cl (cellsB (L ++ [1, 2, 3])) rfl (by rw [cellsB_len, List.length_append, ← hn'.out, Nat.mul_one]; rfl) (own_news hL2.out _) (oneB _) (by unfold maxLen; omega) (by omega) (by rw [size_alloc]; omega) ?_; intro v3 w3 hown3 hgrow3 _; obtain ⟨gw, cw, rfl, hW3, hB3, hgw⟩ := lent2 (by omega) hown3 hgrow3; clear hown3 hgrow3; have hcl : n + 3 ≤ cl := own_cap hL2.out; have hcw : n + 3 ≤ cw := own_cap hW3.out))
  obtain ⟨Ls, hLs⟩ : ∃ Ls, Ls = L ++ [1, 2, 3] := ⟨_, rfl⟩
  have hLo : Hid (Lo w gl cl gw cw n w3.heap.size Ls Ls w3) := by
    have hl3 : Ls.length = n + 3 := by rw [hLs, List.length_append, ← hn'.out]; rfl
    have b2 := own_blt hL2.out
    have b3 := own_blt hW3.out
    have g1 := hgw.out
    have s3 := hB3.out.size
    have s2 := hB2.out.size
    rw [← hLs] at hL2 hW3
    exact ⟨own_move (own_zero hL2.out) (hB3.out.block gl b2), own_zero hW3.out, hl3, hl3, hgl.out, Nat.le_trans s2 g1, by omega, by omega, b3, Nat.le_refl _, hB2.out.trans (hB3.out.mono s2)⟩
  have hrowL : Hid (RowC w3 (.slice (some ⟨gl, 0, none⟩) n cl) L) := own_cut (B := 0) (m := n + 3) (M := Ls) (cap := cl) hLo.out.lent 0 (fun i z hz => by rw [hLs, Nat.zero_add, List.getElem?_append_left (List.getElem?_eq_some_iff.1 hz).1]; exact hz) hn'.out (by omega)
  have hLs' := hide' hLs
  clear hLs hL2 hW3 hB2 hB3 hgl hgw hown1' hb1' KF
  go_cut [5, 6] from 22 to 30 (fun pv _ wx => Hid (Dn L w3.heap.size pv wx) ∧ Hid (Lo w gl cl gw cw n w3.heap.size Ls Ls wx))
  case first => as_aux_lemma =>
    by_cases hok : n % 16 = 0 ∧ 0 < n
    · obtain ⟨m, hm⟩ : ∃ m, n = 16 * m := ⟨n / 16, by omega⟩
      have K := hide' (loadF L m _ w3 hrowL.out (by rw [← hn'.out]; exact hm) (by omega) (by omega))
      unfold NewP at K
      have hdo := hide' (ldD_ok (L := L) (n := m) (by rw [← hn'.out]; exact hm) (by omega) (by omega))
      clear hm
      go_wp2_with fail
      refine K.out.mono ?_
      rintro e w4 ⟨g, gb, rfl, hd, hge, hbl⟩
      go_wp2
      go_meet
      case rel => exact ⟨.inr ⟨g, gb, m, rfl, hd, hdo, hge⟩, hLo.out.up hbl.out⟩
    · have K := hide' (loadBad L _ w3 hrowL.out (by rw [← hn'.out]; omega) (by rw [← hn'.out]; exact hlen))
      go_wp2_with fail
      refine K.out.mono ?_
      rintro e w4 ⟨rfl, hw1⟩
      obtain rfl : w3 = w4 := hw1.symm
      go_wp2
      go_meet
      case rel => exact ⟨.inl rfl, hLo⟩
  case rest =>
  clear hLo hrowL
  obtain ⟨hD, hLo⟩ := hcut
  generalize w3.heap.size = lo at *
  have cv1 := conv_bytes (RowC.of_owns (B := 0) (L := Ls) (by rw [hLo.out.lL]; exact hLo.out.lent))
  have cv2 := conv_bytes (RowC.of_owns (B := 0) (L := Ls) (by rw [hLo.out.lL]; exact hLo.out.was))
  generalize strB Ls = bs at *
  have KK := hide' (wakesF wc)
  go_upto_block 0 with (go_at_call 12; refine KK.out.mono ?_; rintro e w5 ⟨rfl, hw5⟩; have hD5 := hide' (hD.out.up hw5); have hL5 := hide' (hLo.out.up hw5); clear hw5)
  clear cv1 cv2 KK hD hLo
  go_cut [7] from 40 to 48 (fun _ wx => Hid (Dn L lo u5 wx) ∧ ∃ M, Hid (Lo w gl cl gw cw n lo M Ls wx))
  case first => as_aux_lemma =>
    go_wp2_with fail
    go_loopw [7] (fun iv wr => ∃ (i : Nat) (M : List Nat), i ≤ n + 3 ∧ iv = .int .i64 (i : Int) ∧ Hid (Dn L lo u5 wr) ∧ Hid (Lo w gl cl gw cw n lo M Ls wr)) (fun iv _ => (((n + 3 : Nat) : Int) - intOf iv).toNat)
    case atStart => exact ⟨0, Ls, by omega, rfl, hD5, hL5⟩
    case round =>
      clear hD5 hL5
      obtain ⟨i, M, hi, rfl, hD, hLo⟩ := hrel
      by_cases hlt : i < n + 3
      · have hlt1 : (i : Int) < (n : Int) + 3 := by omega
        obtain ⟨⟨y, hy⟩, hf⟩ := hLo.out.cell hlt
        have hD1 := hide' (hD.out.set hLo.out.ltl i (.int .u8 ((99 : Nat) : Int)))
        have hL1 := hide' (hLo.out.set i 99)
        go_wp2
        exact ⟨⟨i + 1, _, by omega, by go_num, hD1, hL1⟩, by simp [intOf]; omega⟩
      · have hlt1 : ¬ (i : Int) < (n : Int) + 3 := by omega
        go_wp2_with fail
        go_meet
        case rel => exact ⟨hD, M, hLo⟩
  case rest =>
  clear hD5 hL5
  obtain ⟨hD, M, hLo⟩ := hcut
  rcases hD.out with rfl | ⟨g, gb, m, rfl, hd, hk, hge⟩
  · go_wp2
    go_ret
    exact ⟨rfl, hLo.out.bel⟩
  · have hOw := hide' (ow_start hLo.out hd.out hk.out hge.out)
    have hlL := hide' hLo.out.lL
    have hpos : Hid (16 ≤ n) := by
      have h1 := hk.out.len
      have h2 := hk.out.pos
      rw [show (ldD L).bytes.length = n from hn'.out.symm] at h1
      show 16 ≤ n
      omega
    clear hLo hD hd hk hge
    go_upto_block 2 with fail
    generalize wc.heap.size = b at *
    generalize wc.alloc (.cells #[.slice none 0 0, .slice none 0 0, .slice none 0 0, .slice none 0 0, .slice none 0 0, .slice none 0 0, .slice none 0 0, .slice none 0 0, .slice none 0 0, .slice none 0 0, .slice none 0 0, .slice none 0 0, .int .i64 0] 56) = Wb at *
    go_cut [9, 10, 11] from 53 to 68 (fun _ _ _ wx => ∃ tag, Hid (Ow w g gb m gw cw (ldD L) Ls b tag wx))
    case first => as_aux_lemma =>
      go_wp2_with fail
      go_loopw [9, 10, 11] (fun kv _ _ wr => ∃ (k : Nat) (tag : Nat → Nat), k ≤ 3 ∧ kv = .int .i64 (k : Int) ∧ Hid (Ow w g gb m gw cw (ldD L) Ls b tag wr)) (fun kv _ _ _ => ((3 : Int) - intOf kv).toNat)
      case atStart => exact ⟨0, _, by omega, rfl, hOw⟩
      case round =>
        clear hOw
        obtain ⟨k, tag, hk, rfl, hOw⟩ := hrel
        by_cases hlt : k < 3
        · have hlt1 : (k : Int) < 3 := by omega
          have K1 := hide' (imageF hOw.out.dk (by rw [show (ldD L).bytes.length = n from hn'.out.symm]; omega))
          unfold CoP at K1
          rw [show (ldD L).bytes.length = n from hn'.out.symm] at K1
          go_wp2_with fail
          refine K1.out.mono ?_
          rintro e w6 ⟨rfl, hI6, hb6⟩
          have hO6 := hide' (hOw.out.up hb6.out)
          obtain ⟨t1, t2, t3⟩ := hOw.out.fresh (Nat.le_refl wr.heap.size)
          have K2 := hide' (owB hO6.out hI6.out (by rw [show (ldD L).bytes.length = n from hn'.out.symm]; omega) t1 t2 t3)
          rw [show (ldD L).bytes.length = n from hn'.out.symm] at K2
          clear K1 t1 t2 t3
          go_wp2_with fail
          refine K2.out.mono ?_
          rintro e w7 ⟨rfl, tag7, hO7⟩
          have K3 := hide' (readF hO7.out.dk hO7.out.ok.len hO7.out.ok.most 0 hO7.out.ok.pos rfl)
          unfold RdP at K3
          rw [show ((0 : Nat) : Int) = 0 from rfl] at K3
          clear K2
          go_wp2_with fail
          refine K3.out.mono ?_
          rintro e w8 ⟨rfl, hI8, hb8⟩
          have hO8 := hide' (hO7.out.up hb8.out)
          obtain ⟨t1, t2, t3⟩ := hO7.out.fresh (Nat.le_refl w7.heap.size)
          have hl16 := blkB_len hO7.out.ok.len hO7.out.ok.pos
          have K4 := hide' (owB hO8.out hI8.out (by rw [hl16]; omega) t1 t2 t3)
          rw [hl16] at K4
          clear K3 t1 t2 t3 hl16
          go_wp2_with fail
          refine K4.out.mono ?_
          rintro e w9 ⟨rfl, tag9, hO9⟩
          go_wp2
          exact ⟨⟨k + 1, tag9, by omega, by go_num, hO9⟩, by simp [intOf]; omega⟩
        · have hlt1 : ¬ (k : Int) < 3 := by omega
          go_wp2_with fail
          go_meet
          case rel => exact ⟨tag, hOw⟩
    case rest =>
    clear hOw
    obtain ⟨tag, hOw⟩ := hcut
    obtain ⟨w5, hr5, hb5, hw5⟩ := make16 wc
    have hO5 := hide' (hOw.out.up hw5.out)
    have hown5 := hide' (own_bk0 hb5.out (by simp))
    rw [show (List.replicate 16 0).length = 16 from rfl] at hown5
    obtain ⟨t1, t2, t3⟩ := hOw.out.fresh (Nat.le_refl wc.heap.size)
    have ht5 : Hid (∀ x, wc.heap.size ≤ x → tag x = 0 ∧ (x ≠ g ∧ x ≠ gb ∧ x ≠ gw) ∧ w.heap.size ≤ x) := fun x hx => hOw.out.fresh hx
    clear t1 t2 t3
    go_upto_region 20 with (at_builtin; refine wpList_append_own _ rfl (.tmp 69) (.tmp 70) 22 rfl wc.heap.size 5 i0 (.int .u8 0) 1 1 Try.underlying22 hi hz0 hz1 hz2 rfl (by decide) (.slice (some ⟨wc.heap.size, 0, none⟩) 16 16) 16 (cellsB (List.replicate 16 0)) rfl (hown5.out.alloc _) ⟨w5.heap.size, 0, none⟩ 2 2 (cellsB [5, 6]) rfl rfl (World.news_of_block (heap_new _ _)) (oneB _) (by unfold maxLen; omega) (by omega) (by rw [size_alloc]; exact Nat.le_succ_of_le hw5.out.size) ?_; intro v6 w6 hown6 hgrow6 _; obtain ⟨gf, cf, rfl, hF6, hB6, hgf⟩ := full1 hw5.out hown5.out hown6 hgrow6; clear hown6 hgrow6; have hcf : 18 ≤ cf := own_cap hF6.out)
    have hO6 := hide' (hOw.out.up hB6.out)
    obtain ⟨t1, t2, t3⟩ := ht5.out gf hgf.out
    have t1' := hide' t1
    have t2' := hide' t2
    have t3' := hide' t3
    clear t1 t2 t3 hr5 hb5 hw5 hO5 hown5 ht5 hOw
    have hrow6 := own_cut (n := 16) (L := List.replicate 16 0) hF6.out 0 (fun i z hz => by rw [Nat.zero_add, List.getElem?_append_left (List.getElem?_eq_some_iff.1 hz).1]; exact hz) (by simp) (by omega)
    rw [Nat.sub_zero] at hrow6
    have KW := hide' (writeF hO6.out.dk hO6.out.ok 0 hO6.out.ok.pos rfl (List.replicate 16 0) _ hrow6 (by simp) (by simp [ldD]))
    unfold ChP at KW
    rw [show ((0 : Nat) : Int) = 0 from rfl] at KW
    have hok7 := hide' (wrD_ok (b := 0) (L := List.replicate 16 0) hO6.out.ok hO6.out.ok.pos (by simp) (by simp [ldD]))
    have hpow7 : (wrD (ldD L) 0 (List.replicate 16 0)).power = true := rfl
    have hby7 : Hid ((wrD (ldD L) 0 (List.replicate 16 0)).bytes = splice L 0 (List.replicate 16 0)) := rfl
    clear hrow6
    generalize wrD (ldD L) 0 (List.replicate 16 0) = D7 at *
    go_wp2_with fail
    refine KW.out.mono ?_
    rintro e w7 ⟨rfl, hd7, hk7⟩
    have hO7 := hide' (hO6.out.write hd7.out hok7.out hk7.out)
    have hF7 := hide' (own_move hF6.out (hk7.out.block gf (own_blt hF6.out) t2'.out.1 t2'.out.2.1))
    have e16 : w7.cell? ⟨gf, 16, none⟩ = some (.int .u8 5) := by rw [hF7.out.cellAt 16 (by omega)]; rfl
    have e17 : w7.cell? ⟨gf, 17, none⟩ = some (.int .u8 6) := by rw [hF7.out.cellAt 17 (by omega)]; rfl
    have e0 : w7.cell? ⟨gf, 0, none⟩ = some (.int .u8 0) := by rw [hF7.out.cellAt 0 (by omega)]; rfl
    have ef : ∀ k, w7.frozen? ⟨gf, k, none⟩ = false := fun k => hF7.out.frozenAt k
    clear hd7 hk7 KW hF6 hO6
    have hO8 := hide' (hO7.out.kp t1'.out t2'.out t3'.out ((Kp.refl gf gf w7).set 0 (.int .u8 77)))
    have KR := hide' (readF hO8.out.dk hO8.out.ok.len hO8.out.ok.most 0 hO8.out.ok.pos hpow7)
    unfold RdP at KR
    rw [show ((0 : Nat) : Int) = 0 from rfl] at KR
    go_wp2_with fail
    refine KR.out.mono ?_
    rintro e w10 ⟨rfl, hI10, hb10⟩
    have hO10 := hide' (hO8.out.up hb10.out)
    have htx := (hO8.out.fresh (Nat.le_refl _)).1
    rw [hby7.out, blk_spl (by simp)] at hI10
    generalize hgx : (w7.setCell ⟨gf, 0, none⟩ (.int .u8 77)).heap.size = gx at *
    clear hgx
    have hO11 := hide' (hO10.out.drew)
    have hx11 : Hid (BkB w10.drew gx (List.replicate 16 0)) := hI10.out
    clear KR hO8 hO7 hF7 e16 e17 e0 ef hb10 hI10 hO10
    have KC := hide' (KB.bookClose b tag w10.drew hO11.out.bk)
    have KI : Hid (∀ V, Oz w g gb m gw cw D7 Ls gx (List.replicate 16 0) V → Calls Try.prog 16 #[.pointer (some ⟨g, 0, none⟩)] V fun e w' => ∃ gi, e = .returned (.slice (some ⟨gi, 0, none⟩) n n) ∧ Hid (BkB w' gi D7.bytes) ∧ Hid (Below V.heap.size V w')) := fun V hV => by
      have hl7 : D7.bytes.length = n := by
        rw [hby7.out, splice_len (by have := hpos.out; have := hn'.out; simp; omega)]
        exact hn'.out.symm
      refine (imageF hV.dk (by omega)).mono ?_
      rintro e w' ⟨rfl, h1, h2⟩
      rw [hl7]
      exact ⟨_, rfl, h1, h2⟩
    have hSS0 : Hid (∀ V, Oz w g gb m gw cw D7 Ls gx (List.replicate 16 0) V → V.cell? ⟨gx, 0, none⟩ = some (.int .u8 0) ∧ (convert 22 9 (.slice (some ⟨gw, 16, none⟩) (n - 16) (cw - 16))).run Try.prog V = .ok (.string (strB (L.drop 16))) V) := fun V hV => by
      refine ⟨by simpa using hV.x.cell (i := 0) (z := 0) rfl, conv_bytes (own_cut hV.was 16 (fun i z hz => ?_) ?_ (by omega))⟩
      · rw [List.getElem?_drop] at hz
        rw [hLs'.out, List.getElem?_append_left (List.getElem?_eq_some_iff.1 hz).1]
        exact hz
      · rw [List.length_drop, ← hn'.out]
    have hpos' := hpos.out
    by_cases hone : n = 16
    · have hSS : Hid (∀ V, Oz w g gb m gw cw D7 Ls gx (List.replicate 16 0) V → V.cell? ⟨gx, 0, none⟩ = some (.int .u8 0) ∧ (convert 22 9 (.slice (some ⟨gw, 16, none⟩) 0 (cw - 16))).run Try.prog V = .ok (.string (strB (L.drop 16))) V) := fun V hV => by
        have := hSS0.out V hV
        rw [show n - 16 = 0 by omega] at this
        exact this
      have KI2 : Hid (∀ V, Oz w g gb m gw cw D7 Ls gx (List.replicate 16 0) V → Calls Try.prog 16 #[.pointer (some ⟨g, 0, none⟩)] V fun e w' => ∃ gi, e = .returned (.slice (some ⟨gi, 0, none⟩) 16 16) ∧ (convert 22 9 (.slice (some ⟨gi, 0, none⟩) 0 0)).run Try.prog w' = .ok (.string (strB (L.drop 16))) w' ∧ Hid (Below V.heap.size V w')) := fun V hV => (KI.out V hV).mono fun e w' ⟨gi, h1, h2, h3⟩ => ⟨gi, by rw [h1, hone], conv_bytes (RowC.of_bk (o := 0) h2.out (fun i z hz => by
        have : L.drop 16 = [] := List.drop_eq_nil_of_le (by rw [← hn'.out]; omega)
        rw [this] at hz
        cases hz) (by rw [List.length_drop, ← hn'.out]; omega) (Nat.le_refl _)), h3⟩
      clear hSS0 KI
      generalize strB (L.drop 16) = bs2 at *
      subst hone
      have hwr16 : IntKind.i64.wrap 16 = 16 := by decide
      have hmx16 : max (16 : Int) 0 = 16 := by decide
      have hcw1 : (16 : Int) ≤ (cw : Int) := by omega
      have hcw2 : ¬ cw = 16 := by omega
      go_upto_region 25 with fail
      refine wp_region_held_drew (S := (fun V => V.cell? ⟨gx, 0, none⟩ = some (.int .u8 0) ∧ (convert 22 9 (.slice (some ⟨gw, 16, none⟩) 0 (cw - 16))).run Try.prog V = .ok (.string bs2) V)) (by kernel_rfl) ?_ (fun hHeld => ?_)
      · exact hSS.out _ (hO11.out.oz hx11.out)
      refine wpAnyH_take (i := 0) (oi := { dst := some 93, op := Op.move (Operand.tmp 8), type := 51, pos := "law.go:172", after := #[], guard := none }) (v := ?_) rfl (by kernel_rfl) (by kernel_rfl) (by kernel_rfl) (fun _ _ _ h => h) (Or.inl ⟨by rfl, ?_⟩) (by assumption) ?_
      rotate_left
      · intro w hSw; (try dsimp only at hSw); go_simp <;> with_reducible rfl
      simp only [Act.put, List.setIfInBounds_toArray, List.set_cons_zero, List.set_cons_succ]
      refine wpAnyH_ready (rs := [1]) (by kernel_rfl) (by simp) ?_
      refine AllReadyH.cons (o := { dst := some 94, op := Op.call { callee := Callee.value (Operand.func 24), args := #[Operand.tmp 93], argTypes := #[51] }, type := 4, pos := "law.go:172", after := #[{ on := 0, ground := Ground.data }], guard := none }) rfl (fun K hK => ?_) AllReadyH.nil
      go_simp
      go_at_call 24; refine KC.out.mono ?_; rintro e w12 ⟨rfl, hs12⟩; have hZ12 := hide' (hO11.out.closed hx11.out htx hs12); (try dsimp only)
      refine hK.out _ _ ?_ (fun hHeld => ?_)
      · exact hSS.out _ hZ12.out
      clear hK K
      try simp only [Act.put, List.setIfInBounds_toArray, List.set_cons_zero, List.set_cons_succ]
      refine wpAnyH_take (i := 2) (oi := { dst := some 95, op := Op.move (Operand.tmp 94), type := 4, pos := "law.go:172", after := #[{ on := 1, ground := Ground.data }, { on := 1, ground := Ground.chain }], guard := none }) (v := ?_) rfl (by kernel_rfl) (by kernel_rfl) (by kernel_rfl) (fun _ _ _ h => h) (Or.inl ⟨by rfl, ?_⟩) (by assumption) ?_
      rotate_left
      · intro w hSw; (try dsimp only at hSw); go_simp <;> with_reducible rfl
      simp only [Act.put, List.setIfInBounds_toArray, List.set_cons_zero, List.set_cons_succ]
      refine wpAnyH_take (i := 3) (oi := { dst := some 96, op := Op.move (Operand.tmp 13), type := 22, pos := "law.go:172", after := #[{ on := 2, ground := Ground.guard }], guard := some (2, true) }) (v := ?_) rfl (by kernel_rfl) (by kernel_rfl) (by kernel_rfl) (fun _ _ _ h => h) (Or.inl ⟨by rfl, ?_⟩) (by assumption) ?_
      rotate_left
      · intro w hSw; (try dsimp only at hSw); go_simp <;> with_reducible rfl
      simp only [Act.put, List.setIfInBounds_toArray, List.set_cons_zero, List.set_cons_succ]
      refine wpAnyH_take (i := 4) (oi := { dst := some 97, op := Op.call { callee := Callee.builtin Builtin.len, args := #[Operand.tmp 96], argTypes := #[22] }, type := 3, pos := "law.go:172", after := #[{ on := 3, ground := Ground.data }, { on := 2, ground := Ground.guard }], guard := some (2, true) }) (v := ?_) rfl (by kernel_rfl) (by kernel_rfl) (by kernel_rfl) (fun _ _ _ h => h) (Or.inl ⟨by rfl, ?_⟩) (by assumption) ?_
      rotate_left
      · intro w hSw; (try dsimp only at hSw); go_simp <;> with_reducible rfl
      simp only [Act.put, List.setIfInBounds_toArray, List.set_cons_zero, List.set_cons_succ]
      refine wpAnyH_take (i := 5) (oi := { dst := some 98, op := Op.binOp BinOp.eql 3 (Operand.tmp 97) (Operand.const (Value.int IntKind.i64 16)) 3, type := 4, pos := "law.go:172", after := #[{ on := 4, ground := Ground.data }, { on := 2, ground := Ground.guard }], guard := some (2, true) }) (v := ?_) rfl (by kernel_rfl) (by kernel_rfl) (by kernel_rfl) (fun _ _ _ h => h) (Or.inl ⟨by rfl, ?_⟩) (by assumption) ?_
      rotate_left
      · intro w hSw; (try dsimp only at hSw); go_simp <;> with_reducible rfl
      simp only [Act.put, List.setIfInBounds_toArray, List.set_cons_zero, List.set_cons_succ]
      refine wpAnyH_take (i := 6) (oi := { dst := some 99, op := Op.pick (Operand.tmp 95) (Operand.tmp 98) (Operand.const (Value.bool false)), type := 4, pos := "law.go:172", after := #[{ on := 2, ground := Ground.data }, { on := 5, ground := Ground.data }], guard := none }) (v := ?_) rfl (by kernel_rfl) (by kernel_rfl) (by kernel_rfl) (fun _ _ _ h => h) (Or.inl ⟨by rfl, ?_⟩) (by assumption) ?_
      rotate_left
      · intro w hSw; (try dsimp only at hSw); go_simp <;> with_reducible rfl
      simp only [Act.put, List.setIfInBounds_toArray, List.set_cons_zero, List.set_cons_succ]
      refine wpAnyH_take (i := 7) (oi := { dst := some 100, op := Op.move (Operand.tmp 99), type := 4, pos := "law.go:172", after := #[{ on := 6, ground := Ground.data }, { on := 2, ground := Ground.chain }], guard := none }) (v := ?_) rfl (by kernel_rfl) (by kernel_rfl) (by kernel_rfl) (fun _ _ _ h => h) (Or.inl ⟨by rfl, ?_⟩) (by assumption) ?_
      rotate_left
      · intro w hSw; (try dsimp only at hSw); go_simp <;> with_reducible rfl
      simp only [Act.put, List.setIfInBounds_toArray, List.set_cons_zero, List.set_cons_succ]
      refine wpAnyH_take (i := 8) (oi := { dst := some 101, op := Op.move (Operand.tmp 13), type := 22, pos := "law.go:172", after := #[{ on := 7, ground := Ground.guard }], guard := some (7, true) }) (v := ?_) rfl (by kernel_rfl) (by kernel_rfl) (by kernel_rfl) (fun _ _ _ h => h) (Or.inl ⟨by rfl, ?_⟩) (by assumption) ?_
      rotate_left
      · intro w hSw; (try dsimp only at hSw); go_simp <;> with_reducible rfl
      simp only [Act.put, List.setIfInBounds_toArray, List.set_cons_zero, List.set_cons_succ]
      refine wpAnyH_take (i := 9) (oi := { dst := some 102, op := Op.indexAddr 22 (Operand.tmp 101) (Operand.const (Value.int IntKind.i64 0)), type := 0, pos := "law.go:172", after := #[{ on := 8, ground := Ground.data }, { on := 7, ground := Ground.guard }], guard := some (7, true) }) (v := ?_) rfl (by kernel_rfl) (by kernel_rfl) (by kernel_rfl) (fun _ _ _ h => h) (Or.inl ⟨by rfl, ?_⟩) (by assumption) ?_
      rotate_left
      · intro w hSw; (try dsimp only at hSw); go_simp <;> with_reducible rfl
      simp only [Act.put, List.setIfInBounds_toArray, List.set_cons_zero, List.set_cons_succ]
      refine wpAnyH_take (i := 10) (oi := { dst := some 103, op := Op.load 5 (Operand.tmp 102), type := 5, pos := "law.go:172", after := #[{ on := 9, ground := Ground.data }, { on := 7, ground := Ground.guard }], guard := some (7, true) }) (v := ?_) rfl (by kernel_rfl) (by kernel_rfl) (by kernel_rfl) (fun _ _ _ h => h) (Or.inl ⟨by rfl, ?_⟩) (by assumption) ?_
      rotate_left
      · intro w hSw; (try dsimp only at hSw); go_simp <;> with_reducible rfl
      simp only [Act.put, List.setIfInBounds_toArray, List.set_cons_zero, List.set_cons_succ]
      refine wpAnyH_take (i := 11) (oi := { dst := some 104, op := Op.binOp BinOp.eql 5 (Operand.tmp 103) (Operand.const (Value.int IntKind.u8 0)) 5, type := 4, pos := "law.go:172", after := #[{ on := 10, ground := Ground.data }, { on := 7, ground := Ground.guard }], guard := some (7, true) }) (v := ?_) rfl (by kernel_rfl) (by kernel_rfl) (by kernel_rfl) (fun _ _ _ h => h) (Or.inl ⟨by rfl, ?_⟩) (by assumption) ?_
      rotate_left
      · intro w hSw; (try dsimp only at hSw); go_simp <;> with_reducible rfl
      simp only [Act.put, List.setIfInBounds_toArray, List.set_cons_zero, List.set_cons_succ]
      refine wpAnyH_take (i := 12) (oi := { dst := some 105, op := Op.pick (Operand.tmp 100) (Operand.tmp 104) (Operand.const (Value.bool false)), type := 4, pos := "law.go:172", after := #[{ on := 7, ground := Ground.data }, { on := 11, ground := Ground.data }], guard := none }) (v := ?_) rfl (by kernel_rfl) (by kernel_rfl) (by kernel_rfl) (fun _ _ _ h => h) (Or.inl ⟨by rfl, ?_⟩) (by assumption) ?_
      rotate_left
      · intro w hSw; (try dsimp only at hSw); go_simp <;> with_reducible rfl
      simp only [Act.put, List.setIfInBounds_toArray, List.set_cons_zero, List.set_cons_succ]
      refine wpAnyH_take (i := 13) (oi := { dst := some 106, op := Op.move (Operand.tmp 105), type := 4, pos := "law.go:172", after := #[{ on := 12, ground := Ground.data }, { on := 7, ground := Ground.chain }], guard := none }) (v := ?_) rfl (by kernel_rfl) (by kernel_rfl) (by kernel_rfl) (fun _ _ _ h => h) (Or.inl ⟨by rfl, ?_⟩) (by assumption) ?_
      rotate_left
      · intro w hSw; (try dsimp only at hSw); go_simp <;> with_reducible rfl
      simp only [Act.put, List.setIfInBounds_toArray, List.set_cons_zero, List.set_cons_succ]
      refine wpAnyH_take (i := 14) (oi := { dst := some 107, op := Op.move (Operand.tmp 5), type := 24, pos := "law.go:172", after := #[{ on := 13, ground := Ground.guard }], guard := some (13, true) }) (v := ?_) rfl (by kernel_rfl) (by kernel_rfl) (by kernel_rfl) (fun _ _ _ h => h) (Or.inl ⟨by rfl, ?_⟩) (by assumption) ?_
      rotate_left
      · intro w hSw; (try dsimp only at hSw); go_simp <;> with_reducible rfl
      simp only [Act.put, List.setIfInBounds_toArray, List.set_cons_zero, List.set_cons_succ]
      refine wpAnyH_take (i := 18) (oi := { dst := some 111, op := Op.move (Operand.tmp 4), type := 22, pos := "law.go:172", after := #[{ on := 13, ground := Ground.guard }], guard := some (13, true) }) (v := ?_) rfl (by kernel_rfl) (by kernel_rfl) (by kernel_rfl) (fun _ _ _ h => h) (Or.inl ⟨by rfl, ?_⟩) (by assumption) ?_
      rotate_left
      · intro w hSw; (try dsimp only at hSw); go_simp <;> with_reducible rfl
      simp only [Act.put, List.setIfInBounds_toArray, List.set_cons_zero, List.set_cons_succ]
      refine wpAnyH_take (i := 19) (oi := { dst := some 112, op := Op.move (Operand.tmp 4), type := 22, pos := "law.go:172", after := #[{ on := 13, ground := Ground.guard }], guard := some (13, true) }) (v := ?_) rfl (by kernel_rfl) (by kernel_rfl) (by kernel_rfl) (fun _ _ _ h => h) (Or.inl ⟨by rfl, ?_⟩) (by assumption) ?_
      rotate_left
      · intro w hSw; (try dsimp only at hSw); go_simp <;> with_reducible rfl
      simp only [Act.put, List.setIfInBounds_toArray, List.set_cons_zero, List.set_cons_succ]
      refine wpAnyH_take (i := 20) (oi := { dst := some 113, op := Op.call { callee := Callee.builtin Builtin.len, args := #[Operand.tmp 112], argTypes := #[22] }, type := 3, pos := "law.go:172", after := #[{ on := 19, ground := Ground.data }, { on := 13, ground := Ground.guard }], guard := some (13, true) }) (v := ?_) rfl (by kernel_rfl) (by kernel_rfl) (by kernel_rfl) (fun _ _ _ h => h) (Or.inl ⟨by rfl, ?_⟩) (by assumption) ?_
      rotate_left
      · intro w hSw; (try dsimp only at hSw); go_simp <;> with_reducible rfl
      simp only [Act.put, List.setIfInBounds_toArray, List.set_cons_zero, List.set_cons_succ]
      refine wpAnyH_take (i := 21) (oi := { dst := some 114, op := Op.binOp BinOp.sub 3 (Operand.tmp 113) (Operand.const (Value.int IntKind.i64 3)) 3, type := 3, pos := "law.go:172", after := #[{ on := 20, ground := Ground.data }, { on := 13, ground := Ground.guard }], guard := some (13, true) }) (v := ?_) rfl (by kernel_rfl) (by kernel_rfl) (by kernel_rfl) (fun _ _ _ h => h) (Or.inl ⟨by rfl, ?_⟩) (by assumption) ?_
      rotate_left
      · intro w hSw; (try dsimp only at hSw); go_simp <;> with_reducible rfl
      simp only [Act.put, List.setIfInBounds_toArray, List.set_cons_zero, List.set_cons_succ]
      refine wpAnyH_take (i := 22) (oi := { dst := some 115, op := Op.slice 22 (Operand.tmp 111) (some (Operand.const (Value.int IntKind.i64 16))) (some (Operand.tmp 114)) none, type := 22, pos := "law.go:172", after := #[{ on := 18, ground := Ground.data }, { on := 21, ground := Ground.data }, { on := 13, ground := Ground.guard }], guard := some (13, true) }) (v := ?_) rfl (by kernel_rfl) (by kernel_rfl) (by kernel_rfl) (fun _ _ _ h => h) (Or.inl ⟨by rfl, ?_⟩) (by assumption) ?_
      rotate_left
      · intro w hSw; (try dsimp only at hSw); go_simp <;> with_reducible rfl
      simp only [Act.put, List.setIfInBounds_toArray, List.set_cons_zero, List.set_cons_succ]
      refine wpAnyH_take (i := 23) (oi := { dst := some 116, op := Op.convert 22 9 (Operand.tmp 115), type := 9, pos := "law.go:172", after := #[{ on := 22, ground := Ground.data }, { on := 13, ground := Ground.guard }], guard := some (13, true) }) (v := ?_) rfl (by kernel_rfl) (by kernel_rfl) (by kernel_rfl) (fun _ _ _ h => h) (Or.inl ⟨by rfl, ?_⟩) (by assumption) ?_
      rotate_left
      · intro w hSw; (try dsimp only at hSw); go_simp <;> with_reducible rfl
      simp only [Act.put, List.setIfInBounds_toArray, List.set_cons_zero, List.set_cons_succ]
      refine wpAnyH_ready (rs := [15]) (by kernel_rfl) (by simp) ?_
      refine AllReadyH.cons (o := { dst := some 108, op := Op.call { callee := Callee.value (Operand.func 16), args := #[Operand.tmp 107], argTypes := #[24] }, type := 22, pos := "law.go:172", after := #[{ on := 14, ground := Ground.data }, { on := 13, ground := Ground.chain }, { on := 13, ground := Ground.guard }], guard := some (13, true) }) rfl (fun K hK => ?_) AllReadyH.nil
      go_simp
      go_at_call 16; refine (KI2.out _ hZ12.out).mono ?_; rintro e w13 ⟨gi, rfl, hcv13, hb13⟩; have hZ13 := hide' (hZ12.out.up hb13.out); (try dsimp only)
      refine hK.out _ _ ?_ (fun hHeld => ?_)
      · exact hSS.out _ hZ13.out
      clear hK K
      try simp only [Act.put, List.setIfInBounds_toArray, List.set_cons_zero, List.set_cons_succ]
      refine wpAnyH_take (i := 16) (oi := { dst := some 109, op := Op.slice 22 (Operand.tmp 108) (some (Operand.const (Value.int IntKind.i64 16))) none none, type := 22, pos := "law.go:172", after := #[{ on := 15, ground := Ground.data }, { on := 13, ground := Ground.guard }], guard := some (13, true) }) (v := ?_) rfl (by kernel_rfl) (by kernel_rfl) (by kernel_rfl) (fun _ _ _ h => h) (Or.inl ⟨by rfl, ?_⟩) (by assumption) ?_
      rotate_left
      · intro w hSw; (try dsimp only at hSw); go_simp <;> with_reducible rfl
      simp only [Act.put, List.setIfInBounds_toArray, List.set_cons_zero, List.set_cons_succ]
      refine wpAnyH_ready (rs := [17]) (by kernel_rfl) (by simp) ?_
      refine AllReadyH.cons (o := { dst := some 110, op := Op.convert 22 9 (Operand.tmp 109), type := 9, pos := "law.go:172", after := #[{ on := 16, ground := Ground.data }, { on := 13, ground := Ground.guard }], guard := some (13, true) }) rfl (fun K hK => ?_) AllReadyH.nil
      go_simp
      refine hK.out _ _ ?_ (fun hHeld => ?_)
      · exact hSS.out _ hZ13.out
      clear hK K
      try simp only [Act.put, List.setIfInBounds_toArray, List.set_cons_zero, List.set_cons_succ]
      refine wpAnyH_take (i := 24) (oi := { dst := some 117, op := Op.binOp BinOp.eql 9 (Operand.tmp 110) (Operand.tmp 116) 9, type := 4, pos := "law.go:172", after := #[{ on := 17, ground := Ground.data }, { on := 23, ground := Ground.data }, { on := 13, ground := Ground.guard }], guard := some (13, true) }) (v := ?_) rfl (by kernel_rfl) (by kernel_rfl) (by kernel_rfl) (fun _ _ _ h => h) (Or.inl ⟨by rfl, ?_⟩) (by assumption) ?_
      rotate_left
      · intro w hSw; (try dsimp only at hSw); go_simp <;> with_reducible rfl
      simp only [Act.put, List.setIfInBounds_toArray, List.set_cons_zero, List.set_cons_succ]
      refine wpAnyH_take (i := 25) (oi := { dst := some 118, op := Op.pick (Operand.tmp 106) (Operand.tmp 117) (Operand.const (Value.bool false)), type := 4, pos := "law.go:172", after := #[{ on := 13, ground := Ground.data }, { on := 24, ground := Ground.data }], guard := none }) (v := ?_) rfl (by kernel_rfl) (by kernel_rfl) (by kernel_rfl) (fun _ _ _ h => h) (Or.inl ⟨by rfl, ?_⟩) (by assumption) ?_
      rotate_left
      · intro w hSw; (try dsimp only at hSw); go_simp <;> with_reducible rfl
      simp only [Act.put, List.setIfInBounds_toArray, List.set_cons_zero, List.set_cons_succ]
      refine wpAnyH_take (i := 26) (oi := { dst := some 2, op := Op.assign (Operand.tmp 118), type := 4, pos := "law.go:172", after := #[{ on := 25, ground := Ground.data }, { on := 15, ground := Ground.chain }, { on := 0, ground := Ground.phase }, { on := 1, ground := Ground.phase }, { on := 2, ground := Ground.phase }, { on := 3, ground := Ground.phase }, { on := 4, ground := Ground.phase }, { on := 5, ground := Ground.phase }, { on := 6, ground := Ground.phase }, { on := 7, ground := Ground.phase }, { on := 8, ground := Ground.phase }, { on := 9, ground := Ground.phase }, { on := 10, ground := Ground.phase }, { on := 11, ground := Ground.phase }, { on := 12, ground := Ground.phase }, { on := 13, ground := Ground.phase }, { on := 14, ground := Ground.phase }, { on := 15, ground := Ground.phase }, { on := 16, ground := Ground.phase }, { on := 17, ground := Ground.phase }, { on := 18, ground := Ground.phase }, { on := 19, ground := Ground.phase }, { on := 20, ground := Ground.phase }, { on := 21, ground := Ground.phase }, { on := 22, ground := Ground.phase }, { on := 23, ground := Ground.phase }, { on := 24, ground := Ground.phase }, { on := 25, ground := Ground.phase }], guard := none }) (v := ?_) rfl (by kernel_rfl) (by kernel_rfl) (by kernel_rfl) (fun _ _ _ h => h) (Or.inl ⟨by rfl, ?_⟩) (by assumption) ?_
      rotate_left
      · intro w hSw; (try dsimp only at hSw); go_simp <;> with_reducible rfl
      simp only [Act.put, List.setIfInBounds_toArray, List.set_cons_zero, List.set_cons_succ]
      refine wpAnyH_done (by kernel_rfl) ?_ _
      skip
      go_wp2
      go_ret
      exact ⟨ret_bool (by simp), hZ13.out.bel⟩
    · have hSS : Hid (∀ V, Oz w g gb m gw cw D7 Ls gx (List.replicate 16 0) V → V.cell? ⟨gx, 0, none⟩ = some (.int .u8 0) ∧ (convert 22 9 (.slice (some ⟨gw, 16, none⟩) (n - 16) (cw - 16))).run Try.prog V = .ok (.string (strB (L.drop 16))) V) := hSS0
      have KI2 : Hid (∀ V, Oz w g gb m gw cw D7 Ls gx (List.replicate 16 0) V → Calls Try.prog 16 #[.pointer (some ⟨g, 0, none⟩)] V fun e w' => ∃ gi, e = .returned (.slice (some ⟨gi, 0, none⟩) n n) ∧ (convert 22 9 (.slice (some ⟨gi, 16, none⟩) (n - 16) (n - 16))).run Try.prog w' = .ok (.string (strB (L.drop 16))) w' ∧ Hid (Below V.heap.size V w')) := fun V hV => (KI.out V hV).mono fun e w' ⟨gi, h1, h2, h3⟩ => ⟨gi, h1, conv_bytes (RowC.of_bk (o := 16) h2.out (fun i z hz => by
        rw [hby7.out]
        exact spl16 (by simp) hz) (by rw [List.length_drop, ← hn'.out]) (Nat.le_refl _)), h3⟩
      clear hSS0 KI
      generalize strB (L.drop 16) = bs2 at *
      have hg1 : (16 : Int) < (n : Int) := by omega
      have hg2 : 16 < n := by omega
      have hg3 : (16 : Int) ≤ (n : Int) := by omega
      have hwrp : IntKind.i64.wrap ((n : Int) + 3 - 3) = (n : Int) := by rw [IntKind.wrap_i64]; omega
      have hwrn : IntKind.i64.wrap (n : Int) = (n : Int) := by rw [IntKind.wrap_i64]; omega
      have hmxn : max (n : Int) 0 = (n : Int) := by omega
      have hcw1 : (n : Int) ≤ (cw : Int) := by omega
      have hcw2 : ¬ cw = 16 := by omega
      have hcw3 : n ≤ cw := by omega
      go_upto_region 25 with fail
      refine wp_region_held_drew (S := (fun V => V.cell? ⟨gx, 0, none⟩ = some (.int .u8 0) ∧ (convert 22 9 (.slice (some ⟨gw, 16, none⟩) (n - 16) (cw - 16))).run Try.prog V = .ok (.string bs2) V)) (by kernel_rfl) ?_ (fun hHeld => ?_)
      · exact hSS.out _ (hO11.out.oz hx11.out)
      refine wpAnyH_take (i := 0) (oi := { dst := some 93, op := Op.move (Operand.tmp 8), type := 51, pos := "law.go:172", after := #[], guard := none }) (v := ?_) rfl (by kernel_rfl) (by kernel_rfl) (by kernel_rfl) (fun _ _ _ h => h) (Or.inl ⟨by rfl, ?_⟩) (by assumption) ?_
      rotate_left
      · intro w hSw; (try dsimp only at hSw); go_simp <;> with_reducible rfl
      simp only [Act.put, List.setIfInBounds_toArray, List.set_cons_zero, List.set_cons_succ]
      refine wpAnyH_ready (rs := [1]) (by kernel_rfl) (by simp) ?_
      refine AllReadyH.cons (o := { dst := some 94, op := Op.call { callee := Callee.value (Operand.func 24), args := #[Operand.tmp 93], argTypes := #[51] }, type := 4, pos := "law.go:172", after := #[{ on := 0, ground := Ground.data }], guard := none }) rfl (fun K hK => ?_) AllReadyH.nil
      go_simp
      go_at_call 24; refine KC.out.mono ?_; rintro e w12 ⟨rfl, hs12⟩; have hZ12 := hide' (hO11.out.closed hx11.out htx hs12); (try dsimp only)
      refine hK.out _ _ ?_ (fun hHeld => ?_)
      · exact hSS.out _ hZ12.out
      clear hK K
      try simp only [Act.put, List.setIfInBounds_toArray, List.set_cons_zero, List.set_cons_succ]
      refine wpAnyH_take (i := 2) (oi := { dst := some 95, op := Op.move (Operand.tmp 94), type := 4, pos := "law.go:172", after := #[{ on := 1, ground := Ground.data }, { on := 1, ground := Ground.chain }], guard := none }) (v := ?_) rfl (by kernel_rfl) (by kernel_rfl) (by kernel_rfl) (fun _ _ _ h => h) (Or.inl ⟨by rfl, ?_⟩) (by assumption) ?_
      rotate_left
      · intro w hSw; (try dsimp only at hSw); go_simp <;> with_reducible rfl
      simp only [Act.put, List.setIfInBounds_toArray, List.set_cons_zero, List.set_cons_succ]
      refine wpAnyH_take (i := 3) (oi := { dst := some 96, op := Op.move (Operand.tmp 13), type := 22, pos := "law.go:172", after := #[{ on := 2, ground := Ground.guard }], guard := some (2, true) }) (v := ?_) rfl (by kernel_rfl) (by kernel_rfl) (by kernel_rfl) (fun _ _ _ h => h) (Or.inl ⟨by rfl, ?_⟩) (by assumption) ?_
      rotate_left
      · intro w hSw; (try dsimp only at hSw); go_simp <;> with_reducible rfl
      simp only [Act.put, List.setIfInBounds_toArray, List.set_cons_zero, List.set_cons_succ]
      refine wpAnyH_take (i := 4) (oi := { dst := some 97, op := Op.call { callee := Callee.builtin Builtin.len, args := #[Operand.tmp 96], argTypes := #[22] }, type := 3, pos := "law.go:172", after := #[{ on := 3, ground := Ground.data }, { on := 2, ground := Ground.guard }], guard := some (2, true) }) (v := ?_) rfl (by kernel_rfl) (by kernel_rfl) (by kernel_rfl) (fun _ _ _ h => h) (Or.inl ⟨by rfl, ?_⟩) (by assumption) ?_
      rotate_left
      · intro w hSw; (try dsimp only at hSw); go_simp <;> with_reducible rfl
      simp only [Act.put, List.setIfInBounds_toArray, List.set_cons_zero, List.set_cons_succ]
      refine wpAnyH_take (i := 5) (oi := { dst := some 98, op := Op.binOp BinOp.eql 3 (Operand.tmp 97) (Operand.const (Value.int IntKind.i64 16)) 3, type := 4, pos := "law.go:172", after := #[{ on := 4, ground := Ground.data }, { on := 2, ground := Ground.guard }], guard := some (2, true) }) (v := ?_) rfl (by kernel_rfl) (by kernel_rfl) (by kernel_rfl) (fun _ _ _ h => h) (Or.inl ⟨by rfl, ?_⟩) (by assumption) ?_
      rotate_left
      · intro w hSw; (try dsimp only at hSw); go_simp <;> with_reducible rfl
      simp only [Act.put, List.setIfInBounds_toArray, List.set_cons_zero, List.set_cons_succ]
      refine wpAnyH_take (i := 6) (oi := { dst := some 99, op := Op.pick (Operand.tmp 95) (Operand.tmp 98) (Operand.const (Value.bool false)), type := 4, pos := "law.go:172", after := #[{ on := 2, ground := Ground.data }, { on := 5, ground := Ground.data }], guard := none }) (v := ?_) rfl (by kernel_rfl) (by kernel_rfl) (by kernel_rfl) (fun _ _ _ h => h) (Or.inl ⟨by rfl, ?_⟩) (by assumption) ?_
      rotate_left
      · intro w hSw; (try dsimp only at hSw); go_simp <;> with_reducible rfl
      simp only [Act.put, List.setIfInBounds_toArray, List.set_cons_zero, List.set_cons_succ]
      refine wpAnyH_take (i := 7) (oi := { dst := some 100, op := Op.move (Operand.tmp 99), type := 4, pos := "law.go:172", after := #[{ on := 6, ground := Ground.data }, { on := 2, ground := Ground.chain }], guard := none }) (v := ?_) rfl (by kernel_rfl) (by kernel_rfl) (by kernel_rfl) (fun _ _ _ h => h) (Or.inl ⟨by rfl, ?_⟩) (by assumption) ?_
      rotate_left
      · intro w hSw; (try dsimp only at hSw); go_simp <;> with_reducible rfl
      simp only [Act.put, List.setIfInBounds_toArray, List.set_cons_zero, List.set_cons_succ]
      refine wpAnyH_take (i := 8) (oi := { dst := some 101, op := Op.move (Operand.tmp 13), type := 22, pos := "law.go:172", after := #[{ on := 7, ground := Ground.guard }], guard := some (7, true) }) (v := ?_) rfl (by kernel_rfl) (by kernel_rfl) (by kernel_rfl) (fun _ _ _ h => h) (Or.inl ⟨by rfl, ?_⟩) (by assumption) ?_
      rotate_left
      · intro w hSw; (try dsimp only at hSw); go_simp <;> with_reducible rfl
      simp only [Act.put, List.setIfInBounds_toArray, List.set_cons_zero, List.set_cons_succ]
      refine wpAnyH_take (i := 9) (oi := { dst := some 102, op := Op.indexAddr 22 (Operand.tmp 101) (Operand.const (Value.int IntKind.i64 0)), type := 0, pos := "law.go:172", after := #[{ on := 8, ground := Ground.data }, { on := 7, ground := Ground.guard }], guard := some (7, true) }) (v := ?_) rfl (by kernel_rfl) (by kernel_rfl) (by kernel_rfl) (fun _ _ _ h => h) (Or.inl ⟨by rfl, ?_⟩) (by assumption) ?_
      rotate_left
      · intro w hSw; (try dsimp only at hSw); go_simp <;> with_reducible rfl
      simp only [Act.put, List.setIfInBounds_toArray, List.set_cons_zero, List.set_cons_succ]
      refine wpAnyH_take (i := 10) (oi := { dst := some 103, op := Op.load 5 (Operand.tmp 102), type := 5, pos := "law.go:172", after := #[{ on := 9, ground := Ground.data }, { on := 7, ground := Ground.guard }], guard := some (7, true) }) (v := ?_) rfl (by kernel_rfl) (by kernel_rfl) (by kernel_rfl) (fun _ _ _ h => h) (Or.inl ⟨by rfl, ?_⟩) (by assumption) ?_
      rotate_left
      · intro w hSw; (try dsimp only at hSw); go_simp <;> with_reducible rfl
      simp only [Act.put, List.setIfInBounds_toArray, List.set_cons_zero, List.set_cons_succ]
      refine wpAnyH_take (i := 11) (oi := { dst := some 104, op := Op.binOp BinOp.eql 5 (Operand.tmp 103) (Operand.const (Value.int IntKind.u8 0)) 5, type := 4, pos := "law.go:172", after := #[{ on := 10, ground := Ground.data }, { on := 7, ground := Ground.guard }], guard := some (7, true) }) (v := ?_) rfl (by kernel_rfl) (by kernel_rfl) (by kernel_rfl) (fun _ _ _ h => h) (Or.inl ⟨by rfl, ?_⟩) (by assumption) ?_
      rotate_left
      · intro w hSw; (try dsimp only at hSw); go_simp <;> with_reducible rfl
      simp only [Act.put, List.setIfInBounds_toArray, List.set_cons_zero, List.set_cons_succ]
      refine wpAnyH_take (i := 12) (oi := { dst := some 105, op := Op.pick (Operand.tmp 100) (Operand.tmp 104) (Operand.const (Value.bool false)), type := 4, pos := "law.go:172", after := #[{ on := 7, ground := Ground.data }, { on := 11, ground := Ground.data }], guard := none }) (v := ?_) rfl (by kernel_rfl) (by kernel_rfl) (by kernel_rfl) (fun _ _ _ h => h) (Or.inl ⟨by rfl, ?_⟩) (by assumption) ?_
      rotate_left
      · intro w hSw; (try dsimp only at hSw); go_simp <;> with_reducible rfl
      simp only [Act.put, List.setIfInBounds_toArray, List.set_cons_zero, List.set_cons_succ]
      refine wpAnyH_take (i := 13) (oi := { dst := some 106, op := Op.move (Operand.tmp 105), type := 4, pos := "law.go:172", after := #[{ on := 12, ground := Ground.data }, { on := 7, ground := Ground.chain }], guard := none }) (v := ?_) rfl (by kernel_rfl) (by kernel_rfl) (by kernel_rfl) (fun _ _ _ h => h) (Or.inl ⟨by rfl, ?_⟩) (by assumption) ?_
      rotate_left
      · intro w hSw; (try dsimp only at hSw); go_simp <;> with_reducible rfl
      simp only [Act.put, List.setIfInBounds_toArray, List.set_cons_zero, List.set_cons_succ]
      refine wpAnyH_take (i := 14) (oi := { dst := some 107, op := Op.move (Operand.tmp 5), type := 24, pos := "law.go:172", after := #[{ on := 13, ground := Ground.guard }], guard := some (13, true) }) (v := ?_) rfl (by kernel_rfl) (by kernel_rfl) (by kernel_rfl) (fun _ _ _ h => h) (Or.inl ⟨by rfl, ?_⟩) (by assumption) ?_
      rotate_left
      · intro w hSw; (try dsimp only at hSw); go_simp <;> with_reducible rfl
      simp only [Act.put, List.setIfInBounds_toArray, List.set_cons_zero, List.set_cons_succ]
      refine wpAnyH_take (i := 18) (oi := { dst := some 111, op := Op.move (Operand.tmp 4), type := 22, pos := "law.go:172", after := #[{ on := 13, ground := Ground.guard }], guard := some (13, true) }) (v := ?_) rfl (by kernel_rfl) (by kernel_rfl) (by kernel_rfl) (fun _ _ _ h => h) (Or.inl ⟨by rfl, ?_⟩) (by assumption) ?_
      rotate_left
      · intro w hSw; (try dsimp only at hSw); go_simp <;> with_reducible rfl
      simp only [Act.put, List.setIfInBounds_toArray, List.set_cons_zero, List.set_cons_succ]
      refine wpAnyH_take (i := 19) (oi := { dst := some 112, op := Op.move (Operand.tmp 4), type := 22, pos := "law.go:172", after := #[{ on := 13, ground := Ground.guard }], guard := some (13, true) }) (v := ?_) rfl (by kernel_rfl) (by kernel_rfl) (by kernel_rfl) (fun _ _ _ h => h) (Or.inl ⟨by rfl, ?_⟩) (by assumption) ?_
      rotate_left
      · intro w hSw; (try dsimp only at hSw); go_simp <;> with_reducible rfl
      simp only [Act.put, List.setIfInBounds_toArray, List.set_cons_zero, List.set_cons_succ]
      refine wpAnyH_take (i := 20) (oi := { dst := some 113, op := Op.call { callee := Callee.builtin Builtin.len, args := #[Operand.tmp 112], argTypes := #[22] }, type := 3, pos := "law.go:172", after := #[{ on := 19, ground := Ground.data }, { on := 13, ground := Ground.guard }], guard := some (13, true) }) (v := ?_) rfl (by kernel_rfl) (by kernel_rfl) (by kernel_rfl) (fun _ _ _ h => h) (Or.inl ⟨by rfl, ?_⟩) (by assumption) ?_
      rotate_left
      · intro w hSw; (try dsimp only at hSw); go_simp <;> with_reducible rfl
      simp only [Act.put, List.setIfInBounds_toArray, List.set_cons_zero, List.set_cons_succ]
      refine wpAnyH_take (i := 21) (oi := { dst := some 114, op := Op.binOp BinOp.sub 3 (Operand.tmp 113) (Operand.const (Value.int IntKind.i64 3)) 3, type := 3, pos := "law.go:172", after := #[{ on := 20, ground := Ground.data }, { on := 13, ground := Ground.guard }], guard := some (13, true) }) (v := ?_) rfl (by kernel_rfl) (by kernel_rfl) (by kernel_rfl) (fun _ _ _ h => h) (Or.inl ⟨by rfl, ?_⟩) (by assumption) ?_
      rotate_left
      · intro w hSw; (try dsimp only at hSw); go_simp <;> with_reducible rfl
      simp only [Act.put, List.setIfInBounds_toArray, List.set_cons_zero, List.set_cons_succ]
      refine wpAnyH_take (i := 22) (oi := { dst := some 115, op := Op.slice 22 (Operand.tmp 111) (some (Operand.const (Value.int IntKind.i64 16))) (some (Operand.tmp 114)) none, type := 22, pos := "law.go:172", after := #[{ on := 18, ground := Ground.data }, { on := 21, ground := Ground.data }, { on := 13, ground := Ground.guard }], guard := some (13, true) }) (v := ?_) rfl (by kernel_rfl) (by kernel_rfl) (by kernel_rfl) (fun _ _ _ h => h) (Or.inl ⟨by rfl, ?_⟩) (by assumption) ?_
      rotate_left
      · intro w hSw; (try dsimp only at hSw); go_simp <;> with_reducible rfl
      simp only [Act.put, List.setIfInBounds_toArray, List.set_cons_zero, List.set_cons_succ]
      refine wpAnyH_take (i := 23) (oi := { dst := some 116, op := Op.convert 22 9 (Operand.tmp 115), type := 9, pos := "law.go:172", after := #[{ on := 22, ground := Ground.data }, { on := 13, ground := Ground.guard }], guard := some (13, true) }) (v := ?_) rfl (by kernel_rfl) (by kernel_rfl) (by kernel_rfl) (fun _ _ _ h => h) (Or.inl ⟨by rfl, ?_⟩) (by assumption) ?_
      rotate_left
      · intro w hSw; (try dsimp only at hSw); go_simp <;> with_reducible rfl
      simp only [Act.put, List.setIfInBounds_toArray, List.set_cons_zero, List.set_cons_succ]
      refine wpAnyH_ready (rs := [15]) (by kernel_rfl) (by simp) ?_
      refine AllReadyH.cons (o := { dst := some 108, op := Op.call { callee := Callee.value (Operand.func 16), args := #[Operand.tmp 107], argTypes := #[24] }, type := 22, pos := "law.go:172", after := #[{ on := 14, ground := Ground.data }, { on := 13, ground := Ground.chain }, { on := 13, ground := Ground.guard }], guard := some (13, true) }) rfl (fun K hK => ?_) AllReadyH.nil
      go_simp
      go_at_call 16; refine (KI2.out _ hZ12.out).mono ?_; rintro e w13 ⟨gi, rfl, hcv13, hb13⟩; have hZ13 := hide' (hZ12.out.up hb13.out); (try dsimp only)
      refine hK.out _ _ ?_ (fun hHeld => ?_)
      · exact hSS.out _ hZ13.out
      clear hK K
      try simp only [Act.put, List.setIfInBounds_toArray, List.set_cons_zero, List.set_cons_succ]
      refine wpAnyH_take (i := 16) (oi := { dst := some 109, op := Op.slice 22 (Operand.tmp 108) (some (Operand.const (Value.int IntKind.i64 16))) none none, type := 22, pos := "law.go:172", after := #[{ on := 15, ground := Ground.data }, { on := 13, ground := Ground.guard }], guard := some (13, true) }) (v := ?_) rfl (by kernel_rfl) (by kernel_rfl) (by kernel_rfl) (fun _ _ _ h => h) (Or.inl ⟨by rfl, ?_⟩) (by assumption) ?_
      rotate_left
      · intro w hSw; (try dsimp only at hSw); go_simp <;> with_reducible rfl
      simp only [Act.put, List.setIfInBounds_toArray, List.set_cons_zero, List.set_cons_succ]
      refine wpAnyH_ready (rs := [17]) (by kernel_rfl) (by simp) ?_
      refine AllReadyH.cons (o := { dst := some 110, op := Op.convert 22 9 (Operand.tmp 109), type := 9, pos := "law.go:172", after := #[{ on := 16, ground := Ground.data }, { on := 13, ground := Ground.guard }], guard := some (13, true) }) rfl (fun K hK => ?_) AllReadyH.nil
      go_simp
      refine hK.out _ _ ?_ (fun hHeld => ?_)
      · exact hSS.out _ hZ13.out
      clear hK K
      try simp only [Act.put, List.setIfInBounds_toArray, List.set_cons_zero, List.set_cons_succ]
      refine wpAnyH_take (i := 24) (oi := { dst := some 117, op := Op.binOp BinOp.eql 9 (Operand.tmp 110) (Operand.tmp 116) 9, type := 4, pos := "law.go:172", after := #[{ on := 17, ground := Ground.data }, { on := 23, ground := Ground.data }, { on := 13, ground := Ground.guard }], guard := some (13, true) }) (v := ?_) rfl (by kernel_rfl) (by kernel_rfl) (by kernel_rfl) (fun _ _ _ h => h) (Or.inl ⟨by rfl, ?_⟩) (by assumption) ?_
      rotate_left
      · intro w hSw; (try dsimp only at hSw); go_simp <;> with_reducible rfl
      simp only [Act.put, List.setIfInBounds_toArray, List.set_cons_zero, List.set_cons_succ]
      refine wpAnyH_take (i := 25) (oi := { dst := some 118, op := Op.pick (Operand.tmp 106) (Operand.tmp 117) (Operand.const (Value.bool false)), type := 4, pos := "law.go:172", after := #[{ on := 13, ground := Ground.data }, { on := 24, ground := Ground.data }], guard := none }) (v := ?_) rfl (by kernel_rfl) (by kernel_rfl) (by kernel_rfl) (fun _ _ _ h => h) (Or.inl ⟨by rfl, ?_⟩) (by assumption) ?_
      rotate_left
      · intro w hSw; (try dsimp only at hSw); go_simp <;> with_reducible rfl
      simp only [Act.put, List.setIfInBounds_toArray, List.set_cons_zero, List.set_cons_succ]
      refine wpAnyH_take (i := 26) (oi := { dst := some 2, op := Op.assign (Operand.tmp 118), type := 4, pos := "law.go:172", after := #[{ on := 25, ground := Ground.data }, { on := 15, ground := Ground.chain }, { on := 0, ground := Ground.phase }, { on := 1, ground := Ground.phase }, { on := 2, ground := Ground.phase }, { on := 3, ground := Ground.phase }, { on := 4, ground := Ground.phase }, { on := 5, ground := Ground.phase }, { on := 6, ground := Ground.phase }, { on := 7, ground := Ground.phase }, { on := 8, ground := Ground.phase }, { on := 9, ground := Ground.phase }, { on := 10, ground := Ground.phase }, { on := 11, ground := Ground.phase }, { on := 12, ground := Ground.phase }, { on := 13, ground := Ground.phase }, { on := 14, ground := Ground.phase }, { on := 15, ground := Ground.phase }, { on := 16, ground := Ground.phase }, { on := 17, ground := Ground.phase }, { on := 18, ground := Ground.phase }, { on := 19, ground := Ground.phase }, { on := 20, ground := Ground.phase }, { on := 21, ground := Ground.phase }, { on := 22, ground := Ground.phase }, { on := 23, ground := Ground.phase }, { on := 24, ground := Ground.phase }, { on := 25, ground := Ground.phase }], guard := none }) (v := ?_) rfl (by kernel_rfl) (by kernel_rfl) (by kernel_rfl) (fun _ _ _ h => h) (Or.inl ⟨by rfl, ?_⟩) (by assumption) ?_
      rotate_left
      · intro w hSw; (try dsimp only at hSw); go_simp <;> with_reducible rfl
      simp only [Act.put, List.setIfInBounds_toArray, List.set_cons_zero, List.set_cons_succ]
      refine wpAnyH_done (by kernel_rfl) ?_ _
      skip
      go_wp2
      go_ret
      exact ⟨ret_bool (by simp), hZ13.out.bel⟩
end Go.Proofs.Ytkabileeincjaaa
