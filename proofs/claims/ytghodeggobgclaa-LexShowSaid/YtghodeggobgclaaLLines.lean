/- Lines, and the document's: what they answer. -/
import Derived.Test.YtghodeggobgclaaLFewA
namespace Go.Proofs.Ytghodeggobgclaa
open Go.RowKit Go.Shelf
theorem infoL : (Try.prog.info? 22).map (fun i => (i.zero, i.size, i.bytes)) = some (some (.slice none 0 0), 1, 24) := by kernel_rfl
theorem own_oneL {w : World} {B : Nat} {e : TypeId} {size : Nat} {v : Value} {n : Nat} {xs : List Value} (h : w.ownsRow B e size v n xs) : v.oneCell' = true := by
  rcases h.2 with ⟨rfl, _⟩ | ⟨g', cap, cur, rfl, hb, _⟩ <;> rfl
theorem LnS.ones {B : Nat} {w : World} {v : Value} {P : List (List Tok × Value)} (h : LnS B w v P) : ∀ u ∈ P.map Prod.snd, u.oneCell' = true := fun u hu => by
  obtain ⟨p, hp, rfl⟩ := List.mem_map.1 hu
  exact own_oneL (h.inner p hp)
/-- A row of rows of tokens, told by the tokens. -/
def LnR (B : Nat) (w : World) (v : Value) (M : List (List Tok)) : Prop := ∃ P, P.map Prod.fst = M ∧ LnS B w v P
theorem tcells_one (t : Tok) : ∀ u ∈ tcells t, u.oneCell' = true := by
  intro u hu
  simp [tcells] at hu
  rcases hu with rfl | rfl | rfl | rfl | rfl <;> rfl
/-- Laying the line behind the lines: what the walk does with it. -/
theorem push_end {B C : Nat} {w W w' : World} {v v' u : Value} {P : List (List Tok × Value)} {one : List Tok} (h : LnM B C W v P u one) (hb : Below B w W) (hown : w'.ownsRow B 22 1 v' (P.length + 1) (P.map Prod.snd ++ [u])) (hg : W.grownBy w' v.ownBlock) :
    LnM B w'.heap.size w' v' (P ++ [(one, u)]) (.slice none 0 0) [] ∧ Below B w w' := by
  have hbg : Below B w w' := hb.grown hg (Nat.le_trans h.lo h.hi) (fun j ej => own_geL h.ln.row ej)
  have hW : Below B W w' := (Below.refl B W).grown hg (Nat.le_trans h.lo h.hi) (fun j ej => own_geL h.ln.row ej)
  exact ⟨h.push hown hg hW.size, hbg⟩
theorem add_end {B C : Nat} {w W w' : World} {v u u' : Value} {P : List (List Tok × Value)} {one : List Tok} {t : Tok} (h : LnM B C W v P u one) (hb : Below B w W) (hown : w'.ownsRow C 35 5 u' (one.length + 1) (cellsT one ++ tcells t)) (hg : W.grownBy w' u.ownBlock) :
    LnM B C w' v P u' (one ++ [t]) ∧ Below B w w' := by
  have hbg : Below B w w' := hb.grown hg (Nat.le_trans h.lo h.hi) (fun j ej => Nat.le_trans h.lo (own_geL h.one ej))
  have hW : Below B W w' := (Below.refl B W).grown hg (Nat.le_trans h.lo h.hi) (fun j ej => Nat.le_trans h.lo (own_geL h.one ej))
  exact ⟨h.add hown hg hW.size, hbg⟩
set_option maxRecDepth 100000 in
set_option maxHeartbeats 8000000 in
theorem linesF (oa : Option Addr) (cap : Nat) (L : List Tok) (w : World) (H : TokAt w oa L) (hm : L.length ≤ 100000) :
    Calls Try.prog 9 #[.slice oa L.length cap] w fun e w' => ∃ v, e = .returned v ∧ LnR w.heap.size w' v (linT L) ∧ Hid (Below w.heap.size w w') := by
  obtain ⟨i0, hi, hz0, hz1, hz2⟩ := info_partsL infoT
  obtain ⟨i1, hj, hy0, hy1, hy2⟩ := info_partsL infoL
  have H' := hide' H
  have hat : Hid (∀ c, c < L.length → ∃ t, L[c]? = some t) := fun c hc => ⟨_, List.getElem?_eq_getElem hc⟩
  have hlen := hide' (linC_len L)
  clear H
  go_enter Try.func9, Try.ntmps9
  go_wp2
  go_loopw [3, 4, 6, 9] (fun vl u _ k wr => ∃ (c C : Nat) (P : List (List Tok × Value)) (ou : Option Addr) (cu : Nat), c ≤ L.length ∧ k = .int .i64 c ∧ u = .slice ou (linC L c).2.length cu ∧ Hid (P.map Prod.fst = (linC L c).1) ∧ Hid (LnM w.heap.size C wr vl P (.slice ou (linC L c).2.length cu) (linC L c).2) ∧ Hid (Below w.heap.size w wr)) (fun _ _ _ k _ => ((L.length : Int) - intOf k).toNat)
  case atStart => exact ⟨0, w.heap.size, [], none, 0, Nat.zero_le _, rfl, rfl, rfl, LnM.start _ _ (Nat.le_refl _), Below.refl _ _⟩
  case round =>
    obtain ⟨c, C, P, ou, cu, hcl, rfl, rfl, hP, hM, hB⟩ := hrel
    have hPl : P.length ≤ 100000 := by
      have h1 := congrArg List.length hP.out
      rw [List.length_map] at h1
      have := (hlen.out c).1
      omega
    have h2l := (hlen.out c).2.1
    by_cases hlt : c < L.length
    · obtain ⟨t, ht⟩ := hat.out c hlt
      obtain ⟨g, rfl, k0, k1, k2, k3, k4⟩ := H'.out c t ht
      have K : ∀ j v, w.cell? ⟨g, j, none⟩ = some v → wr.cell? ⟨g, j, none⟩ = some v := fun j v hv => (hB.out.cell (p := ⟨g, j, none⟩) (cell_lt hv)).trans hv
      have c0 := K _ _ k0
      have c1 := K _ _ k1
      have c2 := K _ _ k2
      have c3 := K _ _ k3
      have c4 := K _ _ k4
      by_cases hk : t.kind = 4
      · have hN : Hid (linC L (c + 1) = ((linC L c).1 ++ [(linC L c).2], [])) := linC_end ht hk
        have e4 : (t.kind == 4) = true := by simpa using hk
        have e5 : (t.kind != 4) = false := by simpa using hk
        have hon : Hid (∀ u ∈ [Value.slice ou (linC L c).2.length cu], u.oneCell' = true) := fun u hu => by rw [List.mem_singleton] at hu; subst hu; rfl
        clear hat H' k0 k1 k2 k3 k4 K ht hlen hk
        generalize t.kind = kd at *
        generalize bs t.text = sx at *
        generalize t.num = nm at *
        generalize t.line = li at *
        generalize t.col = co at *
        obtain ⟨W1, hW1⟩ : ∃ W1, W1 = wr.alloc (.cells #[.int .i64 kd, .string sx, .int .i64 nm, .int .i64 li, .int .i64 co] 35) := ⟨_, rfl⟩
        have B1 : Below wr.heap.size wr W1 := by rw [hW1]; exact (Below.refl _ _).alloc (Nat.le_refl _) _
        have B2 : Below W1.heap.size W1 (W1.alloc (.cells #[.slice ou (linC L c).2.length cu] 22)) := (Below.refl _ _).alloc (Nat.le_refl _) _
        have hM2 := hide' ((hM.out.below B1 (Nat.le_refl _)).below B2 (Nat.le_refl _))
        have hB2 := hide' ((hB.out.trans (B1.mono hB.out.size)).trans (B2.mono (hB.out.trans (B1.mono hB.out.size)).size))
        have cn : Hid (∀ j u, [Value.slice ou (linC L c).2.length cu][j]? = some u → (W1.alloc (.cells #[.slice ou (linC L c).2.length cu] 22)).cell? ((⟨W1.heap.size, 0, none⟩ : Addr).add j) = some u) := World.news_of_block (cs := #[.slice ou (linC L c).2.length cu]) (heap_alloc_new _ _)
        rw [hW1] at hM2 hB2 cn
        simp only [World.size_alloc] at cn
        clear hM hB hW1 B1 B2
        generalize linC L c = pr at *
        obtain ⟨outs, one⟩ := pr
        have hPe := hide' hP.out
        generalize hql : one.length = q at *
        go_wp2_with (at_builtin; refine wpList_append_own _ rfl _ _ 29 rfl w.heap.size 22 i1 (.slice none 0 0) 1 24 Try.underlying29 hj hy0 hy1 hy2 rfl (by decide) u3 P.length (P.map Prod.snd) rfl hM2.out.ln.row ⟨wr.heap.size + 1, 0, none⟩ 1 1 [.slice ou q cu] rfl rfl cn.out hon.out (by unfold maxLen; omega) (by omega) (Nat.le_trans hM2.out.lo hM2.out.hi) ?_; intro v4 w4 hown4 hgrow4 _; have HO := hide' (push_end hM2.out hB2.out hown4 hgrow4); clear hown4 hgrow4)
        exact ⟨⟨c + 1, w4.heap.size, P ++ [(one, .slice ou q cu)], none, 0, by omega, by go_num, by rw [hN.out]; rfl, by show _ = _; rw [hN.out, List.map_append, hPe.out]; rfl, by rw [hN.out]; exact HO.out.1, HO.out.2⟩, by simp [intOf]; omega⟩
      · have hN : Hid (linC L (c + 1) = ((linC L c).1, (linC L c).2 ++ [t])) := linC_more ht hk
        have e4 : (t.kind == 4) = false := by simpa using hk
        have e5 : (t.kind != 4) = true := by simpa using hk
        have htc : Hid (tcells t = [.int .i64 t.kind, .string (bs t.text), .int .i64 t.num, .int .i64 t.line, .int .i64 t.col]) := rfl
        have hon := hide' (tcells_one t)
        have hfin : Hid (∀ C' (W w4 : World) (v4 : Value) , LnM w.heap.size C' W u3 P (.slice ou (linC L c).2.length cu) (linC L c).2 → Below w.heap.size w W → w4.ownsRow C' 35 5 v4 ((linC L c).2.length + 1) (cellsT (linC L c).2 ++ tcells t) → W.grownBy w4 (Value.slice ou (linC L c).2.length cu).ownBlock → ∃ o4 k4, v4 = .slice o4 (linC L (c + 1)).2.length k4 ∧ LnM w.heap.size C' w4 u3 P (.slice o4 (linC L (c + 1)).2.length k4) (linC L (c + 1)).2 ∧ P.map Prod.fst = (linC L (c + 1)).1 ∧ Below w.heap.size w w4) := fun C' W w4 v4 h1 h2 h3 h4 => by
          obtain ⟨o4, k4, rfl⟩ := own_shapeT h3
          have h5 := add_end h1 h2 h3 h4
          rw [hN.out]
          rw [show ((linC L c).2 ++ [t]).length = (linC L c).2.length + 1 by simp]
          exact ⟨o4, k4, rfl, h5.1, hP.out, h5.2⟩
        rw [htc.out] at hfin hon
        clear hat H' k0 k1 k2 k3 k4 K ht hlen hk hN htc hP
        generalize t.kind = kd at *
        generalize bs t.text = sx at *
        generalize t.num = nm at *
        generalize t.line = li at *
        generalize t.col = co at *
        obtain ⟨W1, hW1⟩ : ∃ W1, W1 = wr.alloc (.cells #[.int .i64 kd, .string sx, .int .i64 nm, .int .i64 li, .int .i64 co] 35) := ⟨_, rfl⟩
        have B1 : Below wr.heap.size wr W1 := by rw [hW1]; exact (Below.refl _ _).alloc (Nat.le_refl _) _
        have B2 : Below W1.heap.size W1 (W1.alloc (.cells #[.int .i64 kd, .string sx, .int .i64 nm, .int .i64 li, .int .i64 co] 35)) := (Below.refl _ _).alloc (Nat.le_refl _) _
        have hM2 := hide' ((hM.out.below B1 (Nat.le_refl _)).below B2 (Nat.le_refl _))
        have hB2 := hide' ((hB.out.trans (B1.mono hB.out.size)).trans (B2.mono (hB.out.trans (B1.mono hB.out.size)).size))
        have cn : Hid (∀ j u, [Value.int .i64 kd, .string sx, .int .i64 nm, .int .i64 li, .int .i64 co][j]? = some u → (W1.alloc (.cells #[.int .i64 kd, .string sx, .int .i64 nm, .int .i64 li, .int .i64 co] 35)).cell? ((⟨W1.heap.size, 0, none⟩ : Addr).add j) = some u) := World.news_of_block (cs := #[.int .i64 kd, .string sx, .int .i64 nm, .int .i64 li, .int .i64 co]) (heap_alloc_new _ _)
        rw [hW1] at hM2 hB2 cn
        simp only [World.size_alloc] at cn
        clear hM hB hW1 B1 B2
        generalize linC L c = pr at *
        obtain ⟨outs, one⟩ := pr
        generalize hql : one.length = q at *
        go_wp2_with (at_builtin; refine wpList_append_own _ rfl _ _ 22 rfl C 35 i0 (.agg #[.int .i64 0, .string ⟨#[]⟩, .int .i64 0, .int .i64 0, .int .i64 0]) 5 48 Try.underlying22 hi hz0 hz1 hz2 rfl (by decide) (.slice ou q cu) q (cellsT one) rfl (by have := hM2.out.one; rwa [hql] at this) ⟨wr.heap.size + 1, 0, none⟩ 1 1 [Value.int .i64 kd, .string sx, .int .i64 nm, .int .i64 li, .int .i64 co] rfl rfl cn.out hon.out (by unfold maxLen; omega) (by omega) hM2.out.hi ?_; intro v4 w4 hown4 hgrow4 _; obtain ⟨o4, k4, e4v, hO1, hO2, hO3⟩ := hfin.out C _ w4 v4 hM2.out hB2.out hown4 hgrow4; have HO1 := hide' hO1; have HO2 := hide' hO2; have HO3 := hide' hO3; clear hown4 hgrow4 hO1 hO2 hO3; subst e4v)
        exact ⟨⟨c + 1, C, P, o4, k4, by omega, by go_num, rfl, HO2, HO1, HO3⟩, by simp [intOf]; omega⟩
    · obtain rfl : c = L.length := by omega
      clear hat H'
      by_cases h0 : (linC L L.length).2.length = 0
      · have hE : Hid (LnR w.heap.size wr u3 (linT L)) := ⟨P, by unfold linT; rw [if_pos h0]; exact hP.out, hM.out.ln⟩
        have h0' : ¬ (0 : Int) < (((linC L L.length).2.length : Nat) : Int) := by omega
        clear hP hM hlen
        generalize (linC L L.length).2.length = q at *
        go_wp2
        go_ret
        exact ⟨_, rfl, hE.out, hB⟩
      · have h0' : (0 : Int) < (((linC L L.length).2.length : Nat) : Int) := by omega
        have hE : Hid (∀ (v4 : Value) (w4 : World), LnS w.heap.size w4 v4 (P ++ [((linC L L.length).2, .slice ou (linC L L.length).2.length cu)]) → LnR w.heap.size w4 v4 (linT L)) := fun v4 w4 h => ⟨_, by unfold linT; rw [if_neg h0, List.map_append, hP.out]; rfl, h⟩
        have hon : Hid (∀ u ∈ [Value.slice ou (linC L L.length).2.length cu], u.oneCell' = true) := fun u hu => by rw [List.mem_singleton] at hu; subst hu; rfl
        have B2 : Below wr.heap.size wr (wr.alloc (.cells #[.slice ou (linC L L.length).2.length cu] 22)) := (Below.refl _ _).alloc (Nat.le_refl _) _
        have hM2 := hide' (hM.out.below B2 (Nat.le_refl _))
        have hB2 := hide' (hB.out.trans (B2.mono hB.out.size))
        have cn : Hid (∀ j u, [Value.slice ou (linC L L.length).2.length cu][j]? = some u → (wr.alloc (.cells #[.slice ou (linC L L.length).2.length cu] 22)).cell? ((⟨wr.heap.size, 0, none⟩ : Addr).add j) = some u) := World.news_of_block (cs := #[.slice ou (linC L L.length).2.length cu]) (heap_alloc_new _ _)
        clear hM hB B2 hP hlen h0
        generalize linC L L.length = pr at *
        obtain ⟨outs, one⟩ := pr
        generalize hql : one.length = q at *
        go_wp2_with (at_builtin; refine wpList_append_own _ rfl _ _ 29 rfl w.heap.size 22 i1 (.slice none 0 0) 1 24 Try.underlying29 hj hy0 hy1 hy2 rfl (by decide) u3 P.length (P.map Prod.snd) rfl hM2.out.ln.row ⟨wr.heap.size, 0, none⟩ 1 1 [.slice ou q cu] rfl rfl cn.out hon.out (by unfold maxLen; omega) (by omega) (Nat.le_trans hM2.out.lo hM2.out.hi) ?_; intro v4 w4 hown4 hgrow4 _; have HO := hide' (push_end hM2.out hB2.out hown4 hgrow4); clear hown4 hgrow4)
        go_ret
        exact ⟨_, rfl, hE.out _ _ HO.out.1.ln, HO.out.2⟩
set_option maxRecDepth 100000 in
set_option maxHeartbeats 8000000 in
theorem rLines (oa : Option Addr) (cap : Nat) (L : List Tok) (w : World) (H : TokAt w oa L) (hm : L.length ≤ 100000) :
    Calls Try.prog 10 #[.slice oa L.length cap] w fun e w' => ∃ v, e = .returned v ∧ LnR w.heap.size w' v (linT L) ∧ Hid (Below w.heap.size w w') := by
  obtain ⟨i0, hi, hz0, hz1, hz2⟩ := info_partsL infoT
  obtain ⟨i1, hj, hy0, hy1, hy2⟩ := info_partsL infoL
  have H' := hide' H
  have hat : Hid (∀ c, c < L.length → ∃ t, L[c]? = some t) := fun c hc => ⟨_, List.getElem?_eq_getElem hc⟩
  have hlen := hide' (linC_len L)
  clear H
  go_enter Try.func10, Try.ntmps10
  go_wp2
  go_loopw [3, 4, 5] (fun vl u k wr => ∃ (c C : Nat) (P : List (List Tok × Value)) (ou : Option Addr) (cu : Nat), c ≤ L.length ∧ k = .int .i64 c ∧ u = .slice ou (linC L c).2.length cu ∧ Hid (P.map Prod.fst = (linC L c).1) ∧ Hid (LnM w.heap.size C wr vl P (.slice ou (linC L c).2.length cu) (linC L c).2) ∧ Hid (Below w.heap.size w wr)) (fun _ _ k _ => ((L.length : Int) - intOf k).toNat)
  case atStart => exact ⟨0, w.heap.size, [], none, 0, Nat.zero_le _, rfl, rfl, rfl, LnM.start _ _ (Nat.le_refl _), Below.refl _ _⟩
  case round =>
    obtain ⟨c, C, P, ou, cu, hcl, rfl, rfl, hP, hM, hB⟩ := hrel
    have hPl : P.length ≤ 100000 := by
      have h1 := congrArg List.length hP.out
      rw [List.length_map] at h1
      have := (hlen.out c).1
      omega
    have h2l := (hlen.out c).2.1
    by_cases hlt : c < L.length
    · obtain ⟨t, ht⟩ := hat.out c hlt
      obtain ⟨g, rfl, k0, k1, k2, k3, k4⟩ := H'.out c t ht
      have K : ∀ j v, w.cell? ⟨g, j, none⟩ = some v → wr.cell? ⟨g, j, none⟩ = some v := fun j v hv => (hB.out.cell (p := ⟨g, j, none⟩) (cell_lt hv)).trans hv
      have c0 := K _ _ k0
      have c1 := K _ _ k1
      have c2 := K _ _ k2
      have c3 := K _ _ k3
      have c4 := K _ _ k4
      by_cases hk : t.kind = 4
      · have hN : Hid (linC L (c + 1) = ((linC L c).1 ++ [(linC L c).2], [])) := linC_end ht hk
        have e4 : (t.kind == 4) = true := by simpa using hk
        have e5 : (t.kind != 4) = false := by simpa using hk
        have hon : Hid (∀ u ∈ [Value.slice ou (linC L c).2.length cu], u.oneCell' = true) := fun u hu => by rw [List.mem_singleton] at hu; subst hu; rfl
        clear hat H' k0 k1 k2 k3 k4 K ht hlen hk
        generalize t.kind = kd at *
        generalize bs t.text = sx at *
        generalize t.num = nm at *
        generalize t.line = li at *
        generalize t.col = co at *
        obtain ⟨W1, hW1⟩ : ∃ W1, W1 = wr := ⟨_, rfl⟩
        have B1 : Below wr.heap.size wr W1 := by rw [hW1]; exact Below.refl _ _
        have B2 : Below W1.heap.size W1 (W1.alloc (.cells #[.slice ou (linC L c).2.length cu] 22)) := (Below.refl _ _).alloc (Nat.le_refl _) _
        have hM2 := hide' ((hM.out.below B1 (Nat.le_refl _)).below B2 (Nat.le_refl _))
        have hB2 := hide' ((hB.out.trans (B1.mono hB.out.size)).trans (B2.mono (hB.out.trans (B1.mono hB.out.size)).size))
        have cn : Hid (∀ j u, [Value.slice ou (linC L c).2.length cu][j]? = some u → (W1.alloc (.cells #[.slice ou (linC L c).2.length cu] 22)).cell? ((⟨W1.heap.size, 0, none⟩ : Addr).add j) = some u) := World.news_of_block (cs := #[.slice ou (linC L c).2.length cu]) (heap_alloc_new _ _)
        rw [hW1] at hM2 hB2 cn
        clear hM hB hW1 B1 B2
        generalize linC L c = pr at *
        obtain ⟨outs, one⟩ := pr
        have hPe := hide' hP.out
        generalize hql : one.length = q at *
        go_wp2_with (at_builtin; refine wpList_append_own _ rfl _ _ 29 rfl w.heap.size 22 i1 (.slice none 0 0) 1 24 Try.underlying29 hj hy0 hy1 hy2 rfl (by decide) u3 P.length (P.map Prod.snd) rfl hM2.out.ln.row ⟨wr.heap.size, 0, none⟩ 1 1 [.slice ou q cu] rfl rfl cn.out hon.out (by unfold maxLen; omega) (by omega) (Nat.le_trans hM2.out.lo hM2.out.hi) ?_; intro v4 w4 hown4 hgrow4 _; have HO := hide' (push_end hM2.out hB2.out hown4 hgrow4); clear hown4 hgrow4)
        exact ⟨⟨c + 1, w4.heap.size, P ++ [(one, .slice ou q cu)], none, 0, by omega, by go_num, by rw [hN.out]; rfl, by show _ = _; rw [hN.out, List.map_append, hPe.out]; rfl, by rw [hN.out]; exact HO.out.1, HO.out.2⟩, by simp [intOf]; omega⟩
      · have hN : Hid (linC L (c + 1) = ((linC L c).1, (linC L c).2 ++ [t])) := linC_more ht hk
        have e4 : (t.kind == 4) = false := by simpa using hk
        have e5 : (t.kind != 4) = true := by simpa using hk
        have htc : Hid (tcells t = [.int .i64 t.kind, .string (bs t.text), .int .i64 t.num, .int .i64 t.line, .int .i64 t.col]) := rfl
        have hon := hide' (tcells_one t)
        have hfin : Hid (∀ C' (W w4 : World) (v4 : Value) , LnM w.heap.size C' W u3 P (.slice ou (linC L c).2.length cu) (linC L c).2 → Below w.heap.size w W → w4.ownsRow C' 35 5 v4 ((linC L c).2.length + 1) (cellsT (linC L c).2 ++ tcells t) → W.grownBy w4 (Value.slice ou (linC L c).2.length cu).ownBlock → ∃ o4 k4, v4 = .slice o4 (linC L (c + 1)).2.length k4 ∧ LnM w.heap.size C' w4 u3 P (.slice o4 (linC L (c + 1)).2.length k4) (linC L (c + 1)).2 ∧ P.map Prod.fst = (linC L (c + 1)).1 ∧ Below w.heap.size w w4) := fun C' W w4 v4 h1 h2 h3 h4 => by
          obtain ⟨o4, k4, rfl⟩ := own_shapeT h3
          have h5 := add_end h1 h2 h3 h4
          rw [hN.out]
          rw [show ((linC L c).2 ++ [t]).length = (linC L c).2.length + 1 by simp]
          exact ⟨o4, k4, rfl, h5.1, hP.out, h5.2⟩
        rw [htc.out] at hfin hon
        clear hat H' k0 k1 k2 k3 k4 K ht hlen hk hN htc hP
        generalize t.kind = kd at *
        generalize bs t.text = sx at *
        generalize t.num = nm at *
        generalize t.line = li at *
        generalize t.col = co at *
        obtain ⟨W1, hW1⟩ : ∃ W1, W1 = wr := ⟨_, rfl⟩
        have B1 : Below wr.heap.size wr W1 := by rw [hW1]; exact Below.refl _ _
        have B2 : Below W1.heap.size W1 (W1.alloc (.cells #[.int .i64 kd, .string sx, .int .i64 nm, .int .i64 li, .int .i64 co] 35)) := (Below.refl _ _).alloc (Nat.le_refl _) _
        have hM2 := hide' ((hM.out.below B1 (Nat.le_refl _)).below B2 (Nat.le_refl _))
        have hB2 := hide' ((hB.out.trans (B1.mono hB.out.size)).trans (B2.mono (hB.out.trans (B1.mono hB.out.size)).size))
        have cn : Hid (∀ j u, [Value.int .i64 kd, .string sx, .int .i64 nm, .int .i64 li, .int .i64 co][j]? = some u → (W1.alloc (.cells #[.int .i64 kd, .string sx, .int .i64 nm, .int .i64 li, .int .i64 co] 35)).cell? ((⟨W1.heap.size, 0, none⟩ : Addr).add j) = some u) := World.news_of_block (cs := #[.int .i64 kd, .string sx, .int .i64 nm, .int .i64 li, .int .i64 co]) (heap_alloc_new _ _)
        rw [hW1] at hM2 hB2 cn
        clear hM hB hW1 B1 B2
        generalize linC L c = pr at *
        obtain ⟨outs, one⟩ := pr
        generalize hql : one.length = q at *
        go_wp2_with (at_builtin; refine wpList_append_own _ rfl _ _ 22 rfl C 35 i0 (.agg #[.int .i64 0, .string ⟨#[]⟩, .int .i64 0, .int .i64 0, .int .i64 0]) 5 48 Try.underlying22 hi hz0 hz1 hz2 rfl (by decide) (.slice ou q cu) q (cellsT one) rfl (by have := hM2.out.one; rwa [hql] at this) ⟨wr.heap.size, 0, none⟩ 1 1 [Value.int .i64 kd, .string sx, .int .i64 nm, .int .i64 li, .int .i64 co] rfl rfl cn.out hon.out (by unfold maxLen; omega) (by omega) hM2.out.hi ?_; intro v4 w4 hown4 hgrow4 _; obtain ⟨o4, k4, e4v, hO1, hO2, hO3⟩ := hfin.out C _ w4 v4 hM2.out hB2.out hown4 hgrow4; have HO1 := hide' hO1; have HO2 := hide' hO2; have HO3 := hide' hO3; clear hown4 hgrow4 hO1 hO2 hO3; subst e4v)
        exact ⟨⟨c + 1, C, P, o4, k4, by omega, by go_num, rfl, HO2, HO1, HO3⟩, by simp [intOf]; omega⟩
    · obtain rfl : c = L.length := by omega
      clear hat H'
      by_cases h0 : (linC L L.length).2.length = 0
      · have hE : Hid (LnR w.heap.size wr u3 (linT L)) := ⟨P, by unfold linT; rw [if_pos h0]; exact hP.out, hM.out.ln⟩
        have h0' : ¬ (0 : Int) < (((linC L L.length).2.length : Nat) : Int) := by omega
        clear hP hM hlen
        generalize (linC L L.length).2.length = q at *
        go_wp2
        go_ret
        exact ⟨_, rfl, hE.out, hB⟩
      · have h0' : (0 : Int) < (((linC L L.length).2.length : Nat) : Int) := by omega
        have hE : Hid (∀ (v4 : Value) (w4 : World), LnS w.heap.size w4 v4 (P ++ [((linC L L.length).2, .slice ou (linC L L.length).2.length cu)]) → LnR w.heap.size w4 v4 (linT L)) := fun v4 w4 h => ⟨_, by unfold linT; rw [if_neg h0, List.map_append, hP.out]; rfl, h⟩
        have hon : Hid (∀ u ∈ [Value.slice ou (linC L L.length).2.length cu], u.oneCell' = true) := fun u hu => by rw [List.mem_singleton] at hu; subst hu; rfl
        have B2 : Below wr.heap.size wr (wr.alloc (.cells #[.slice ou (linC L L.length).2.length cu] 22)) := (Below.refl _ _).alloc (Nat.le_refl _) _
        have hM2 := hide' (hM.out.below B2 (Nat.le_refl _))
        have hB2 := hide' (hB.out.trans (B2.mono hB.out.size))
        have cn : Hid (∀ j u, [Value.slice ou (linC L L.length).2.length cu][j]? = some u → (wr.alloc (.cells #[.slice ou (linC L L.length).2.length cu] 22)).cell? ((⟨wr.heap.size, 0, none⟩ : Addr).add j) = some u) := World.news_of_block (cs := #[.slice ou (linC L L.length).2.length cu]) (heap_alloc_new _ _)
        clear hM hB B2 hP hlen h0
        generalize linC L L.length = pr at *
        obtain ⟨outs, one⟩ := pr
        generalize hql : one.length = q at *
        go_wp2_with (at_builtin; refine wpList_append_own _ rfl _ _ 29 rfl w.heap.size 22 i1 (.slice none 0 0) 1 24 Try.underlying29 hj hy0 hy1 hy2 rfl (by decide) u3 P.length (P.map Prod.snd) rfl hM2.out.ln.row ⟨wr.heap.size, 0, none⟩ 1 1 [.slice ou q cu] rfl rfl cn.out hon.out (by unfold maxLen; omega) (by omega) (Nat.le_trans hM2.out.lo hM2.out.hi) ?_; intro v4 w4 hown4 hgrow4 _; have HO := hide' (push_end hM2.out hB2.out hown4 hgrow4); clear hown4 hgrow4)
        go_ret
        exact ⟨_, rfl, hE.out _ _ HO.out.1.ln, HO.out.2⟩
end Go.Proofs.Ytghodeggobgclaa
