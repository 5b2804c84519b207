/- The document's agenda: At, Drop. -/
import Derived.Test.YtmjdecgijnodhaaGRef
namespace Go.Proofs.Ytmjdecgijnodhaa
open Go.RowKit Go.Maps
theorem infoR : (Try.prog.info? 39).map (fun i => (i.zero, i.size, i.bytes)) = some (some (.agg #[.int .i64 0, .int .i64 0]), 2, 16) := by kernel_rfl
theorem RefA.below {w w' : World} {r : Nat} {L : List (Int × Int)} {rowv : Value} (h : RefA w r L rowv) (hb : Below w.heap.size w w') : RefA w' r L rowv :=
  ⟨(hb.block r (Array.getElem?_eq_some_iff.1 h.box).1).trans h.box, owns_same h.row fun g hg _ => hb.block g hg, h.ne, h.small⟩
theorem RefA.fz {w : World} {r : Nat} {L : List (Int × Int)} {rowv : Value} (h : RefA w r L rowv) : w.frozen? ⟨r, 0, none⟩ = false := frozen_of_row w r 0 _ _ h.box
theorem owns_lessG {w : World} {B C : Nat} {e : TypeId} {size : Nat} {v : Value} {n : Nat} {xs : List Value} (h : w.ownsRow B e size v n xs) (hC : C ≤ B) : w.ownsRow C e size v n xs := ⟨h.1, h.2.imp (fun x => x) (fun ⟨g, cap, cur, e1, e2, r⟩ => ⟨g, cap, cur, e1, Nat.le_trans hC e2, r⟩)⟩
/-- What is left of the entries behind Drop. -/
def dropL (L : List (Int × Int)) (id : Int) : List (Int × Int) := L.filter fun x => x.1 != id
theorem dropL_snoc (L : List (Int × Int)) (id : Int) {c : Nat} {x : Int × Int} (hx : L[c]? = some x) : dropL (L.take (c + 1)) id = dropL (L.take c) id ++ (if x.1 = id then [] else [x]) := by
  obtain ⟨hlt, e⟩ := List.getElem?_eq_some_iff.1 hx
  unfold dropL
  rw [List.take_add_one, hx, List.filter_append]
  by_cases h : x.1 = id <;> simp [h]
theorem cellsP_snoc (L : List (Int × Int)) (x : Int × Int) : cellsP L ++ [.int .i64 x.1, .int .i64 x.2] = cellsP (L ++ [x]) := by simp [cellsP]
theorem ids_uniq {L : List (Int × Int)} (h : (L.map (·.1)).Nodup) {i j : Nat} {x y : Int × Int} (hx : L[i]? = some x) (hy : L[j]? = some y) (e : x.1 = y.1) : i = j := by
  have h1 : (L.map (·.1))[i]? = some x.1 := by simp [hx]
  have h2 : (L.map (·.1))[j]? = some x.1 := by simp [hy, e]
  obtain ⟨l1, e1⟩ := List.getElem?_eq_some_iff.1 h1
  obtain ⟨l2, e2⟩ := List.getElem?_eq_some_iff.1 h2
  exact (List.getElem_inj h).1 (e1.trans e2.symm)
set_option maxRecDepth 100000 in
set_option maxHeartbeats 2000000 in
theorem atR (r : Nat) (L : List (Int × Int)) (rowv : Value) (id : Int) (w : World) (H : RefA w r L rowv) : Calls Try.prog 15 #[.pointer (some ⟨r, 0, none⟩), .int .i64 id] w fun e w' => w' = w ∧ ((∃ x, x ∈ L ∧ x.1 = id ∧ e = .returned (.tuple #[.int .i64 x.2, .bool true])) ∨ ((∀ x ∈ L, x.1 ≠ id) ∧ e = .returned (.tuple #[.int .i64 0, .bool false]))) := by
  obtain ⟨oa, cap, rfl⟩ := own_shapeG H.row
  have c0 := H.c0
  have hsm := H.small
  have KF := hide' (findR r L _ id w H)
  have H' := hide' H
  clear H
  go_enter Try.func15, Try.ntmps15
  go_wp2_with fail
  refine KF.out.mono ?_
  rintro e w1 ⟨hw, ⟨k, x, hx, hid, rfl⟩ | ⟨hno, rfl⟩⟩
  · obtain rfl : w = w1 := hw.symm
    obtain ⟨g, rfl, d1, d2⟩ := H'.out.ent hx
    have hk : k < L.length := (List.getElem?_eq_some_iff.1 hx).1
    have hP : Hid (∃ y, y ∈ L ∧ y.1 = id ∧ y.2 = x.2) := ⟨x, List.mem_of_getElem? hx, hid, rfl⟩
    clear hx hid H' KF
    generalize x.2 = xt at *
    generalize x.1 = xi at *
    go_wp2
    obtain ⟨y, h1, h2, rfl⟩ := hP.out
    exact bodyPost_ret (v := .tuple #[.int .i64 y.2, .bool true]) (by simp [results, Try.results15, go_sem]) rfl ⟨rfl, .inl ⟨y, h1, h2, rfl⟩⟩
  · obtain rfl : w = w1 := hw.symm
    have hno' := hide' hno
    clear hno H' KF
    go_wp2
    exact bodyPost_ret (v := .tuple #[.int .i64 0, .bool false]) (by simp [results, Try.results15, go_sem]) rfl ⟨rfl, .inr ⟨hno'.out, rfl⟩⟩
theorem cell_two_new (w : World) (u v : Value) (t : TypeId) : ∀ i z, ([u, v] : List Value)[i]? = some z → (w.alloc (.cells #[u, v] t)).cell? (Addr.add ⟨w.heap.size, 0, none⟩ i) = some z := fun i z hz => by
  have h := heap_newG w (.cells #[u, v] t)
  match i, hz with
  | 0, hz =>
    show (w.alloc (.cells #[u, v] t)).cell? ⟨w.heap.size, 0, none⟩ = some z
    simp only [World.cell?, h]
    simpa using hz
  | 1, hz =>
    show (w.alloc (.cells #[u, v] t)).cell? ⟨w.heap.size, 1, none⟩ = some z
    simp only [World.cell?, h]
    simpa using hz
/-- What Drop leaves. -/
def DropR (r : Nat) (L : List (Int × Int)) (id : Int) (w : World) (e : Ending) (w' : World) : Prop :=
  ((∃ x ∈ L, x.1 = id) → e = .returned (.bool true)) ∧ ((∀ x ∈ L, x.1 ≠ id) → e = .returned (.bool false)) ∧ ∃ rowv', RefA w' r (dropL L id) rowv' ∧ Mv (fun k => k = r) w w' ∧ ∀ k, rowv'.ownBlock = some k → w.heap.size ≤ k
set_option maxRecDepth 100000 in
set_option maxHeartbeats 4000000 in
theorem dropR (r : Nat) (L : List (Int × Int)) (rowv : Value) (id : Int) (hnd : (L.map (·.1)).Nodup) (w : World) (H : RefA w r L rowv) : Calls Try.prog 13 #[.pointer (some ⟨r, 0, none⟩), .int .i64 id] w (DropR r L id w) := by
  obtain ⟨i0, hi, hz0, hz1, hz2⟩ := info_parts infoR
  obtain ⟨oa, cap, rfl⟩ := own_shapeG H.row
  have hrlt : r < w.heap.size := (Array.getElem?_eq_some_iff.1 H.box).1
  have hsm := H.small
  have KF := hide' (findR r L _ id w H)
  have H' := hide' H
  clear H
  have hF : Hid (∀ (kf : Int), ((∃ (k : Nat) (x : Int × Int), L[k]? = some x ∧ x.1 = id ∧ kf = (k : Int)) ∨ ((∀ x ∈ L, x.1 ≠ id) ∧ kf = -1)) → (∀ (c : Nat) x, L[c]? = some x → (x.1 = id ↔ (c : Int) = kf)) ∧ ((∃ x ∈ L, x.1 = id) → 0 ≤ kf) ∧ ((∀ x ∈ L, x.1 ≠ id) → kf < 0)) := by
    rintro kf (⟨k, x, hx, hid, rfl⟩ | ⟨hno, rfl⟩)
    · refine ⟨fun c y hy => ⟨fun e => by rw [ids_uniq hnd hy hx (e.trans hid.symm)], fun e => ?_⟩, fun _ => by omega, fun hno => absurd hid (hno x (List.mem_of_getElem? hx))⟩
      have : c = k := by omega
      subst this
      rw [hx] at hy; cases hy; exact hid
    · refine ⟨fun c y hy => ⟨fun e => absurd e (hno y (List.mem_of_getElem? hy)), fun e => by omega⟩, fun ⟨x, hx, e⟩ => absurd e (hno x hx), fun _ => by omega⟩
  go_enter Try.func13, Try.ntmps13
  go_wp2_with fail
  refine KF.out.mono ?_
  intro e w1 hP
  obtain ⟨kf, he, hkf⟩ : ∃ kf : Int, e = .returned (.int .i64 kf) ∧ ((∃ (k : Nat) (x : Int × Int), L[k]? = some x ∧ x.1 = id ∧ kf = (k : Int)) ∨ ((∀ x ∈ L, x.1 ≠ id) ∧ kf = -1)) := by
    rcases hP.2 with ⟨k, x, h1, h2, h3⟩ | ⟨h1, h2⟩
    · exact ⟨_, h3, .inl ⟨k, x, h1, h2, rfl⟩⟩
    · exact ⟨_, h2, .inr ⟨h1, rfl⟩⟩
  obtain rfl : w = w1 := hP.1.symm
  clear hP
  subst he
  have hG := hide' (hF.out kf hkf)
  clear hF hkf KF
  go_wp2
  go_loopw [6, 7] (fun v k wr => ∃ (c : Nat), k = .int .i64 c ∧ c ≤ L.length ∧ Hid (wr.ownsRow w.heap.size 39 2 v (dropL (L.take c) id).length (cellsP (dropL (L.take c) id))) ∧ Hid (Below w.heap.size w wr)) (fun _ k _ => ((L.length : Int) - intOf k).toNat)
  case atStart => exact ⟨0, rfl, Nat.zero_le _, World.ownsRow_nil _ _ _ _, Below.refl _ _⟩
  case round =>
    obtain ⟨c, rfl, hc, hrow, hB⟩ := hrel
    have HW := hide' (H'.out.below hB.out)
    have c0 := HW.out.c0
    obtain ⟨ov, cv, rfl⟩ := own_shapeG hrow.out
    have hdl : (dropL (L.take c) id).length ≤ 1000000 := by
      have := List.length_filter_le (fun x : Int × Int => x.1 != id) (L.take c)
      have h2 := List.length_take_le c L
      unfold dropL
      omega
    by_cases hlt : c < L.length
    · obtain ⟨x, hx⟩ : ∃ x, L[c]? = some x := ⟨_, List.getElem?_eq_getElem hlt⟩
      have hsn := dropL_snoc L id hx
      have hiff := hG.out.1 c x hx
      by_cases he : x.1 = id
      · have q : ((c : Int) != kf) = false := by simp [hiff.1 he]
        rw [if_pos he, List.append_nil] at hsn
        have hrow2 : Hid (wr.ownsRow w.heap.size 39 2 (.slice ov (dropL (L.take c) id).length cv) (dropL (L.take (c + 1)) id).length (cellsP (dropL (L.take (c + 1)) id))) := by rw [hsn]; exact hrow
        clear hrow hiff hsn he hx HW
        generalize (dropL (L.take c) id).length = m at *
        go_wp2
        exact ⟨⟨c + 1, by go_num, by omega, hrow2, hB⟩, by simp [intOf]; omega⟩
      · have q : ((c : Int) != kf) = true := by simp; exact fun e => he (hiff.2 e)
        rw [if_neg he] at hsn
        obtain ⟨g, rfl, d1, d2⟩ := HW.out.ent hx
        have hcs := hide' (cellsP_snoc (dropL (L.take c) id) x)
        have hsn' := hide' hsn
        have hll : Hid ((dropL (L.take (c + 1)) id).length = (dropL (L.take c) id).length + 1) := by show _ = _; rw [hsn]; simp
        clear hiff hsn he hx HW hG H'
        generalize x.1 = xi at *
        generalize x.2 = xt at *
        have hsz := hB.out.size
        generalize hm : (dropL (L.take c) id).length = m at *
        have hm' := hide' hm
        clear hm
        go_wp2_with (at_builtin; go_loud (refine wpList_append_lies _ rfl _ _ 36 rfl w.heap.size 39 i0 (.agg #[.int .i64 0, .int .i64 0]) 2 16 Try.underlying36 hi hz0 hz1 hz2 rfl (by decide) (.slice ov m cv) m (cellsP (dropL (L.take c) id)) rfl (hrow.out.alloc _) ⟨wr.heap.size, 0, none⟩ 1 1 [.int .i64 xi, .int .i64 xt] rfl rfl (cell_two_new _ _ _ _) (by simp [Value.oneCell']) (by decide) (by unfold maxLen; omega) (by omega) (by simp; omega) _ rfl ?_); intro g4 cap4 w4 hown4 hgrow4 hat4 hlt4)
        have hgw : ∀ k, (Value.slice ov m cv).ownBlock = some k → w.heap.size ≤ k := fun k ek => (hrow.out.lt k ek).1
        have hM4 : Mv (fun k => w.heap.size ≤ k) wr w4 := (Mv.alloc (.cells #[.int .i64 xi, .int .i64 xt] 39)).trans (Mv.grown (F := fun k => w.heap.size ≤ k) hgrow4 hgw (fun k ek => (ne_row hrow.out ek (by decide)).same (Below.heap_alloc _ _ _ (hrow.out.lt k ek).2))) (fun _ _ x => x)
        have hB4 : Below w.heap.size w w4 := hB.out.trans (hM4.toBelow (fun _ x => x) hsz)
        have hown5 : w4.ownsRow w.heap.size 39 2 (.slice (some ⟨g4, 0, none⟩) (m + 1) cap4) (dropL (L.take (c + 1)) id).length (cellsP (dropL (L.take (c + 1)) id)) := by
          rw [hll.out, hsn'.out, ← hcs.out]; exact hown4
        exact ⟨⟨c + 1, by go_num, by omega, hown5, hB4⟩, by simp [intOf]; omega⟩
    · obtain rfl : c = L.length := by omega
      rw [List.take_of_length_le (Nat.le_refl _)] at hrow hdl ⊢
      have hbox := hide' HW.out.box
      have f0 := HW.out.fz
      have hsz := hB.out.size
      have hG' := hide' hG.out.2
      have hdl' := hide' hdl
      clear HW H' hG hnd
      generalize hm : (dropL L id).length = m at *
      have hm' := hide' hm
      clear hm
      have hP : Hid (∃ rowv', RefA (wr.setCell ⟨r, 0, none⟩ (.slice ov m cv)) r (dropL L id) rowv' ∧ Mv (fun k => k = r) w (wr.setCell ⟨r, 0, none⟩ (.slice ov m cv)) ∧ ∀ k, rowv'.ownBlock = some k → w.heap.size ≤ k) := by
        have hfar : ∀ k, (Value.slice ov m cv).ownBlock = some k → w.heap.size ≤ k := fun k ek => (hrow.out.lt k ek).1
        refine ⟨.slice ov m cv, ⟨?_, ?_, fun e => by have := hfar r e; omega, by rw [hm'.out]; exact hdl'.out⟩, (Mv.below hB.out).trans (Mv.setCell (F := fun k => k = r) _ rfl (.inl (ne_other hbox.out (by decide)))) (fun _ _ x => x), hfar⟩
        · have := heap_setCell_same wr r 0 _ _ (.slice ov m cv) hbox.out; simpa using this
        · rw [hm'.out]
          exact owns_lessG (owns_same hrow.out fun g _ eg => Below.heap_setCell _ _ _ _ (fun e => by have h1 := hfar g eg; have h2 : g = r := e; omega)) (Nat.zero_le _)
      go_wp2
      go_ret
      exact ⟨fun h => by have := hG'.out.1 h; simp [this], fun h => by have := hG'.out.2 h; simp; omega, hP.out⟩
end Go.Proofs.Ytmjdecgijnodhaa
