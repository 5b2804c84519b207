/- Rules hang on the pattern: plain. -/
import Derived.Test.YtlijlelejobchaaGreatDoorJ02
import Derived.Test.YtlijlelejobchaaGreatDoorJ13
import Derived.Maps.OwnSet
import Derived.Maps.AppendAt
namespace Go.Proofs.YtlijlelejobchaaGreatDoor
open Go.RowKit Go.Maps
/-- The labels that were met, each once, in their order. -/
def distG (L l : List Int) : List Int := l.foldl (fun L z => if z ∈ L then L else L ++ [z]) L
/-- The pattern of labels, where those of L were met. -/
def patG : List Int → List Int → List Nat
  | _, [] => []
  | L, z :: r => L.idxOf z :: patG (if z ∈ L then L else L ++ [z]) r
def pat (l : List Int) : List Nat := patG [] l
theorem patG_snoc (L l : List Int) (z : Int) : patG L (l ++ [z]) = patG L l ++ [(distG L l).idxOf z] := by
  induction l generalizing L with
  | nil => rfl
  | cons x l ih => rw [List.cons_append, patG, patG, ih]; rfl
theorem distG_snoc (L l : List Int) (z : Int) : distG L (l ++ [z]) = if z ∈ distG L l then distG L l else distG L l ++ [z] := by
  unfold distG
  rw [List.foldl_append]; rfl
theorem patG_len (L l : List Int) : (patG L l).length = l.length := by
  induction l generalizing L with
  | nil => rfl
  | cons x l ih => rw [patG, List.length_cons, List.length_cons, ih]
theorem distG_len (L l : List Int) : (distG L l).length ≤ L.length + l.length := by
  induction l generalizing L with
  | nil => exact Nat.le_refl _
  | cons x l ih =>
    have := ih (if x ∈ L then L else L ++ [x])
    rw [List.length_cons]
    refine Nat.le_trans this ?_
    split <;> simp <;> omega
theorem leg_pat (L l : List Int) : Leg L.length (patG L l) := by
  induction l generalizing L with
  | nil => trivial
  | cons x l ih =>
    refine ⟨List.idxOf_le_length, ?_⟩
    have h := ih (if x ∈ L then L else L ++ [x])
    by_cases hx : x ∈ L
    · rw [if_pos hx] at h ⊢
      rwa [Nat.max_eq_left (List.idxOf_lt_length_of_mem hx)]
    · rw [if_neg hx] at h ⊢
      rw [List.idxOf_eq_length hx, Nat.max_eq_right (Nat.le_succ _)]
      simpa using h
/-- A map that has just the labels of L, each with its place. -/
def HoldsL (D : DataW Unit) (L : List Int) : Prop := Tidy D ∧ Maps.size D = L.length ∧ ∀ z : Int, Maps.has D (.int .i64 z) = decide (z ∈ L) ∧ (z ∈ L → D.atKey (.int .i64 z) (.lit (.int .i64 0)) = .lit (.int .i64 ((L.idxOf z : Nat) : Int)))
theorem HoldsL.nil : HoldsL (.map []) [] := ⟨tidy_empty, rfl, fun z => ⟨by simp [Maps.has], fun h => by cases h⟩⟩
theorem HoldsL.put {D : DataW Unit} {L : List Int} {z : Int} (h : HoldsL D L) (hz : z ∉ L) (hk : WideAt.IsKeyLit (.int .i64 z)) : HoldsL (D.put (.int .i64 z) (.lit (.int .i64 (L.length : Int)))) (L ++ [z]) := by
  obtain ⟨h1, h2, h3⟩ := h
  have hh : Maps.has D (.int .i64 z) = false := by rw [(h3 z).1]; simpa using hz
  refine ⟨h1.put hk _, by rw [size_put h1, hh, h2]; simp, fun y => ?_⟩
  by_cases e : y = z
  · subst e
    refine ⟨by rw [has_put_same h1.isMap hk]; simp, fun _ => ?_⟩
    rw [atKey_put_same h1.isMap hk, List.idxOf_append, if_neg hz]
    simp
  · have hne : (Lit.int .i64 y) ≠ .int .i64 z := fun h => e (by cases h; rfl)
    refine ⟨by rw [has_put_other hne, (h3 y).1]; simp [e], fun hy => ?_⟩
    rcases List.mem_append.1 hy with hy | hy
    · rw [atKey_put_other hne, (h3 y).2 hy, List.idxOf_append, if_pos hy]
    · exact absurd (List.mem_singleton.1 hy) e
theorem lawI : Keyed Tryz.prog 3 := int_keyed Tryz.underlying3
theorem zeroI (w : World) : (zeroValue 3).run Tryz.prog w = .ok (.int .i64 0) w := by kernel_rfl
set_option maxRecDepth 100000 in
set_option maxHeartbeats 2000000 in
theorem ofP (l : List Int) (v : Value) (w : World) (hr : RowI w v l) (hn : l.length ≤ 25) (hwf : ∀ z ∈ l, (Lit.int .i64 z).wf = true) :
    Calls Tryz.prog 35 #[v] w fun e w' => ∃ g, e = .returned (.tuple #[.slice (some ⟨g, 0, none⟩) l.length l.length, .int .i64 0]) ∧ w'.ownsRow w.heap.size 3 1 (.slice (some ⟨g, 0, none⟩) l.length l.length) l.length (cellsI (ints (pat l))) ∧ Below w.heap.size w w' := by
  obtain ⟨oa, cap, rfl, hcap, hc⟩ := hr
  obtain ⟨i0, hi, hz0, hz1, hz2⟩ := info_parts info3
  have hmm := @run_makeMap Tryz.prog
  have hc' := hide' hc
  have hwf' := hide' hwf
  clear hc hwf
  have KF : Hid (∀ W, Calls Tryz.prog 67 #[.int .i64 l.length] W fun e w' => e = .returned (.bool true) ∧ w' = W) := fun W => by
    have := fits l.length W
    rwa [show (decide ((0 : Int) ≤ (l.length : Int)) && decide ((l.length : Int) ≤ 25)) = true by simp; omega] at this
  go_enter Tryz.func35, Tryz.ntmps35
  go_wp2_with (first | (go_at_call 67; refine (KF.out _).mono ?_; rintro e w1 ⟨rfl, rfl⟩) | (at_make; refine wpList_make_full _ rfl _ _ 23 rfl w1.heap.size 3 i0 (.int .i64 0) 1 Tryz.underlying23 hi hz0 hz1 .i64 .i64 _ _ l.length rfl rfl rfl rfl (by rw [hz2]; omega) (by unfold maxLen; omega) (by simp) ?_; intro w2 hrow hgrow))
  have hr0 : w2.ownsRow w1.heap.size 3 1 (.slice (some ⟨w1.heap.size + 1, 0, none⟩) l.length l.length) l.length (cellsI (ints (pat (l.take 0))) ++ List.replicate (l.length - 0) (.int .i64 0)) := by
    have h := hrow
    rw [show (Value.int .i64 0).cells = #[.int .i64 0] from rfl, toList_madeCells_one, Nat.mul_one, World.size_alloc] at h
    simpa [pat, patG, cellsI, ints] using h
  have hm0 : w2.ownsMap Tryz.prog 3 (plainElem Tryz.prog 3) w1.heap.size 0 (.map [] : DataW Unit) := (World.ownsMap_made w1 _ _ _).kept hgrow (by simp)
  have hB0 : Below w1.heap.size w1 w2 := ((Below.refl _ w1).alloc (Nat.le_refl _) _).grown hgrow (by simp) (fun j ej => by cases ej)
  clear hrow hgrow
  go_loopw [20] (fun k wr => ∃ (c : Nat) (D : DataW Unit), c ≤ l.length ∧ k = .int .i64 c ∧ Hid (HoldsL D (distG [] (l.take c))) ∧ wr.ownsMap Tryz.prog 3 (plainElem Tryz.prog 3) w1.heap.size c D ∧ wr.ownsRow w1.heap.size 3 1 (.slice (some ⟨w1.heap.size + 1, 0, none⟩) l.length l.length) l.length (cellsI (ints (pat (l.take c))) ++ List.replicate (l.length - c) (.int .i64 0)) ∧ Below w1.heap.size w1 wr) (fun k _ => ((l.length : Int) - intOf k).toNat)
  case atStart => exact ⟨0, _, Nat.zero_le _, rfl, HoldsL.nil, hm0, hr0, hB0⟩
  case round =>
    clear hm0 hr0 hB0
    obtain ⟨c, D, hc, rfl, hH, hown, hrow, hB⟩ := hrel
    by_cases hlt : c < l.length
    · obtain ⟨x, hx⟩ : ∃ x, l[c]? = some x := ⟨_, List.getElem?_eq_getElem hlt⟩
      obtain ⟨g, o, rfl, cx0⟩ := hc'.out c x hx
      have cx := (hB.cell (p := ⟨g, o + c, none⟩) (cell_lt cx0)).trans cx0
      have hwx := hwf'.out x (List.mem_of_getElem? hx)
      have hkey : keyOf Tryz.prog 3 (.int .i64 x) = some (.int .i64 x) := keyOf_int_mk Tryz.underlying3 hwx
      have htk : l.take (c + 1) = l.take c ++ [x] := by rw [List.take_add_one, hx]; rfl
      have hpl : (cellsI (ints (pat (l.take c)))).length = c := by simp [cellsI, ints, pat, patG_len]; omega
      have hL := distG_len [] (l.take c)
      rw [List.length_nil, Nat.zero_add, List.length_take] at hL
      have hP : Hid (cellsI (ints (pat (l.take (c + 1)))) = cellsI (ints (pat (l.take c))) ++ [.int .i64 (((distG [] (l.take c)).idxOf x : Nat) : Int)]) := by
        show _ = _
        rw [htk, show pat (l.take c ++ [x]) = _ from patG_snoc [] (l.take c) x, cellsI_snoc]; rfl
      have hS := fun u => set_mid (cellsI (ints (pat (l.take c)))) c l.length u (.int .i64 0) hpl hlt
      have cz : wr.cell? ⟨w1.heap.size + 1, c, none⟩ = some (.int .i64 0) := by
        rw [hrow.cellAt c (by omega), List.getElem?_append_right (by omega), hpl, Nat.sub_self, List.getElem?_replicate, if_pos (by omega)]
      have fz := hrow.frozenAt c
      obtain ⟨h1, h2, h3⟩ := hH.out
      by_cases hin : x ∈ distG [] (l.take c)
      · have hh : Maps.has D (.int .i64 x) = true := by rw [(h3 x).1]; simpa using hin
        have hN : Hid (distG [] (l.take (c + 1)) = distG [] (l.take c)) := by show _ = _; rw [htk, distG_snoc, if_pos hin]
        have hv := (h3 x).2 hin
        clear cx0 hx htk hL hpl
        go_wp2_with (at_lookup; refine wpList_lookup_own_ok_int _ rfl _ _ 105 rfl 3 3 .i64 lawI Tryz.underlying105 Tryz.underlying3 (zeroI _) w1.heap.size c D rfl hown _ _ rfl hkey ?_; intro cc hat hwc)
        have e1 : cc = (((distG [] (l.take c)).idxOf x : Nat) : Int) := by
          have := hv.symm.trans hat
          simpa using this.symm
        refine ⟨⟨c + 1, D, by omega, by go_num, by rw [hN.out]; exact hH, (hown.setCell (by show w1.heap.size ≠ w1.heap.size + 1; omega) _).mono (Nat.le_succ _), ?_, hB.setCell (by show w1.heap.size ≤ w1.heap.size + 1; omega) _⟩, by simp [intOf]; omega⟩
        have h4 := (hrow.stored c (.int .i64 cc)).1
        rw [hS] at h4
        rw [hP.out, ← e1]; exact h4
      · have hh : Maps.has D (.int .i64 x) = false := by rw [(h3 x).1]; simpa using hin
        have hN : Hid (distG [] (l.take (c + 1)) = distG [] (l.take c) ++ [x]) := by show _ = _; rw [htk, distG_snoc, if_neg hin]
        have hiL : Hid ((distG [] (l.take c)).idxOf x = (distG [] (l.take c)).length) := List.idxOf_eq_length hin
        have hIK : WideAt.IsKeyLit (.int .i64 x) := by trivial
        have hHp := hide' (hH.out.put hin hIK)
        clear cx0 hx htk hpl h3
        generalize hm : (distG [] (l.take c)).length = m at *
        go_wp2_with (first | (at_lookup; refine wpList_lookup_own_ok_int _ rfl _ _ 105 rfl 3 3 .i64 lawI Tryz.underlying105 Tryz.underlying3 (zeroI _) w1.heap.size c D rfl hown _ _ rfl hkey ?_; intro cc hat hwc) | (at_len; refine wpList_len_own _ rfl _ 105 rfl 3 3 Tryz.underlying105 _ w1.heap.size c D rfl hown ?_; rw [h2]) | (at_mapUpdate; refine wpList_mapUpdate_own _ rfl _ _ _ 105 rfl 3 3 lawI Tryz.underlying105 _ w1.heap.size c D rfl hown (by unfold maxLen; omega) _ _ _ rfl rfl hkey (.lit (.int .i64 (m : Int))) [] (plainElem_int Tryz.underlying3 (WalkArith.wf_i64 (by omega))) ?_; intro w3 hown3 hgrow3; have hrow3 := hrow.kept hgrow3 (.inr (by simp [Value.ownBlock])); have cz3 : w3.cell? ⟨w1.heap.size + 1, c, none⟩ = some (.int .i64 0) := (by rw [hrow3.cellAt c (by omega), ← hrow.cellAt c (by omega)]; exact cz); have fz3 := hrow3.frozenAt c))
        refine ⟨⟨c + 1, _, by omega, by go_num, by rw [hN.out]; exact hHp, hown3.setCell (by show w1.heap.size ≠ w1.heap.size + 1; omega) _, ?_, (hB.grown hgrow3 hB.size (fun j ej => by cases ej; exact Nat.le_refl _)).setCell (by show w1.heap.size ≤ w1.heap.size + 1; omega) _⟩, by simp [intOf]; omega⟩
        have h4 := (hrow3.stored c (.int .i64 m)).1
        rw [hS] at h4
        rw [hP.out, hiL.out]; exact h4
    · obtain rfl : c = l.length := by omega
      rw [List.take_length, Nat.sub_self, List.replicate_zero, List.append_nil] at hrow
      clear hH hown
      go_wp2
      exact bodyPost_ret (v := .tuple #[.slice (some ⟨w1.heap.size + 1, 0, none⟩) l.length l.length, .int .i64 0]) (by simp [results, Tryz.results35, go_sem]) rfl ⟨_, rfl, hrow, hB⟩
end Go.Proofs.YtlijlelejobchaaGreatDoor
namespace Go.Proofs.YtlijlelejobchaaGreatDoor
open Go.RowKit
theorem distG_app (L l : List Int) : ∃ s, distG L l = L ++ s := by
  induction l generalizing L with
  | nil => exact ⟨[], by simp [distG]⟩
  | cons z l ih =>
    obtain ⟨s, hs⟩ := ih (if z ∈ L then L else L ++ [z])
    by_cases hz : z ∈ L
    · rw [if_pos hz] at hs
      exact ⟨s, by show distG (if z ∈ L then L else L ++ [z]) l = _; rw [if_pos hz]; exact hs⟩
    · rw [if_neg hz] at hs
      exact ⟨z :: s, by show distG (if z ∈ L then L else L ++ [z]) l = _; rw [if_neg hz, hs]; simp⟩
theorem mem_dist (L l : List Int) {z : Int} (h : z ∈ l) : z ∈ distG L l := by
  induction l generalizing L with
  | nil => cases h
  | cons y l ih =>
    rcases List.mem_cons.1 h with rfl | h
    · obtain ⟨s, hs⟩ := distG_app (if z ∈ L then L else L ++ [z]) l
      show z ∈ distG (if z ∈ L then L else L ++ [z]) l
      rw [hs]
      by_cases hz : z ∈ L <;> simp [hz]
    · exact ih _ h
theorem pat_map (L l : List Int) : patG L l = l.map fun z => (distG L l).idxOf z := by
  induction l generalizing L with
  | nil => rfl
  | cons z l ih =>
    rw [patG, ih, List.map_cons]
    show _ = (distG (if z ∈ L then L else L ++ [z]) l).idxOf z :: _
    congr 1
    obtain ⟨s, hs⟩ := distG_app (if z ∈ L then L else L ++ [z]) l
    rw [hs]
    by_cases hz : z ∈ L
    · rw [if_pos hz, List.idxOf_append, if_pos hz]
    · rw [if_neg hz, List.idxOf_append, if_pos (by simp), List.idxOf_append, if_neg hz, List.idxOf_eq_length hz]
      simp
/-- Two places of a pattern are in one block just if their labels are the same. -/
theorem pat_ker {l : List Int} {i j : Nat} {y z : Int} (hi : l[i]? = some y) (hj : l[j]? = some z) : (pat l)[i]? = (pat l)[j]? ↔ y = z := by
  unfold pat
  rw [pat_map, List.getElem?_map, List.getElem?_map, hi, hj]
  constructor
  · intro h
    have h : (distG [] l).idxOf y = (distG [] l).idxOf z := by simpa using h
    have hy := mem_dist [] l (List.mem_of_getElem? hi)
    have hz := mem_dist [] l (List.mem_of_getElem? hj)
    have e1 : (distG [] l)[(distG [] l).idxOf y]? = some y := by rw [List.getElem?_eq_getElem (List.idxOf_lt_length_of_mem hy), List.getElem_idxOf]
    have e2 : (distG [] l)[(distG [] l).idxOf z]? = some z := by rw [List.getElem?_eq_getElem (List.idxOf_lt_length_of_mem hz), List.getElem_idxOf]
    rw [h, e2] at e1
    exact (Option.some.inj e1).symm
  · rintro rfl; rfl
/-- In a pattern every block that is there has a place. -/
theorem occurs {b : Nat} {p : List Nat} (h : Leg b p) {x : Nat} (hb : b ≤ x) (hx : x < blks b p) : x ∈ p := by
  induction p generalizing b with
  | nil => simp [blks] at hx; omega
  | cons y p ih =>
    by_cases e : x = y
    · subst e; simp
    · refine List.mem_cons_of_mem _ (ih h.2 ?_ hx)
      have := h.1
      omega
/-- Patterns of one length that part the places alike are one. -/
theorem leg_uniq {a c : List Nat} (ha : Leg 0 a) (hc : Leg 0 c) (hl : a.length = c.length) (hk : ∀ i j, i < a.length → j < a.length → (a[i]? = a[j]? ↔ c[i]? = c[j]?)) : a = c := by
  have key : ∀ n, n ≤ a.length → a.take n = c.take n := by
    intro n
    induction n with
    | zero => intro _; rfl
    | succ n ih =>
      intro hn
      have ih := ih (by omega)
      obtain ⟨x, hx⟩ : ∃ x, a[n]? = some x := ⟨_, List.getElem?_eq_getElem (by omega)⟩
      obtain ⟨y, hy⟩ : ∃ y, c[n]? = some y := ⟨_, List.getElem?_eq_getElem (by omega)⟩
      have lx := leg_at ha hx
      have ly := leg_at hc hy
      rw [take_snoc hx, take_snoc hy, ih]
      have hla : Leg 0 (a.take n) := (Leg.app (p := a.take n) (t := a.drop n)).1 (by rw [List.take_append_drop]; exact ha) |>.1
      have seen : ∀ z, z < blks 0 (a.take n) → ∃ i, i < n ∧ a[i]? = some z ∧ c[i]? = some z := fun z hz => by
        obtain ⟨i, hi⟩ := List.getElem?_of_mem (occurs hla (Nat.zero_le _) hz)
        have hin : i < n := by have := (List.getElem?_eq_some_iff.1 hi).1; rw [List.length_take] at this; omega
        have h1 : a[i]? = some z := by rwa [List.getElem?_take_of_lt hin] at hi
        rw [ih, List.getElem?_take_of_lt hin] at hi
        exact ⟨i, hin, h1, hi⟩
      have e : x = y := by
        rcases Nat.lt_or_ge x (blks 0 (a.take n)) with h | h
        · obtain ⟨i, hi, h1, h2⟩ := seen x h
          have := (hk i n (by omega) (by omega)).1 (by rw [h1, hx])
          rw [h2, hy] at this
          exact Option.some.inj this
        · rcases Nat.lt_or_ge y (blks 0 (a.take n)) with h' | h'
          · obtain ⟨i, hi, h1, h2⟩ := seen y h'
            have := (hk i n (by omega) (by omega)).2 (by rw [h2, hy])
            rw [h1, hx] at this
            exact (Option.some.inj this).symm
          · rw [← ih] at ly; omega
      rw [e]
  have := key a.length (Nat.le_refl _)
  rwa [List.take_length, hl, List.take_length] at this
/-- Each block of a is within one of b. -/
def Finr (a b : List Nat) : Prop := ∀ i j, i < a.length → j < a.length → a[i]? = a[j]? → b[i]? = b[j]?
/-- Labels of the places of two rows. -/
def pairs (a b : List Nat) : List Int := List.zipWith (fun x y => ((x * 25 + y : Nat) : Int)) a b
theorem pairs_len {a b : List Nat} (h : a.length = b.length) : (pairs a b).length = a.length := by simp [pairs, h]
theorem pairs_at {a b : List Nat} {i x y : Nat} (hx : a[i]? = some x) (hy : b[i]? = some y) : (pairs a b)[i]? = some ((x * 25 + y : Nat) : Int) := by
  simp [pairs, List.getElem?_zipWith, hx, hy]
theorem leg_small {a : List Nat} (h : Leg 0 a) (hn : a.length ≤ 25) {i x : Nat} (hx : a[i]? = some x) : x < 25 := by
  have h1 := leg_at h hx
  have hla : Leg 0 (a.take i) := (Leg.app (p := a.take i) (t := a.drop i)).1 (by rw [List.take_append_drop]; exact h) |>.1
  have h2 := blks_leg hla
  have h3 := (List.getElem?_eq_some_iff.1 hx).1
  rw [List.length_take] at h2
  omega
/-- Places of the meet: in one block just if they are in one of both. -/
theorem meet_ker {a b : List Nat} (hb : Leg 0 b) (hl : a.length = b.length) (hn : b.length ≤ 25) {i j : Nat} (hi : i < a.length) (hj : j < a.length) :
    (pat (pairs a b))[i]? = (pat (pairs a b))[j]? ↔ (a[i]? = a[j]? ∧ b[i]? = b[j]?) := by
  obtain ⟨x, hx⟩ : ∃ x, a[i]? = some x := ⟨_, List.getElem?_eq_getElem hi⟩
  obtain ⟨x', hx'⟩ : ∃ x, a[j]? = some x := ⟨_, List.getElem?_eq_getElem hj⟩
  obtain ⟨y, hy⟩ : ∃ x, b[i]? = some x := ⟨_, List.getElem?_eq_getElem (by omega)⟩
  obtain ⟨y', hy'⟩ : ∃ x, b[j]? = some x := ⟨_, List.getElem?_eq_getElem (by omega)⟩
  have s1 := leg_small hb hn hy
  have s2 := leg_small hb hn hy'
  rw [pat_ker (pairs_at hx hy) (pairs_at hx' hy'), hx, hx', hy, hy']
  simp only [Option.some.injEq]
  constructor
  · intro h; omega
  · rintro ⟨rfl, rfl⟩; rfl
theorem pat_len (l : List Int) : (pat l).length = l.length := patG_len [] l
theorem leg_pat0 (l : List Int) : Leg 0 (pat l) := leg_pat [] l
theorem finer_iff {a b : List Nat} (ha : Leg 0 a) (hb : Leg 0 b) (hl : a.length = b.length) (hn : b.length ≤ 25) : pat (pairs a b) = a ↔ Finr a b := by
  constructor
  · intro h i j hi hj e
    have := (meet_ker hb hl hn hi hj).1 (by rw [h]; exact e)
    exact this.2
  · intro h
    refine leg_uniq (leg_pat0 _) ha (by rw [pat_len, pairs_len hl]) fun i j hi hj => ?_
    rw [pat_len, pairs_len hl] at hi hj
    rw [meet_ker hb hl hn hi hj]
    exact ⟨fun h => h.1, fun e => ⟨e, h i j hi hj e⟩⟩
end Go.Proofs.YtlijlelejobchaaGreatDoor
namespace Go.Proofs.YtlijlelejobchaaGreatDoor
/-- Does a row of whole numbers go on as a pattern, where b blocks are there? -/
def legB : Nat → List Int → Bool
  | _, [] => true
  | b, z :: r => decide (0 ≤ z) && decide (z ≤ (b : Int)) && legB (max b (z.toNat + 1)) r
theorem legB_ints {b : Nat} {m : List Nat} (h : Leg b m) : legB b (ints m) = true := by
  induction m generalizing b with
  | nil => rfl
  | cons x m ih =>
    have h2 := ih h.2
    show (decide (0 ≤ (x : Int)) && decide ((x : Int) ≤ (b : Int)) && legB (max b ((x : Int).toNat + 1)) (ints m)) = true
    rw [Int.toNat_natCast, h2, decide_eq_true (by omega), decide_eq_true (by have := h.1; omega)]
    rfl
theorem legB_ex {b : Nat} {l : List Int} (h : legB b l = true) : ∃ m, l = ints m ∧ Leg b m := by
  induction l generalizing b with
  | nil => exact ⟨[], rfl, trivial⟩
  | cons z l ih =>
    simp only [legB, Bool.and_eq_true, decide_eq_true_eq] at h
    obtain ⟨m, e, hm⟩ := ih h.2
    refine ⟨z.toNat :: m, ?_, by omega, hm⟩
    rw [e]
    show z :: ints m = ((z.toNat : Nat) : Int) :: ints m
    rw [Int.toNat_of_nonneg h.1.1]
/-- Is it a pattern? -/
def Lg (l : List Int) : Bool := decide (l.length ≤ 25) && legB 0 l
theorem Lg.ex {l : List Int} (h : Lg l = true) : ∃ m, l = ints m ∧ Leg 0 m ∧ m.length ≤ 25 := by
  unfold Lg at h
  rw [Bool.and_eq_true, decide_eq_true_eq] at h
  obtain ⟨m, e, hm⟩ := legB_ex h.2
  refine ⟨m, e, hm, ?_⟩
  rw [e, ints_len] at h
  exact h.1
theorem Lg.ints {m : List Nat} (h : Leg 0 m) (hm : m.length ≤ 25) : Lg (ints m) = true := by
  unfold Lg
  rw [legB_ints h, ints_len, decide_eq_true hm]; rfl
theorem legB_at {b : Nat} {l : List Int} {c : Nat} {z : Int} (hz : l[c]? = some z) : legB b (l.drop c) = (decide (0 ≤ z) && decide (z ≤ (b : Int)) && legB (max b (z.toNat + 1)) (l.drop (c + 1))) := by
  have : l.drop c = z :: l.drop (c + 1) := by
    obtain ⟨h1, h2⟩ := List.getElem?_eq_some_iff.1 hz
    rw [← h2]; exact List.drop_eq_getElem_cons h1
  rw [this]; rfl
theorem snoc_indE {p : List Int → Prop} (h0 : p []) (h1 : ∀ l x, p l → p (l ++ [x])) : ∀ l, p l := by
  intro l
  rw [← List.reverse_reverse l]
  induction l.reverse with
  | nil => exact h0
  | cons a t ih => rw [List.reverse_cons]; exact h1 _ _ ih
def cellsZ (A : Nat → Int) (m : Nat) : List Value := (List.range m).map fun b => .int .i64 (A b)
theorem cellsZ_len (A : Nat → Int) (m : Nat) : (cellsZ A m).length = m := by simp [cellsZ]
theorem cellsZ_at (A : Nat → Int) {m b : Nat} (h : b < m) : (cellsZ A m)[b]? = some (.int .i64 (A b)) := by simp [cellsZ, h]
theorem cellsZ_none (A : Nat → Int) {m b : Nat} (h : ¬ b < m) : (cellsZ A m)[b]? = none := List.getElem?_eq_none (by rw [cellsZ_len]; omega)
theorem cellsZ_set (A : Nat → Int) (m x : Nat) (q : Int) : (cellsZ A m).set x (.int .i64 q) = cellsZ (fun b => if b = x then q else A b) m := by
  refine List.ext_getElem? fun b => ?_
  rw [List.getElem?_set, cellsZ_len]
  by_cases hb : b < m
  · rw [cellsZ_at (fun b => if b = x then q else A b) hb]
    by_cases e : x = b
    · subst e; rw [if_pos rfl, if_pos hb, if_pos rfl]
    · rw [if_neg e, cellsZ_at A hb, if_neg (Ne.symm e)]
  · rw [cellsZ_none (fun b => if b = x then q else A b) hb]
    by_cases e : x = b
    · subst e; rw [if_pos rfl, if_neg hb]
    · rw [if_neg e, cellsZ_none A hb]
theorem cellsZ_zero (m : Nat) : List.replicate m (Value.int .i64 0) = cellsZ (fun _ => 0) m := by
  refine List.ext_getElem? fun b => ?_
  by_cases hb : b < m
  · rw [cellsZ_at _ hb, List.getElem?_replicate, if_pos hb]
  · rw [cellsZ_none _ hb, List.getElem?_replicate, if_neg hb]
/-- How many unlike labels stand ahead of a place. -/
def dN (L : List Int) (i : Nat) : Nat := (distG [] (L.take i)).length
/-- The pattern's number of a place. -/
def pN (L : List Int) (i : Nat) : Nat := (pat L).getD i 0
theorem mem_dist_iff (M l : List Int) (z : Int) : z ∈ distG M l ↔ z ∈ M ∨ z ∈ l := by
  induction l using snoc_indE with
  | h0 => simp [distG]
  | h1 l x ih =>
    rw [distG_snoc]
    by_cases h : x ∈ distG M l
    · rw [if_pos h, ih, List.mem_append, List.mem_singleton]
      constructor
      · rintro (h | h)
        · exact .inl h
        · exact .inr (.inl h)
      · rintro (h1 | h1 | h1)
        · exact .inl h1
        · exact .inr h1
        · subst h1; exact ih.1 h
    · rw [if_neg h, List.mem_append, ih, List.mem_append]
      constructor
      · rintro ((h | h) | h)
        · exact .inl h
        · exact .inr (.inl h)
        · exact .inr (.inr h)
      · rintro (h1 | h1 | h1)
        · exact .inl (.inl h1)
        · exact .inl (.inr h1)
        · exact .inr h1
theorem patG_app (M l r : List Int) : ∃ s, patG M (l ++ r) = patG M l ++ s := by
  induction r using snoc_indE with
  | h0 => exact ⟨[], by simp⟩
  | h1 r x ih =>
    obtain ⟨s, hs⟩ := ih
    rw [← List.append_assoc, patG_snoc, hs]
    exact ⟨s ++ [(distG M (l ++ r)).idxOf x], by rw [List.append_assoc]⟩
theorem pN_eq {L : List Int} {i : Nat} {t : Int} (h : L[i]? = some t) : pN L i = (distG [] (L.take i)).idxOf t := by
  have hi := (List.getElem?_eq_some_iff.1 h).1
  have hT : L.take (i + 1) = L.take i ++ [t] := by rw [List.take_add_one, h]; rfl
  obtain ⟨s, hs⟩ := patG_app [] (L.take (i + 1)) (L.drop (i + 1))
  rw [List.take_append_drop, hT, patG_snoc] at hs
  have hl : (patG [] (L.take i)).length = i := by rw [patG_len, List.length_take]; omega
  unfold pN pat
  rw [hs, List.getD_eq_getElem?_getD, List.append_assoc, List.getElem?_append_right (by omega), hl, Nat.sub_self]
  rfl
theorem dN_succ {L : List Int} {i : Nat} {t : Int} (h : L[i]? = some t) : dN L (i + 1) = if t ∈ distG [] (L.take i) then dN L i else dN L i + 1 := by
  unfold dN
  rw [List.take_add_one, h, show (some t).toList = [t] from rfl, distG_snoc]
  split
  · rfl
  · rw [List.length_append]; rfl
theorem seen_iff {L : List Int} {i : Nat} {t : Int} : t ∈ distG [] (L.take i) ↔ ∃ k, k < i ∧ L[k]? = some t := by
  rw [mem_dist_iff]
  constructor
  · rintro (h | h)
    · cases h
    · obtain ⟨k, hk⟩ := List.getElem?_of_mem h
      rw [List.getElem?_take] at hk
      by_cases hki : k < i
      · rw [if_pos hki] at hk; exact ⟨k, hki, hk⟩
      · rw [if_neg hki] at hk; cases hk
  · rintro ⟨k, hk, h⟩
    exact .inr (List.mem_of_getElem? (i := k) (by rw [List.getElem?_take, if_pos hk, h]))
theorem idx_none {D : List Int} {x : Int} (h : x ∉ D) : D.idxOf x = D.length := by
  induction D with
  | nil => rfl
  | cons a l ih =>
    rw [List.mem_cons] at h
    have ha : ¬ a = x := fun e => h (.inl e.symm)
    rw [List.idxOf_cons, show (a == x) = false by simpa using ha]
    simp [ih fun hx => h (.inr hx)]
theorem dN_le (L : List Int) (i : Nat) : dN L i ≤ i := by
  unfold dN
  have := distG_len [] (L.take i)
  rw [List.length_take] at this
  simp at this
  omega
theorem new_place {L : List Int} {i : Nat} {t : Int} (h : L[i]? = some t) (hn : ∀ k, k < i → L[k]? ≠ some t) : pN L i = dN L i ∧ dN L (i + 1) = dN L i + 1 := by
  have hm : t ∉ distG [] (L.take i) := fun hm => by
    obtain ⟨k, hk, e⟩ := seen_iff.1 hm
    exact hn k hk e
  rw [pN_eq h, idx_none hm, dN_succ h, if_neg hm]
  exact ⟨rfl, rfl⟩
theorem old_place {L : List Int} {i k : Nat} {t : Int} (h : L[i]? = some t) (hk : k < i) (hkt : L[k]? = some t) : pN L k = pN L i ∧ dN L (i + 1) = dN L i := by
  have hm : t ∈ distG [] (L.take i) := seen_iff.2 ⟨k, hk, hkt⟩
  rw [dN_succ h, if_pos hm]
  refine ⟨?_, rfl⟩
  have := (pat_ker hkt h).2 rfl
  unfold pN
  rw [List.getD_eq_getElem?_getD, List.getD_eq_getElem?_getD, this]
/-- What stands at the place i behind k rounds. -/
def xN (L : List Int) (i : Nat) : Nat → Int
  | 0 => -1
  | k + 1 => if L[k]? = L[i]? then (pN L i : Int) else xN L i k
theorem xN_val (L : List Int) (i k : Nat) : (∃ j, j < k ∧ L[j]? = L[i]?) ∧ xN L i k = (pN L i : Int) ∨ (∀ j, j < k → L[j]? ≠ L[i]?) ∧ xN L i k = -1 := by
  induction k with
  | zero => right; exact ⟨fun j hj => by omega, rfl⟩
  | succ k ih =>
    rw [xN]
    by_cases h : L[k]? = L[i]?
    · rw [if_pos h]; left; exact ⟨⟨k, by omega, h⟩, rfl⟩
    · rw [if_neg h]
      rcases ih with ⟨⟨j, hj, e⟩, h2⟩ | ⟨h1, h2⟩
      · left; exact ⟨⟨j, by omega, e⟩, h2⟩
      · right
        refine ⟨fun j hj => ?_, h2⟩
        by_cases e : j = k
        · subst e; exact h
        · exact h1 j (by omega)
def outR (L : List Int) (i a : Nat) : Int := if a < i then (pN L a : Int) else 0
def inR (L : List Int) (i : Nat) (x : Int) (a : Nat) : Int := if a = i then x else outR L i a
theorem inR_set (L : List Int) (i : Nat) (x y : Int) : (fun b => if b = i then y else inR L i x b) = inR L i y := by
  funext b
  unfold inR
  by_cases e : b = i
  · rw [if_pos e, if_pos e]
  · rw [if_neg e, if_neg e, if_neg e]
theorem inR_first (L : List Int) (i : Nat) (y : Int) : (fun b => if b = i then y else outR L i b) = inR L i y := rfl
theorem inR_last (L : List Int) (i : Nat) : inR L i (pN L i) = outR L (i + 1) := by
  funext b
  unfold inR outR
  by_cases e : b = i
  · subst e; rw [if_pos rfl, if_pos (by omega)]
  · rw [if_neg e]
    by_cases h : b < i
    · rw [if_pos h, if_pos (by omega)]
    · rw [if_neg h, if_neg (by omega)]
theorem outR_all {L : List Int} {n : Nat} (hn : L.length = n) : cellsZ (outR L n) n = cellsI (ints (pat L)) := by
  refine List.ext_getElem? fun b => ?_
  have hl : (pat L).length = n := by rw [pat_len, hn]
  by_cases hb : b < n
  · rw [cellsZ_at _ hb]
    have e : (pat L)[b]? = some (pN L b) := by
      unfold pN
      rw [List.getD_eq_getElem?_getD, List.getElem?_eq_getElem (by omega)]; rfl
    unfold cellsI
    rw [List.getElem?_map, ints_at e, outR, if_pos hb]; rfl
  · rw [cellsZ_none _ hb]
    symm
    rw [List.getElem?_eq_none_iff]
    unfold cellsI
    rw [List.length_map, ints_len]; omega
end Go.Proofs.YtlijlelejobchaaGreatDoor
namespace Go.Proofs.YtlijlelejobchaaGreatDoor.S
/-- Labels that go one for one into others. -/
theorem unl_map {f : Int → Int} {P : List Int} (hf : ∀ x ∈ P, ∀ y ∈ P, f x = f y → x = y) : unl (P.map f) = unl P := by
  induction P using snoc_ind with
  | h0 => rfl
  | h1 l x ih =>
    have ih' := ih fun a ha b hb => hf a (List.mem_append_left _ ha) b (List.mem_append_left _ hb)
    rw [List.map_append, List.map_singleton, unl_snoc, unl_snoc, ih']
    congr 1
    have hx : x ∈ l ++ [x] := List.mem_append_right _ (List.mem_singleton.2 rfl)
    by_cases h : x ∈ l
    · rw [if_pos h, if_pos (List.mem_map.2 ⟨x, h, rfl⟩)]
    · rw [if_neg h, if_neg]
      intro h2
      obtain ⟨y, hy, e⟩ := List.mem_map.1 h2
      exact h (hf y (List.mem_append_left _ hy) x hx e ▸ hy)
theorem count_map_inj {f : Int → Int} {P : List Int} {x : Int} (hf : ∀ y ∈ P, f y = f x → y = x) : (P.map f).count (f x) = P.count x := by
  induction P with
  | nil => rfl
  | cons a l ih =>
    have ih' := ih fun y hy => hf y (List.mem_cons_of_mem _ hy)
    rw [List.map_cons, List.count_cons, List.count_cons, ih']
    congr 1
    by_cases h : a = x
    · rw [h]; simp
    · have : f a ≠ f x := fun e => h (hf a List.mem_cons_self e)
      simp [h, this]
theorem mst_map {f : Int → Int} {P : List Int} (hf : ∀ x ∈ P, ∀ y ∈ P, f x = f y → x = y) : mst (P.map f) = mst P := by
  induction P using snoc_ind with
  | h0 => rfl
  | h1 l x ih =>
    have ih' := ih fun a ha b hb => hf a (List.mem_append_left _ ha) b (List.mem_append_left _ hb)
    rw [List.map_append, List.map_singleton, mst_snoc, mst_snoc, ih', count_map_inj fun y hy e => hf y (List.mem_append_left _ hy) x (List.mem_append_right _ (List.mem_singleton.2 rfl)) e]
theorem labs_map (f : Int → Int) (B S : List Int) : labs (B.map f) S = (labs B S).map f := by
  unfold labs
  rw [List.map_filterMap]
  congr 1
  funext s
  simp
theorem pat_ints (B : List Int) : ints (pat B) = B.map fun z => (((distG [] B).idxOf z : Nat) : Int) := by
  unfold pat ints
  rw [pat_map, List.map_map]; rfl
theorem idx_get {D : List Int} {x : Int} (h : x ∈ D) : D[D.idxOf x]? = some x := by
  induction D with
  | nil => cases h
  | cons a l ih =>
    by_cases e : a = x
    · subst e; simp
    · have hx : x ∈ l := by
        rcases List.mem_cons.1 h with h | h
        · exact absurd h.symm e
        · exact h
      rw [List.idxOf_cons, show (a == x) = false by simpa using e]
      simpa using ih hx
theorem nodup_at {P : List Int} (h : P.Nodup) {i j : Nat} {x : Int} (hi : P[i]? = some x) (hj : P[j]? = some x) : i = j := by
  obtain ⟨h1, e1⟩ := List.getElem?_eq_some_iff.1 hi
  obtain ⟨h2, e2⟩ := List.getElem?_eq_some_iff.1 hj
  have hp := List.pairwise_iff_getElem.1 h
  rcases Nat.lt_trichotomy i j with hlt | he | hlt
  · exact absurd (e1.trans e2.symm) (hp i j h1 h2 hlt)
  · exact he
  · exact absurd (e2.trans e1.symm) (hp j i h2 h1 hlt)
/-- A rule holds of labels just if it holds of their pattern. -/
theorem holds_pat (r : Rl) (B : List Int) : holds r (ints (pat B)) = holds r B := by
  have hinj : ∀ x ∈ B, ∀ y ∈ B, (((distG [] B).idxOf x : Nat) : Int) = (((distG [] B).idxOf y : Nat) : Int) → x = y := fun x hx y hy e => by
    have h1 := idx_get (mem_dist [] B hx)
    have h2 := idx_get (mem_dist [] B hy)
    rw [show (distG [] B).idxOf x = (distG [] B).idxOf y by omega, h2] at h1
    exact (Option.some.inj h1).symm
  have hl : (ints (pat B)).length = B.length := by rw [ints_len, pat_len]
  have hP : labs (ints (pat B)) r.steps = (labs B r.steps).map fun z => (((distG [] B).idxOf z : Nat) : Int) := by rw [pat_ints, labs_map]
  have hm : ∀ y ∈ labs B r.steps, y ∈ B := fun y hy => by
    unfold labs at hy
    obtain ⟨s, _, hs⟩ := List.mem_filterMap.1 hy
    exact List.mem_of_getElem? hs
  have hi : ∀ x ∈ labs B r.steps, ∀ y ∈ labs B r.steps, (((distG [] B).idxOf x : Nat) : Int) = (((distG [] B).idxOf y : Nat) : Int) → x = y := fun x hx y hy => hinj x (hm x hx) y (hm y hy)
  unfold holds early
  rw [hl, hP, List.length_map]
  congr 1
  unfold means
  rw [mst_map (f := fun z => (((distG [] B).idxOf z : Nat) : Int)) hi, unl_map (f := fun z => (((distG [] B).idxOf z : Nat) : Int)) hi]
theorem broken_none {R : List Rl} {L : List Int} (h : (broken R L).length = 0) : ∀ r ∈ R, holds r L = true := fun r hr => by
  obtain ⟨i, hi⟩ := List.getElem?_of_mem hr
  have hlt := (List.getElem?_eq_some_iff.1 hi).1
  have h0 := List.eq_nil_of_length_eq_zero h
  unfold broken at h0
  rw [List.filter_eq_nil_iff] at h0
  have := h0 i (List.mem_range.2 hlt)
  rw [hi] at this
  simpa using this
end Go.Proofs.YtlijlelejobchaaGreatDoor.S
