/- The document's Join. -/
import Derived.Test.YtagkopmegfmhaaaERef4
namespace Go.Proofs.Ytagkopmegfmhaaa
open Go.RowKit
/-- Labels on the way to the join. -/
def Jn (a b l : List Nat) : Prop := l.length = a.length ∧ ∀ (i x : Nat), l[i]? = some x → x ≤ i ∧ ∀ C : List Nat, Finr a C → Finr b C → C[i]? = C[x]?
theorem Jn.start (a b : List Nat) : Jn a b (List.range a.length) := ⟨by simp, fun i x h => by
  have hi := (List.getElem?_eq_some_iff.1 h).1
  rw [List.length_range] at hi
  rw [List.getElem?_range hi] at h
  cases h
  exact ⟨Nat.le_refl _, fun C _ _ => rfl⟩⟩
theorem Jn.put {a b l : List Nat} {i k x y : Nat} (hab : a.length = b.length) (h : Jn a b l) (hx : l[i]? = some x) (hy : l[k]? = some y) (hlt : y < x) (he : a[i]? = a[k]? ∨ b[i]? = b[k]?) : Jn a b (l.set i y) := by
  have hi := (List.getElem?_eq_some_iff.1 hx).1
  have hk := (List.getElem?_eq_some_iff.1 hy).1
  have hl := h.1
  refine ⟨by rw [List.length_set]; exact h.1, fun j z hz => ?_⟩
  by_cases e : j = i
  · subst e
    rw [List.getElem?_set_self hi] at hz
    cases hz
    refine ⟨by have := (h.2 j x hx).1; omega, fun C ha hb => ?_⟩
    have h1 : C[j]? = C[k]? := by
      rcases he with he | he
      · exact ha j k (by omega) (by omega) he
      · exact hb j k (by omega) (by omega) he
    rw [h1]; exact (h.2 k y hy).2 C ha hb
  · rw [List.getElem?_set_ne (Ne.symm e)] at hz
    exact h.2 j z hz
theorem sum_set {l : List Nat} {i x : Nat} (y : Nat) (hx : l[i]? = some x) : (l.set i y).sum + x = l.sum + y := by
  induction l generalizing i with
  | nil => cases hx
  | cons a l ih =>
    cases i with
    | zero => simp at hx; subst hx; simp; omega
    | succ i => simp at hx; have := ih hx; simp; omega
/-- Pairs of places that were looked at, none to be turned. -/
def JP (a b l : List Nat) (c d : Nat) : Prop := ∀ (i k x y : Nat), (i < c ∨ i = c ∧ k < d) → k < a.length → l[i]? = some x → l[k]? = some y → (a[i]? = a[k]? ∨ b[i]? = b[k]?) → ¬ y < x
/-- In the midst of a round: l0 at its start, l now. -/
def JR (a b l0 l : List Nat) (ag : Bool) (c d : Nat) : Prop := Jn a b l ∧ (ag = true → l.sum < l0.sum) ∧ (ag = false → l = l0 ∧ JP a b l0 c d)
theorem JR.sum {a b l0 l : List Nat} {ag : Bool} {c d : Nat} (h : JR a b l0 l ag c d) : l.sum + (if ag then 1 else 0) < l0.sum + 1 := by
  cases ag
  · rw [(h.2.2 rfl).1]; simp
  · have := h.2.1 rfl; simp; omega
theorem JR.keep {a b l0 l : List Nat} {ag : Bool} {c d x y : Nat} (h : JR a b l0 l ag c d) (hx : l[c]? = some x) (hy : l[d]? = some y) (hn : (a[c]? = a[d]? ∨ b[c]? = b[d]?) → ¬ y < x) : JR a b l0 l ag c (d + 1) := by
  refine ⟨h.1, h.2.1, fun e => ?_⟩
  obtain ⟨e1, h1⟩ := h.2.2 e
  refine ⟨e1, fun i k x' y' hik hk hx' hy' he => ?_⟩
  by_cases e2 : i = c ∧ k = d
  · obtain ⟨rfl, rfl⟩ := e2
    rw [← e1, hx] at hx'
    rw [← e1, hy] at hy'
    cases hx'; cases hy'
    exact hn he
  · exact h1 i k x' y' (by omega) hk hx' hy' he
theorem JR.turn {a b l0 l : List Nat} {ag : Bool} {c d x y : Nat} (hab : a.length = b.length) (h : JR a b l0 l ag c d) (hx : l[c]? = some x) (hy : l[d]? = some y) (he : a[c]? = a[d]? ∨ b[c]? = b[d]?) (hlt : y < x) : JR a b l0 (l.set c y) true c (d + 1) := by
  refine ⟨h.1.put hab hx hy hlt he, fun _ => ?_, fun e => by cases e⟩
  have h1 := sum_set y hx
  have h2 := h.sum
  omega
theorem JR.next {a b l0 l : List Nat} {ag : Bool} {c : Nat} (h : JR a b l0 l ag c a.length) : JR a b l0 l ag (c + 1) 0 :=
  ⟨h.1, h.2.1, fun e => ⟨(h.2.2 e).1, fun i k x y hik hk => (h.2.2 e).2 i k x y (by omega) hk⟩⟩
theorem JR.first {a b l : List Nat} (h : Jn a b l) : JR a b l l false 0 0 := ⟨h, (fun e => by cases e), fun _ => ⟨rfl, fun i k x y hik => by omega⟩⟩
theorem join_done {a b l0 l : List Nat} (hab : a.length = b.length) (h : JR a b l0 l false a.length 0) : pat (ints l) = joinR a b := by
  obtain ⟨rfl, hP⟩ := h.2.2 rfl
  have hl := h.1.1
  have hfin : ∀ i j, i < a.length → j < a.length → (a[i]? = a[j]? ∨ b[i]? = b[j]?) → l[i]? = l[j]? := fun i j hi hj he => by
    obtain ⟨x, hx⟩ : ∃ x, l[i]? = some x := ⟨_, List.getElem?_eq_getElem (by omega)⟩
    obtain ⟨y, hy⟩ : ∃ y, l[j]? = some y := ⟨_, List.getElem?_eq_getElem (by omega)⟩
    have h1 := hP i j x y (by omega) hj hx hy he
    have h2 := hP j i y x (by omega) hi hy hx (by rcases he with he | he; exact .inl he.symm; exact .inr he.symm)
    rw [hx, hy]
    congr 1
    omega
  have fa : Finr a l := fun i j hi hj e => hfin i j hi hj (.inl e)
  have fb : Finr b l := fun i j hi hj e => hfin i j (by omega) (by omega) (.inr e)
  refine leg_uniq (leg_pat0 _) (by unfold joinR; exact leg_pat0 _) (by rw [pat_len, ints_len, joinR_len, hl]) fun i j hi hj => ?_
  rw [pat_len, ints_len] at hi hj
  obtain ⟨x, hx⟩ : ∃ x, l[i]? = some x := ⟨_, List.getElem?_eq_getElem hi⟩
  obtain ⟨y, hy⟩ : ∃ y, l[j]? = some y := ⟨_, List.getElem?_eq_getElem hj⟩
  rw [pat_ker (ints_at hx) (ints_at hy)]
  constructor
  · intro e
    have e' : x = y := by omega
    subst e'
    rw [(h.1.2 i x hx).2 _ join_a (join_b hab), (h.1.2 j x hy).2 _ join_a (join_b hab)]
  · intro e
    have := join_least hab fa fb i j (by rw [joinR_len]; omega) (by rw [joinR_len]; omega) e
    rw [hx, hy] at this
    have := Option.some.inj this
    omega
/-- The numbers in a block's first cells, together. -/
def sumAt (W : World) (g : Nat) : Nat → Nat
  | 0 => 0
  | c + 1 => sumAt W g c + match W.cell? ⟨g, c, none⟩ with | some (.int _ z) => z.toNat | _ => 0
theorem sumAt_row {W : World} {g base n : Nat} {l : List Nat} (h : W.ownsRow base 3 1 (.slice (some ⟨g, 0, none⟩) n n) n (cellsI (ints l))) (hl : l.length = n) : sumAt W g n = l.sum := by
  have key : ∀ c, c ≤ n → sumAt W g c = (l.take c).sum := by
    intro c
    induction c with
    | zero => intro _; simp [sumAt]
    | succ c ih =>
      intro hc
      obtain ⟨x, hx⟩ : ∃ x, l[c]? = some x := ⟨_, List.getElem?_eq_getElem (by omega)⟩
      have e : W.cell? ⟨g, c, none⟩ = some (.int .i64 (x : Int)) := by
        rw [h.cellAt c (by omega)]
        unfold cellsI
        rw [List.getElem?_map, ints_at hx]; rfl
      rw [sumAt, ih (by omega), e, List.take_add_one, hx]
      simp
  rw [key n (Nat.le_refl _), List.take_of_length_le (by omega)]
theorem cellsN_at {l : List Nat} {c x : Nat} (h : l[c]? = some x) : (cellsI (ints l))[c]? = some (.int .i64 (x : Int)) := by
  unfold cellsI; rw [List.getElem?_map, ints_at h]; rfl
theorem cellsN_set (l : List Nat) (c x : Nat) : (cellsI (ints l)).set c (.int .i64 (x : Int)) = cellsI (ints (l.set c x)) := by
  unfold cellsI ints; rw [List.map_set, List.map_set]
theorem range_snoc (c : Nat) : cellsI (ints (List.range (c + 1))) = cellsI (ints (List.range c)) ++ [.int .i64 (c : Int)] := by rw [List.range_succ, cellsI_snoc]
def agB (v : Value) : Nat := match v with | .bool true => 1 | _ => 0
set_option maxRecDepth 100000 in
set_option maxHeartbeats 2000000 in
theorem refJoin (n : Nat) (a b : List Nat) (va vb : Value) (w : World) (ra : RowI w va (ints a)) (rb : RowI w vb (ints b)) (hla : a.length = n) (hlb : b.length = n) (hn : n ≤ 25) :
    Calls Try.prog 39 #[va, vb] w fun e w' => ∃ g, e = .returned (.slice (some ⟨g, 0, none⟩) n n) ∧ Hid (RowI w' (.slice (some ⟨g, 0, none⟩) n n) (ints (joinR a b))) ∧ Below w.heap.size w w' := by
  obtain ⟨i0, hi, hz0, hz1, hz2⟩ := info_parts info3
  obtain ⟨oa, ca, rfl, _, hca⟩ := ra
  obtain ⟨ob, cb, rfl, _, hcb⟩ := rb
  rw [ints_len, hla, ints_len, hlb]
  have hca' := hide' hca
  have hcb' := hide' hcb
  have hla' := hide' hla
  have hlb' := hide' hlb
  have hab := hide' (show a.length = b.length by omega)
  clear hca hcb hla hlb
  go_enter Try.func39, Try.ntmps39
  go_wp2_with (at_make; refine wpList_make_full _ rfl _ _ 22 rfl w.heap.size 3 i0 (.int .i64 0) 1 Try.underlying22 hi hz0 hz1 .i64 .i64 _ _ n rfl rfl rfl rfl (by rw [hz2]; omega) (by unfold maxLen; omega) (by simp) ?_; intro w2 hrow hgrow)
  have hr1' : w2.ownsRow w.heap.size 3 1 (.slice (some ⟨w.heap.size, 0, none⟩) n n) n (cellsI (ints (List.range 0)) ++ List.replicate (n - 0) (.int .i64 0)) := by
    have h := hrow
    rw [show (Value.int .i64 0).cells = #[.int .i64 0] from rfl, toList_madeCells_one, Nat.mul_one] at h
    simpa [cellsI, ints] using h
  have hr1 := hide' hr1'
  have hB1 : Hid (Below w.heap.size w w2) := (Below.refl _ w).grown hgrow (Nat.le_refl _) (fun j ej => by cases ej)
  clear hrow hgrow hr1'
  go_wp2
  go_loopw [6] (fun k wr => ∃ c : Nat, c ≤ n ∧ k = .int .i64 c ∧ Hid (wr.ownsRow w.heap.size 3 1 (.slice (some ⟨w.heap.size, 0, none⟩) n n) n (cellsI (ints (List.range c)) ++ List.replicate (n - c) (.int .i64 0))) ∧ Hid (Below w.heap.size w wr)) (fun k _ => ((n : Int) - intOf k).toNat)
  case atStart => exact ⟨0, Nat.zero_le _, rfl, hr1, hB1⟩
  case round =>
    clear hr1 hB1
    obtain ⟨c, hc, rfl, hrow, hB⟩ := hrel
    by_cases hlt : c < n
    · have hpl2 : (cellsI (ints (List.range c))).length = c := by simp [cellsI, ints]
      have cz : wr.cell? ⟨w.heap.size, c, none⟩ = some (.int .i64 0) := by
        rw [hrow.out.cellAt c (by omega), List.getElem?_append_right (by omega), hpl2, Nat.sub_self, List.getElem?_replicate, if_pos (by omega)]
      have fz := hrow.out.frozenAt c
      have hS := (hrow.out.stored c (.int .i64 (c : Int))).1
      rw [set_mid _ c n _ (.int .i64 0) hpl2 hlt, ← range_snoc] at hS
      have hS' := hide' hS
      have hB2 := hide' (hB.out.setCell (Nat.le_refl _) (p := ⟨w.heap.size, c, none⟩) (.int .i64 (c : Int)))
      clear hS hrow hB
      go_wp2
      exact ⟨⟨c + 1, by omega, by go_num, hS', hB2⟩, by simp [intOf]; omega⟩
    · obtain rfl : c = n := by omega
      have hrow1 := hrow.out
      rw [Nat.sub_self, List.replicate_zero, List.append_nil] at hrow1
      have hJ : Hid (∃ l, wr.ownsRow w.heap.size 3 1 (.slice (some ⟨w.heap.size, 0, none⟩) c c) c (cellsI (ints l)) ∧ Jn a b l) := ⟨List.range c, hrow1, by have := Jn.start a b; rw [hla'.out] at this; exact this⟩
      clear hrow hrow1
      go_wp2
      go_loopw [7, 8, 9] (fun ag _ _ wr => ∃ g : Bool, ag = .bool g ∧ Hid (∃ l, wr.ownsRow w.heap.size 3 1 (.slice (some ⟨w.heap.size, 0, none⟩) c c) c (cellsI (ints l)) ∧ Jn a b l ∧ (g = false → pat (ints l) = joinR a b)) ∧ Hid (Below w.heap.size w wr)) (fun ag _ _ wr => sumAt wr w.heap.size c + agB ag)
      case atStart =>
        obtain ⟨l, h1, h2⟩ := hJ.out
        exact ⟨true, rfl, ⟨l, h1, h2, fun e => by cases e⟩, hB⟩
      case round =>
        clear hJ hB
        obtain ⟨g, rfl, hJ, hB⟩ := hrel
        obtain ⟨l0, hO, hJ0, hend⟩ := hJ.out
        cases g with
        | true =>
          have hsum0 : Hid (sumAt wr w.heap.size c + agB (.bool true) = l0.sum + 1) := by
            show _ = _
            rw [sumAt_row hO (by rw [hJ0.1]; exact hla'.out)]; rfl
          have hR0 : Hid (∃ l, wr.ownsRow w.heap.size 3 1 (.slice (some ⟨w.heap.size, 0, none⟩) c c) c (cellsI (ints l)) ∧ JR a b l0 l false 0 0) := ⟨l0, hO, JR.first hJ0⟩
          clear hJ hO hJ0 hend
          obtain ⟨W0, rfl⟩ : ∃ W, W = wr := ⟨_, rfl⟩
          go_wp2
          go_loopw [7, 8, 9] (fun ag k _ wr => ∃ (g : Bool) (ci : Nat), ci ≤ c ∧ k = .int .i64 ci ∧ ag = .bool g ∧ Hid (∃ l, wr.ownsRow w.heap.size 3 1 (.slice (some ⟨w.heap.size, 0, none⟩) c c) c (cellsI (ints l)) ∧ JR a b l0 l g ci 0) ∧ Hid (Below w.heap.size w wr)) (fun _ k _ _ => ((c : Int) - intOf k).toNat)
          case atStart => exact ⟨false, 0, Nat.zero_le _, rfl, rfl, hR0, hB⟩
          case round =>
            clear hR0 hB
            obtain ⟨g, ci, hci, rfl, rfl, hR, hB⟩ := hrel
            by_cases hlt2 : ci < c
            · go_wp2
              go_loopw [7, 9] (fun ag k wr => ∃ (g : Bool) (d : Nat), d ≤ c ∧ k = .int .i64 d ∧ ag = .bool g ∧ Hid (∃ l, wr.ownsRow w.heap.size 3 1 (.slice (some ⟨w.heap.size, 0, none⟩) c c) c (cellsI (ints l)) ∧ JR a b l0 l g ci d) ∧ Hid (Below w.heap.size w wr)) (fun _ k _ => ((c : Int) - intOf k).toNat)
              case atStart => exact ⟨g, 0, Nat.zero_le _, rfl, rfl, hR, hB⟩
              case round =>
                clear hR hB
                obtain ⟨g, d, hd, rfl, rfl, hR, hB⟩ := hrel
                obtain ⟨l, hO, hJR⟩ := hR.out
                have hll : l.length = c := by rw [hJR.1.1]; exact hla'.out
                by_cases hld : d < c
                · obtain ⟨xa, hxa⟩ : ∃ x, a[ci]? = some x := ⟨_, List.getElem?_eq_getElem (by have := hla'.out; omega)⟩
                  obtain ⟨ya, hya⟩ : ∃ x, a[d]? = some x := ⟨_, List.getElem?_eq_getElem (by have := hla'.out; omega)⟩
                  obtain ⟨xb, hxb⟩ : ∃ x, b[ci]? = some x := ⟨_, List.getElem?_eq_getElem (by have := hlb'.out; omega)⟩
                  obtain ⟨yb, hyb⟩ : ∃ x, b[d]? = some x := ⟨_, List.getElem?_eq_getElem (by have := hlb'.out; omega)⟩
                  obtain ⟨xl, hxl⟩ : ∃ x, l[ci]? = some x := ⟨_, List.getElem?_eq_getElem (by omega)⟩
                  obtain ⟨yl, hyl⟩ : ∃ x, l[d]? = some x := ⟨_, List.getElem?_eq_getElem (by omega)⟩
                  obtain ⟨ga, o1, rfl, ka0⟩ := hca'.out ci xa (ints_at hxa)
                  obtain ⟨_, _, e, kb0⟩ := hca'.out d ya (ints_at hya)
                  cases e
                  obtain ⟨gb, o2, rfl, kc0⟩ := hcb'.out ci xb (ints_at hxb)
                  obtain ⟨_, _, e, kd0⟩ := hcb'.out d yb (ints_at hyb)
                  cases e
                  have ka := (hB.out.cell (p := ⟨ga, o1 + ci, none⟩) (cell_lt ka0)).trans ka0
                  have kb := (hB.out.cell (p := ⟨ga, o1 + d, none⟩) (cell_lt kb0)).trans kb0
                  have kc := (hB.out.cell (p := ⟨gb, o2 + ci, none⟩) (cell_lt kc0)).trans kc0
                  have kd := (hB.out.cell (p := ⟨gb, o2 + d, none⟩) (cell_lt kd0)).trans kd0
                  have ke : wr.cell? ⟨w.heap.size, ci, none⟩ = some (.int .i64 (xl : Int)) := by rw [hO.cellAt ci (by omega)]; exact cellsN_at hxl
                  have kf : wr.cell? ⟨w.heap.size, d, none⟩ = some (.int .i64 (yl : Int)) := by rw [hO.cellAt d (by omega)]; exact cellsN_at hyl
                  have fz := hO.frozenAt ci
                  have hdrew : Hid (∀ q, (wr.drewN q).ownsRow w.heap.size 3 1 (.slice (some ⟨w.heap.size, 0, none⟩) c c) c (cellsI (ints l))) := fun q => by
                    induction q with
                    | zero => exact hO
                    | succ q iq => exact iq.drew
                  have hkeep : Hid (((a[ci]? = a[d]? ∨ b[ci]? = b[d]?) → ¬ yl < xl) → ∀ q, ∃ l, (wr.drewN q).ownsRow w.heap.size 3 1 (.slice (some ⟨w.heap.size, 0, none⟩) c c) c (cellsI (ints l)) ∧ JR a b l0 l g ci (d + 1)) := fun hn q => ⟨l, hdrew.out q, hJR.keep hxl hyl hn⟩
                  have hturn : Hid ((a[ci]? = a[d]? ∨ b[ci]? = b[d]?) → yl < xl → ∀ q, ∃ l, ((wr.drewN q).setCell ⟨w.heap.size, ci, none⟩ (.int .i64 (yl : Int))).ownsRow w.heap.size 3 1 (.slice (some ⟨w.heap.size, 0, none⟩) c c) c (cellsI (ints l)) ∧ JR a b l0 l true ci (d + 1)) := fun he hl2 q => by
                    have hS := ((hdrew.out q).stored ci (.int .i64 (yl : Int))).1
                    rw [cellsN_set] at hS
                    exact ⟨_, hS, hJR.turn hab.out hxl hyl he hl2⟩
                  have hEA : Hid (xa = ya → a[ci]? = a[d]?) := fun e => by rw [hxa, hya, e]
                  have hEB : Hid (xb = yb → b[ci]? = b[d]?) := fun e => by rw [hxb, hyb, e]
                  have hNA : Hid (a[ci]? = a[d]? → xa = ya) := fun e => by rw [hxa, hya] at e; exact Option.some.inj e
                  have hNB : Hid (b[ci]? = b[d]? → xb = yb) := fun e => by rw [hxb, hyb] at e; exact Option.some.inj e
                  clear ka0 kb0 kc0 kd0 hxa hya hxb hyb hxl hyl hO hR hJR hdrew hll
                  by_cases hlt3 : yl < xl
                  · have hl3 : (yl : Int) < (xl : Int) := by omega
                    by_cases hxy : xa = ya
                    · have hxyb : ((xa : Int) == (ya : Int)) = true := by simp; omega
                      have hQ := hide' (hturn.out (.inl (hEA.out hxy)) hlt3)
                      clear hkeep hturn hEA hEB hNA hNB hxy
                      go_wp2
                      go_quiet (fail)
                      go_wp2
                      exact ⟨⟨true, d + 1, by omega, by go_num, rfl, hQ.out _, hide' ((below_drewE hB.out _).setCell (Nat.le_refl _) _)⟩, by simp [intOf]; omega⟩
                    · have hxyb : ((xa : Int) == (ya : Int)) = false := by simp; omega
                      by_cases hst : xb = yb
                      · have hstb : ((xb : Int) == (yb : Int)) = true := by simp; omega
                        have hQ := hide' (hturn.out (.inr (hEB.out hst)) hlt3)
                        clear hkeep hturn hEA hEB hNA hNB hxy hst
                        go_wp2
                        go_quiet (fail)
                        go_wp2
                        exact ⟨⟨true, d + 1, by omega, by go_num, rfl, hQ.out _, hide' ((below_drewE hB.out _).setCell (Nat.le_refl _) _)⟩, by simp [intOf]; omega⟩
                      · have hstb : ((xb : Int) == (yb : Int)) = false := by simp; omega
                        have hQ := hide' (hkeep.out (fun e => by rcases e with e | e; exact absurd (hNA.out e) hxy; exact absurd (hNB.out e) hst))
                        clear hkeep hturn hEA hEB hNA hNB hxy hst
                        go_wp2
                        go_quiet (fail)
                        go_wp2
                        exact ⟨⟨g, d + 1, by omega, by go_num, rfl, hQ.out _, hide' (below_drewE hB.out _)⟩, by simp [intOf]; omega⟩
                  · have hl3 : ¬ (yl : Int) < (xl : Int) := by omega
                    have hl3d : decide ((yl : Int) < (xl : Int)) = false := decide_eq_false hl3
                    have hQ := hide' (hkeep.out (fun _ => hlt3))
                    by_cases hxy : xa = ya
                    · have hxyb : ((xa : Int) == (ya : Int)) = true := by simp; omega
                      clear hkeep hturn hEA hEB hNA hNB hxy
                      go_wp2
                      go_quiet (fail)
                      go_wp2
                      exact ⟨⟨g, d + 1, by omega, by go_num, rfl, hQ.out _, hide' (below_drewE hB.out _)⟩, by simp [intOf]; omega⟩
                    · have hxyb : ((xa : Int) == (ya : Int)) = false := by simp; omega
                      by_cases hst : xb = yb
                      · have hstb : ((xb : Int) == (yb : Int)) = true := by simp; omega
                        clear hkeep hturn hEA hEB hNA hNB hxy hst
                        go_wp2
                        go_quiet (fail)
                        go_wp2
                        exact ⟨⟨g, d + 1, by omega, by go_num, rfl, hQ.out _, hide' (below_drewE hB.out _)⟩, by simp [intOf]; omega⟩
                      · have hstb : ((xb : Int) == (yb : Int)) = false := by simp; omega
                        clear hkeep hturn hEA hEB hNA hNB hxy hst
                        go_wp2
                        go_quiet (fail)
                        go_wp2
                        exact ⟨⟨g, d + 1, by omega, by go_num, rfl, hQ.out _, hide' (below_drewE hB.out _)⟩, by simp [intOf]; omega⟩
                · obtain rfl : d = c := by omega
                  have hR2 : Hid (∃ l, wr.ownsRow w.heap.size 3 1 (.slice (some ⟨w.heap.size, 0, none⟩) d d) d (cellsI (ints l)) ∧ JR a b l0 l g (ci + 1) 0) := ⟨l, hO, by have h1 := hJR; rw [← hla'.out] at h1; exact h1.next⟩
                  clear hR hO hJR hll
                  go_wp2
                  exact ⟨⟨g, ci + 1, by omega, by go_num, rfl, hR2, hB⟩, by simp [intOf]; omega⟩
            · obtain rfl : ci = c := by omega
              obtain ⟨l, hO, hJR⟩ := hR.out
              have hJR' : JR a b l0 l g a.length 0 := by rw [hla'.out]; exact hJR
              have hR2 : Hid (∃ l, wr.ownsRow w.heap.size 3 1 (.slice (some ⟨w.heap.size, 0, none⟩) ci ci) ci (cellsI (ints l)) ∧ Jn a b l ∧ (g = false → pat (ints l) = joinR a b)) := ⟨l, hO, hJR.1, fun e => by subst e; exact join_done hab.out hJR'⟩
              have hms : Hid (sumAt wr w.heap.size ci + agB (.bool g) < sumAt W0 w.heap.size ci + agB (.bool true)) := by
                show _ < _
                rw [hsum0.out, sumAt_row hO (by rw [hJR.1.1]; exact hla'.out)]
                have h1 := hJR.sum
                cases g <;> simp [agB] at h1 ⊢ <;> omega
              clear hR hO hJR hJR' hsum0
              go_wp2
              exact ⟨⟨g, rfl, hR2, hB⟩, hms.out⟩
        | false =>
          have hp := hide' (hend rfl)
          have hR : RowI wr (.slice (some ⟨w.heap.size, 0, none⟩) c c) (ints l0) := by
            have hl0 : (ints l0).length = c := by rw [ints_len, hJ0.1]; exact hla'.out
            have h1 : wr.ownsRow w.heap.size 3 1 (.slice (some ⟨w.heap.size, 0, none⟩) c c) (ints l0).length (cellsI (ints l0)) := by rw [hl0]; exact hO
            exact RowI.of_owns h1
          have KO := hide' (refOf c (ints l0) _ c wr hR (by rw [ints_len, hJ0.1]; exact hla'.out) (by omega))
          clear hJ hO hJ0 hend hR
          go_wp2_with (first | (go_at_call 7; refine KO.out.mono ?_; rintro e w3 ⟨rfl, hr3, hb3⟩))
          go_ret
          exact ⟨_, rfl, by rw [← hp.out]; exact hr3, hB.out.trans (hb3.out.mono hB.out.size)⟩
end Go.Proofs.Ytagkopmegfmhaaa
