/- The document's choose: the first list of so many rows, behind those that are taken, that has too few places. -/
import Derived.Test.YthjgbnehoiafhaaDoorMRBits
import Derived.Test.YthjgbnehoiafhaaDoorMU
import Derived.Deep.AppendLies
import Derived.Laws.AppendOwnNone
namespace Go.Proofs.YthjgbnehoiafhaaDoor.M
open Go.RowKit Go.Shelf
open Go.Proofs.YthjgbnehoiafhaaDoor.I (ints)
/-- A rising list of rows from i on. -/
def Inc (i n : Nat) (m : List Nat) : Prop := m.Pairwise (· < ·) ∧ ∀ x ∈ m, i ≤ x ∧ x < n
theorem Inc.cons {i n j : Nat} {m : List Nat} : Inc i n (j :: m) ↔ i ≤ j ∧ j < n ∧ Inc (j + 1) n m := by
  constructor
  · rintro ⟨h1, h2⟩
    have h1' := List.pairwise_cons.1 h1
    have hj := h2 j (List.mem_cons_self ..)
    exact ⟨hj.1, hj.2, h1'.2, fun x hx => ⟨h1'.1 x hx, (h2 x (List.mem_cons_of_mem _ hx)).2⟩⟩
  · rintro ⟨h1, h2, h3, h4⟩
    refine ⟨List.pairwise_cons.2 ⟨fun x hx => (h4 x hx).1, h3⟩, fun x hx => ?_⟩
    rcases List.mem_cons.1 hx with e | hx
    · subst e; exact ⟨h1, h2⟩
    · have := h4 x hx
      exact ⟨by omega, this.2⟩
theorem Inc.len : ∀ {m : List Nat} {i n : Nat}, Inc i n m → m ≠ [] → i + m.length ≤ n
  | [], _, _, _, h => absurd rfl h
  | [j], i, n, h, _ => by have := Inc.cons.1 h; simp; omega
  | j :: k :: m, i, n, h, _ => by
    have h1 := Inc.cons.1 h
    have := Inc.len h1.2.2 (by simp)
    simp only [List.length_cons] at this ⊢
    omega
/-- What these rows may have all together. -/
def uwL (R : Nat → Nat) (l : List Nat) : Nat := l.foldl (fun a x => a ||| R x) 0
theorem uwL_snoc (R : Nat → Nat) (l : List Nat) (x : Nat) : uwL R (l ++ [x]) = uwL R l ||| R x := by simp [uwL]
theorem uwL_lt {R : Nat → Nat} (h : ∀ r, R r < 18446744073709551616) (l : List Nat) : uwL R l < 18446744073709551616 := by
  have : ∀ (l : List Nat) (a : Nat), a < 18446744073709551616 → l.foldl (fun a x => a ||| R x) a < 18446744073709551616 := by
    intro l
    induction l with
    | nil => exact fun a h => h
    | cons x l ih => exact fun a ha => ih _ (Nat.or_lt_two_pow (n := 64) ha (h x))
  exact this l 0 (by decide)
theorem uwL_bit (R : Nat → Nat) (l : List Nat) (u : Nat) : (uwL R l).testBit u = true ↔ ∃ k ∈ l, (R k).testBit u = true := by
  have : ∀ (l : List Nat) (a : Nat), (l.foldl (fun a x => a ||| R x) a).testBit u = true ↔ a.testBit u = true ∨ ∃ k ∈ l, (R k).testBit u = true := by
    intro l
    induction l with
    | nil => simp
    | cons x l ih =>
      intro a
      rw [List.foldl_cons, ih, Nat.testBit_or, Bool.or_eq_true]
      simp [or_assoc]
  rw [uwL, this]
  simp
/-- They have too few. -/
def BdL (R : Nat → Nat) (l : List Nat) : Prop := (nums (uwL R l)).length < l.length
/-- What choose answers. -/
inductive ChR (R : Nat → Nat) (n k i : Nat) (T : List Nat) (V : World) : Value → Prop
  | no (h : ∀ m, Inc i n m → m.length = k → ¬ BdL R (T ++ m)) : ChR R n k i T V (.slice none 0 0)
  | yes (m : List Nat) (h1 : Inc i n m) (h2 : m.length = k) (hb : BdL R (T ++ m)) (hl : ∀ m', Inc i n m' → m'.length = k → BdL R (T ++ m') → ¬ I.cmpL (ints m') (ints m) < 0) (ad : Addr) (c cap : Nat) (hr : I.RowI V (.slice (some ad) c cap) (ints (T ++ m))) : ChR R n k i T V (.slice (some ad) c cap)
/-- Where no list that starts before j is short, and the one that starts there is. -/
theorem ChR.found {R : Nat → Nat} {n k i j : Nat} {T : List Nat} {V : World} {ad : Addr} {c cap : Nat} (hj : i ≤ j) (hno : ∀ h m, h < j → Inc i n (h :: m) → m.length = k → ¬ BdL R (T ++ h :: m)) (h : ChR R n k (j + 1) (T ++ [j]) V (.slice (some ad) c cap)) (hjn : j < n) : ChR R n (k + 1) i T V (.slice (some ad) c cap) := by
  cases h with
  | yes m h1 h2 hb hl _ _ _ hr =>
    refine .yes (j :: m) (Inc.cons.2 ⟨hj, hjn, h1⟩) (by simp [h2]) (by simpa using hb) (fun m' a b d => ?_) ad c cap (by simpa using hr)
    cases m' with
    | nil => simp at b
    | cons x m' =>
      simp only [List.length_cons, Nat.add_right_cancel_iff] at b
      have hge : j ≤ x := Nat.le_of_not_lt fun hx => hno x m' hx a b d
      simp only [ints, List.map_cons, I.cmpL]
      by_cases e : x = j
      · subst e
        rw [if_pos (I.cmpI_zero.2 rfl)]
        exact hl m' (Inc.cons.1 a).2.2 b (by simpa using d)
      · have hne : ¬ I.cmpI (x : Int) (j : Int) = 0 := fun e' => e (by have := I.cmpI_zero.1 e'; omega)
        rw [if_neg hne, cmpI_neg]
        omega
theorem ChR.shape {R : Nat → Nat} {n k i : Nat} {T : List Nat} {V : World} {v : Value} (h : ChR R n k i T V v) : v = .slice none 0 0 ∨ ∃ ad c cp, v = .slice (some ad) c cp := by
  cases h with
  | no => exact .inl rfl
  | yes m _ _ _ _ ad c cp => exact .inr ⟨ad, c, cp, rfl⟩
/-- All of a list laid behind nothing. -/
theorem app_allI {ops : Array Oper} {rest : List Oper} {o : Oper} {a : Act} {Q : Exit → Act → World → Prop} (hgd : o.guard = none) (s x : Operand) (W : World) (ta : Option Addr) (tc : Nat) (l : List Int) (ho : o.op = .call { callee := .builtin .append, args := #[s, x], argTypes := #[23, 23] })
    (es : a.eval s = .slice none 0 0) (ex : a.eval x = .slice ta l.length tc) (hr : I.RowI W (.slice ta l.length tc) l) (hnil : l = [] → ta = none ∧ tc = 0) (hn : l.length ≤ 1000)
    (hK : ∀ v2 w2, Hid (w2.ownsRow W.heap.size 3 1 v2 l.length (I.cellsI l)) → Hid (Below W.heap.size W w2) → wpList Tryd.prog ops Q rest (a.put o.dst v2) w2) : wpList Tryd.prog ops Q (o :: rest) a W := by
  obtain ⟨i0, hi, hz0, hz1, hz2⟩ := info_parts I.info3
  by_cases hl : l = []
  · obtain ⟨rfl, rfl⟩ := hnil hl
    subst hl
    exact wpList_append_own_none hgd s x 23 ho W.heap.size 3 i0 1 Tryd.underlying23 hi _ 0 (I.cellsI []) es (World.ownsRow_nil _ _ _ _) ex (hK _ _ (World.ownsRow_nil _ _ _ _) (Below.refl _ _))
  · obtain ⟨oa, cap, e, _, hc⟩ := hr
    cases e
    have h0 : 0 < l.length := List.length_pos_iff.2 hl
    obtain ⟨g, o', rfl, _⟩ := hc 0 _ (List.getElem?_eq_getElem h0)
    refine wpList_append_own _ hgd s x 23 ho W.heap.size 3 i0 (.int .i64 0) 1 8 Tryd.underlying23 hi hz0 hz1 hz2 rfl (by decide) _ 0 (I.cellsI []) es (World.ownsRow_nil _ _ _ _) ⟨g, o', none⟩ l.length tc (I.cellsI l) ex (by simp [I.cellsI]) (fun j u hu => ?_) (I.one_cells l) (by unfold maxLen; omega) (by omega) (Nat.le_refl _) ?_
    · obtain ⟨z, hz, rfl⟩ := I.cellsI_at hu
      obtain ⟨g', o'', e, hcz⟩ := hc j z hz
      cases e
      rw [Addr.add_lit]; exact hcz
    · intro v2 w2 hown hg _
      refine hK _ _ ?_ ?_
      · show World.ownsRow _ _ _ _ _ _ _
        simpa [I.cellsI] using hown
      · exact (Below.refl _ W).grown hg (Nat.le_refl _) (fun j e => by cases e)
theorem own_geI {w : World} {B : Nat} {e : TypeId} {size : Nat} {v : Value} {n : Nat} {xs : List Value} (h : w.ownsRow B e size v n xs) : ∀ j, v.ownBlock = some j → B ≤ j := fun j ej => (h.lt j ej).1
/-- A number laid behind a row of one's own. -/
theorem app_oneI {o : Oper} {a : Act} {K : Act → World → Prop} {Q : Exit → Act → World → Prop} (s x : Operand) (B : Nat) (W : World) (v : Value) (l : List Int) (z : Int) (ho : o.op = .call { callee := .builtin .append, args := #[s, x], argTypes := #[23, 23] })
    (es : a.eval s = v) (ex : a.eval x = .slice (some ⟨W.heap.size, 0, none⟩) 1 1) (hT : W.ownsRow B 3 1 v l.length (I.cellsI l)) (hB : B ≤ W.heap.size) (hn : l.length ≤ 1000000)
    (hK : ∀ v2 w2, Hid (w2.ownsRow B 3 1 v2 (l ++ [z]).length (I.cellsI (l ++ [z]))) → Hid (Below B W w2) → K (a.put o.dst v2) w2) : o.wp Tryd.prog a (W.alloc (.cells #[.int .i64 z] 3)) K Q := by
  obtain ⟨i0, hi, hz0, hz1, hz2⟩ := info_parts I.info3
  refine wp_append_own _ s x 23 ho B 3 i0 (.int .i64 0) 1 8 Tryd.underlying23 hi hz0 hz1 hz2 rfl (by decide) v l.length (I.cellsI l) es (hT.alloc _) ⟨W.heap.size, 0, none⟩ 1 1 [.int .i64 z] ex rfl (World.news_of_block (cs := #[.int .i64 z]) (I.heap_new _ _)) (by simp [Value.oneCell']) (by unfold maxLen; omega) (by omega) (by simp; omega) ?_
  intro v2 w2 hown hgrow _
  refine hK _ _ ?_ (((Below.refl B W).alloc hB _).grown hgrow (by simp; omega) (fun j ej => own_geI hT j ej))
  show World.ownsRow _ _ _ _ _ _ _
  rw [List.length_append]
  simpa [I.cellsI] using hown
section
variable {n : Nat} {R : Nat → Nat} {oa : Option Addr} {cap : Nat}
set_option maxRecDepth 100000 in
set_option maxHeartbeats 2000000 in
theorem chooseR (hn : n ≤ 12) : ∀ (k i : Nat) (T : List Nat) (ta : Option Addr) (tc : Nat) (w : World), RwA w (.slice oa n cap) n R → I.RowI w (.slice ta (ints T).length tc) (ints T) → (T = [] → ta = none ∧ tc = 0) → T.length + k ≤ 12 → 0 < T.length + k → i ≤ n →
    Calls Tryd.prog 43 #[.slice oa n cap, .int .i64 (i : Int), .int .i64 (k : Int), .slice ta (ints T).length tc, .int .u64 (uwL R T : Int)] w fun e w' => ∃ v, e = .returned v ∧ Hid (ChR R n k i T w' v) ∧ Hid (Below w.heap.size w w')
  | 0, i, T, ta, tc, w, hA, hr, hnil, hlen, hpos, hi => by
    have h64 := uwL_lt hA.word T
    have hTl : (ints T).length = T.length := I.ints_len T
    have hT : 0 < T.length := by omega
    obtain ⟨ad, rfl⟩ : ∃ ad, ta = some ad := by
      obtain ⟨oa', cap', e, _, hc⟩ := hr
      cases e
      obtain ⟨g, o, e, _⟩ := hc 0 _ (List.getElem?_eq_getElem (l := ints T) (by rw [I.ints_len]; exact hT))
      exact ⟨_, e⟩
    have hall : ∀ m : List Nat, m.length = 0 → m = [] := fun m h => List.eq_nil_of_length_eq_zero h
    have hyes : Hid ((nums (uwL R T)).length < T.length → ∀ V, Below w.heap.size w V → ChR R n 0 i T V (.slice (some ad) (ints T).length tc)) := fun h V hV => .yes [] ⟨List.Pairwise.nil, fun x hx => by cases hx⟩ rfl (by simpa [BdL] using h) (fun m' _ b _ => by rw [hall m' b]; decide) ad _ _ (by simpa using hr.below hV (Nat.le_refl _))
    have hno : Hid (¬ (nums (uwL R T)).length < T.length → ∀ V, ChR R n 0 i T V (.slice none 0 0)) := fun h V => .no fun m _ b => by rw [hall m b]; simpa [BdL] using h
    have KB := hide' (bitsF (uwL R T) h64 w)
    clear hr hnil hA
    rw [← hTl] at hyes hno
    generalize (nums (uwL R T)).length = p at *
    generalize (ints T).length = tl at *
    clear hTl
    generalize uwL R T = u at *
    go_enter Tryd.func43, Tryd.ntmps43
    go_wp2_with fail
    refine KB.out.mono ?_
    rintro e w1 ⟨rfl, rfl⟩
    by_cases hlt : p < tl
    · have hlt' : (p : Int) < (tl : Int) := by omega
      go_wp2
      go_ret
      exact ⟨_, rfl, hyes.out hlt _ (Below.refl _ _), Below.refl _ _⟩
    · have hlt' : ¬ (p : Int) < (tl : Int) := by omega
      go_wp2
      go_ret
      exact ⟨_, rfl, hno.out hlt _, Below.refl _ _⟩
  | k + 1, i, T, ta, tc, w, hA, hr, hnil, hlen, hpos, hi => by
    have IH := hide' (chooseR hn k)
    have hA' := hide' hA
    have hr' := hide' hr
    have hnil' := hide' hnil
    have h64 := uwL_lt hA.word T
    have hnil2 : Hid (ints T = [] → ta = none ∧ tc = 0) := fun h => hnil (by simpa [ints] using h)
    clear hA hr hnil
    obtain ⟨K, hK⟩ : ∃ K, K = k + 1 := ⟨_, rfl⟩
    have hK' := hide' hK
    have hKa : K ≤ k + 1 := by omega
    have hKb : k + 1 ≤ K := by omega
    have hK0 : ((K : Int) == 0) = false := by simp; omega
    rw [← hK]
    clear hK
    go_enter Tryd.func43, Tryd.ntmps43
    go_wp2
    go_loopw [1] (fun p wr => ∃ j : Nat, i ≤ j ∧ j ≤ n ∧ p = .int .i64 (j : Int) ∧ Hid (∀ h m, h < j → Inc i n (h :: m) → m.length = k → ¬ BdL R (T ++ h :: m)) ∧ Hid (Below w.heap.size w wr)) (fun p _ => ((n : Int) - intOf p).toNat)
    case atStart => exact ⟨i, Nat.le_refl _, hi, rfl, fun h m hh hi' => absurd (Inc.cons.1 hi').1 (by omega), Below.refl _ _⟩
    case round =>
      obtain ⟨j, hij, hjn, rfl, hno, hB⟩ := hrel
      by_cases hlt : j + K ≤ n
      · have hlt' : (j : Int) + (K : Int) ≤ (n : Int) := by omega
        obtain ⟨oa', cap', e0, hcells⟩ := hA'.out.rw
        cases e0
        obtain ⟨g, o, rfl, hcz⟩ := hcells j (by omega)
        clear hcells
        have hT12 : (ints T).length ≤ 12 := by rw [I.ints_len]; omega
        have hjlt : (j : Int) < (n : Int) := by omega
        have hRj := hA'.out.word j
        have hor := u64_or_nat (uwL R T) (R j) h64 hRj
        have hsn := hide' (uwL_snoc R T j)
        have hrw : Hid (I.RowI wr (.slice ta (ints T).length tc) (ints T)) := hr'.out.below hB.out (Nat.le_refl _)
        have hcell : Hid (∀ V, Below w.heap.size w V → V.cell? ⟨g, o + j, none⟩ = some (.int .u64 (R j : Int))) := fun V hV => (hV.cell (p := ⟨g, o + j, none⟩) (cell_lt hcz)).trans hcz
        have hsnI : ints (T ++ [j]) = ints T ++ [(j : Int)] := by simp [ints]
        have KR : Hid (∀ (X : World) (v : Value) (jj kk uu : Int), jj = (j : Int) + 1 → kk = (k : Int) → uu = ((uwL R T ||| R j : Nat) : Int) → Below w.heap.size w X → X.ownsRow wr.heap.size 3 1 v (ints T ++ [(j : Int)]).length (I.cellsI (ints T ++ [(j : Int)])) → Calls Tryd.prog 43 #[.slice (some ⟨g, o, none⟩) n cap, .int .i64 jj, .int .i64 kk, v, .int .u64 uu] X fun e w' => ∃ v, e = .returned v ∧ Hid (ChR R n k (j + 1) (T ++ [j]) w' v) ∧ Hid (Below X.heap.size X w')) := by
          rintro X v jj kk uu rfl rfl rfl hX hO
          obtain ⟨g', c', rfl⟩ := owns_someM hO (by simp)
          have hR := I.RowI.of_owns hO
          rw [← hsnI] at hR ⊢
          rw [← hsn.out]
          exact IH.out (j + 1) (T ++ [j]) _ c' X (hA'.out.over hX) hR (fun h => absurd h (by simp)) (by simp; omega) (by simp; omega) (by omega)
        have hfnd : Hid (∀ V ad c cap, ChR R n k (j + 1) (T ++ [j]) V (.slice (some ad) c cap) → ChR R n K i T V (.slice (some ad) c cap)) := fun V ad c cap h => by rw [hK'.out]; exact ChR.found hij hno.out h (by omega)
        have hskip : Hid (∀ V, ChR R n k (j + 1) (T ++ [j]) V (.slice none 0 0) → ∀ h m, h < j + 1 → Inc i n (h :: m) → m.length = k → ¬ BdL R (T ++ h :: m)) := fun V hc h m hh a b => by
          by_cases e : h = j
          · subst e
            cases hc with
            | no hc => simpa using hc m (Inc.cons.1 a).2.2 b
          · exact hno.out h m (by omega) a b
        have hw1 : IntKind.i64.wrap ((j : Int) + 1) = (j : Int) + 1 := by simp only [IntKind.wrap, IntKind.bits, IntKind.signed]; simp; omega
        have hw2 : IntKind.i64.wrap ((K : Int) - 1) = (K : Int) - 1 := by simp only [IntKind.wrap, IntKind.bits, IntKind.signed]; simp; omega
        have hBs := hB.out.size
        clear hcz hno
        generalize uwL R T ||| R j = uj at *
        go_wp2_with (at_builtin; refine app_allI rfl (.tmp 29) (.tmp 30) wr ta tc (ints T) rfl rfl rfl hrw.out hnil2.out (by omega) ?_; intro v2 w2 hO2 hb2)
        have hB2 : Hid (Below w.heap.size w w2) := hB.out.trans (hb2.out.mono hB.out.size)
        have hBd : Hid (Below w.heap.size w w2.drew) := hB2.out.drew
        have hBa : Hid (Below w.heap.size w (w2.drew.alloc (.cells #[.int .i64 (j : Int)] 3))) := hBd.out.alloc hBd.out.size _
        go_region_held3 (fun V => V.cell? ⟨g, o + j, none⟩ = some (.int .u64 (R j : Int))) (first | (exact hcell.out _ hBd.out) | (exact hcell.out _ hBa.out) | (exact hcell.out _ hB4.out) | (exact hcell.out _ hb3.out)) (first | (rw [if_pos (by rfl)]; refine app_oneI (.tmp 37) (.tmp 39) wr.heap.size w2.drew _ (ints T) (j : Int) rfl rfl rfl hO2.out hb2.out.size (by omega) ?_; intro v3 w3 hO3 hb3'; have hb3 : Hid (Below w.heap.size w w3) := hBd.out.trans (hb3'.out.mono hBs)) | (go_at_call 43; refine (KR.out _ _ _ _ _ (by omega) (by omega) (by omega) hb3.out hO3.out).mono ?_; rintro e w4 ⟨v4, rfl, hC, hb4⟩; have hB4 : Hid (Below w.heap.size w w4) := hb3.out.trans (hb4.out.mono hb3.out.size)))
        all_goals
          rcases hC.out.shape with rfl | ⟨ad, c, cp, rfl⟩
          · have hE := eq_nilN w4
            go_wp2
            go_roundw
            case rel => exact ⟨j + 1, by omega, by omega, by go_num, hskip.out _ hC.out, hB4⟩
            case measure => simp [intOf]; omega
          · have hE := ne_nilN ad c cp w4
            go_wp2
            go_ret
            exact ⟨_, rfl, hfnd.out _ _ _ _ hC.out, hB4.out⟩
      · have hlt' : ¬ (j : Int) + (K : Int) ≤ (n : Int) := by omega
        have hend : Hid (∀ V, ChR R n K i T V (.slice none 0 0)) := fun V => .no fun m a b => by
          rw [hK'.out] at b
          cases m with
          | nil => simp at b
          | cons x m =>
            simp only [List.length_cons, Nat.add_right_cancel_iff] at b
            by_cases hx : x < j
            · exact hno.out x m hx a b
            · have := Inc.len (Inc.cons.2 ⟨Nat.le_refl x, (Inc.cons.1 a).2⟩) (by simp)
              simp only [List.length_cons] at this
              omega
        go_wp2
        go_ret
        exact ⟨_, rfl, hend.out _, hB.out⟩
end
end Go.Proofs.YthjgbnehoiafhaaDoor.M
