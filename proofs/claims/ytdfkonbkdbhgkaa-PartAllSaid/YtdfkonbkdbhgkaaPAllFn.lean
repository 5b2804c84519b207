/- First, later, All: what they answer. -/
import Derived.Test.YtdfkonbkdbhgkaaPSeq
import Derived.Sort.LoopGhostIn
namespace Go.Proofs.Ytdfkonbkdbhgkaa
open Go.RowKit Go.Shelf
attribute [local go_sem] Oper.semAt_some
theorem ints_zeros (n : Nat) : cellsI (ints (List.replicate n 0)) = List.replicate n (.int .i64 0) := by simp [cellsI, ints]
theorem rk_zeros0 : ∀ n : Nat, rk 0 (List.replicate n 0) = 0
  | 0 => rfl
  | n + 1 => by rw [List.replicate_succ, rk, show max 0 (0 + 1) = 1 from rfl, rk_zeros 1 n (Nat.le_refl _)]; omega
theorem own_lt' {w : World} {B : Nat} {e : TypeId} {size g n m cap : Nat} {xs : List Value} (h : w.ownsRow B e size (.slice (some ⟨g, 0, none⟩) n cap) m xs) : g < w.heap.size := by
  rcases h.2 with ⟨h, _⟩ | ⟨g', cap', cur, e1, e2, e3, e4⟩
  · cases h
  · cases e1; exact (Array.getElem?_eq_some_iff.1 e3).1
set_option maxRecDepth 100000 in
set_option maxHeartbeats 1000000 in
theorem firstT (n : Nat) (hn : n ≤ 25) (w : World) :
    Calls Try.prog 18 #[.int .i64 n] w fun e w' => e = .returned (.tuple #[.slice (some ⟨w.heap.size, 0, none⟩) n n, .int .i64 0]) ∧
      w'.ownsRow w.heap.size 3 1 (.slice (some ⟨w.heap.size, 0, none⟩) n n) n (cellsI (ints (List.replicate n 0))) ∧ w.grownBy w' none := by
  obtain ⟨i0, hi, hz0, hz1, hz2⟩ := info_parts info3
  have KF : Hid (Calls Try.prog 23 #[.int .i64 n] w fun e w' => e = .returned (.bool true) ∧ w' = w) := by
    have := fits (n : Int) w
    rwa [decide_eq_true (by omega : (0 : Int) ≤ n), decide_eq_true (by omega : (n : Int) ≤ 25)] at this
  go_enter Try.func18, Try.ntmps18
  go_wp2_with (first | (go_at_call 23; refine KF.out.mono ?_; rintro e w1 ⟨rfl, rfl⟩) | (at_make; refine wpList_make_full _ rfl _ _ 26 rfl w1.heap.size 3 i0 (.int .i64 0) 1 Try.underlying26 hi hz0 hz1 .i64 .i64 _ _ n rfl rfl rfl rfl (by rw [hz2]; omega) (by unfold maxLen; omega) (by simp) ?_; intro w2 hrow hgrow))
  refine bodyPost_ret (v := .tuple #[.slice (some ⟨w1.heap.size, 0, none⟩) n n, .int .i64 0]) (by simp [results, Try.results18, go_sem]) rfl ⟨rfl, ?_, hgrow⟩
  have h := hrow
  rw [show (Value.int .i64 0).cells = #[.int .i64 0] from rfl, toList_madeCells_one, Nat.mul_one] at h
  rw [ints_zeros]
  exact h
set_option maxRecDepth 100000 in
set_option maxHeartbeats 1000000 in
theorem firstF (n : Int) (hn : ¬ (0 ≤ n ∧ n ≤ 25)) (w : World) :
    Calls Try.prog 18 #[.int .i64 n] w fun e w' => e = .returned (.tuple #[.slice none 0 0, .int .i64 1]) ∧ w' = w := by
  have KF : Hid (Calls Try.prog 23 #[.int .i64 n] w fun e w' => e = .returned (.bool false) ∧ w' = w) := by
    have := fits n w
    rwa [show (decide (0 ≤ n) && decide (n ≤ 25)) = false by rw [Bool.eq_false_iff]; intro h; rw [Bool.and_eq_true, decide_eq_true_eq, decide_eq_true_eq] at h; exact hn h] at this
  go_enter Try.func18, Try.ntmps18
  go_wp2_with (go_at_call 23; refine KF.out.mono ?_; rintro e w1 ⟨rfl, rfl⟩)
  exact bodyPost_ret (v := .tuple #[.slice none 0 0, .int .i64 1]) (by simp [results, Try.results18, go_sem]) rfl ⟨rfl, rfl⟩
set_option maxRecDepth 100000 in
set_option maxHeartbeats 2000000 in
theorem laterT (p t s : List Nat) (x y : Nat) (hxy : x < y) (va vb : Value) (w : World) (ha : RowI w va (ints (p ++ x :: t))) (hb : RowI w vb (ints (p ++ y :: s))) (hp : p.length ≤ 1000) :
    Calls Try.prog 8 #[va, vb] w fun e w' => e = .returned (.bool true) ∧ Below w.heap.size w w' := by
  obtain ⟨oa, ca, rfl, _, hca⟩ := ha
  obtain ⟨ob, cb, rfl, _, hcb⟩ := hb
  have hca' := hide' hca
  have hcb' := hide' hcb
  clear hca hcb
  rw [ints_len, ints_len]
  have hla : (p ++ x :: t).length = p.length + t.length + 1 := by simp; omega
  have hlb : (p ++ y :: s).length = p.length + s.length + 1 := by simp; omega
  rw [hla, hlb]
  have hxy' : (x : Int) < (y : Int) := by omega
  go_enter Try.func8, Try.ntmps8
  go_wp2
  go_loopw [5] (fun k wr => ∃ c : Nat, c ≤ p.length ∧ k = .int .i64 c ∧ Below w.heap.size w wr) (fun k _ => ((p.length : Int) - intOf k).toNat)
  case atStart => exact ⟨0, Nat.zero_le _, rfl, Below.refl _ _⟩
  case round =>
    obtain ⟨c, hc, rfl, hB⟩ := hrel
    by_cases hlt : c < p.length
    · obtain ⟨u, hu⟩ : ∃ u, p[c]? = some u := ⟨_, List.getElem?_eq_getElem hlt⟩
      have e1 : (ints (p ++ x :: t))[c]? = some (u : Int) := ints_at (by rw [List.getElem?_append_left hlt]; exact hu)
      have e2 : (ints (p ++ y :: s))[c]? = some (u : Int) := ints_at (by rw [List.getElem?_append_left hlt]; exact hu)
      obtain ⟨g, o, rfl, c1⟩ := hca'.out c _ e1
      obtain ⟨g2, o2, rfl, c2⟩ := hcb'.out c _ e2
      have c1' := (hB.cell (p := ⟨g, o + c, none⟩) (cell_lt c1)).trans c1
      have c2' := (hB.cell (p := ⟨g2, o2 + c, none⟩) (cell_lt c2)).trans c2
      have hI6 : (0 : Int) ≤ (c : Int) := by omega
      have hI7 : (c : Int) < (p.length : Int) + (t.length : Int) + 1 := by omega
      have hI8 : (c : Int) < (p.length : Int) + (s.length : Int) + 1 := by omega
      clear hu e1 e2 c1 c2 hla hlb
      go_wp2
      go_region
      all_goals go_wp2
      all_goals exact ⟨⟨c + 1, by omega, by go_num, hB.drew⟩, by simp [intOf]; omega⟩
    · obtain rfl : c = p.length := by omega
      have e1 : (ints (p ++ x :: t))[p.length]? = some (x : Int) := ints_at (by rw [List.getElem?_append_right (Nat.le_refl _)]; simp)
      have e2 : (ints (p ++ y :: s))[p.length]? = some (y : Int) := ints_at (by rw [List.getElem?_append_right (Nat.le_refl _)]; simp)
      obtain ⟨g, o, rfl, c1⟩ := hca'.out _ _ e1
      obtain ⟨g2, o2, rfl, c2⟩ := hcb'.out _ _ e2
      have c1' := (hB.cell (p := ⟨g, o + p.length, none⟩) (cell_lt c1)).trans c1
      have c2' := (hB.cell (p := ⟨g2, o2 + p.length, none⟩) (cell_lt c2)).trans c2
      generalize hpl : p.length = q at *
      have hne : ((x : Int) == (y : Int)) = false := by simp; omega
      have hI6 : (0 : Int) ≤ (q : Int) := by omega
      have hI7 : (q : Int) < (q : Int) + (t.length : Int) + 1 := by omega
      have hI8 : (q : Int) < (q : Int) + (s.length : Int) + 1 := by omega
      clear e1 e2 c1 c2 hla hlb
      go_wp2
      go_region
      all_goals go_wp2
      all_goals go_region
      all_goals go_wp2
      all_goals go_ret
      all_goals exact ⟨rfl, hB.drew.drew⟩
/-- What lies before a round: a pattern in new memory, the next one. -/
def HxP (n : Nat) (pre : List (Value × List Nat)) (g0 : Nat) (V0 V : World) (x : Value × List Nat) : Prop :=
  (g0 < V0.heap.size ∧ V0.grownBy V (some g0)) ∧ V.ownsRow V0.heap.size 3 1 x.1 x.2.length (cellsI (ints x.2)) ∧ x.2.length = n ∧ Leg 0 x.2 ∧ rk 0 x.2 = pre.length ∧
    ∀ y, pre.getLast? = some y → ∃ p u t, y.2 = p ++ u :: t ∧ x.2 = p ++ (u + 1) :: List.replicate t.length 0
/-- Where the iterator stands. -/
def AllSt (g0 n : Nat) (wr : World) (pre : List (Value × List Nat)) : Bool → Prop
  | true => ∃ li : List Nat, wr.ownsRow g0 3 1 (.slice (some ⟨g0, 0, none⟩) n n) n (cellsI (ints li)) ∧ li.length = n ∧ Leg 0 li ∧ rk 0 li = pre.length ∧ ∀ y, pre.getLast? = some y → ∃ p u t, y.2 = p ++ u :: t ∧ li = p ++ (u + 1) :: List.replicate t.length 0
  | false => pre.length = ways n 0
theorem own_block {w w' : World} {B e size g n m cap : Nat} {xs : List Value} (h : w.ownsRow B e size (.slice (some ⟨g, 0, none⟩) n cap) m xs) (hb : w'.heap[g]? = w.heap[g]?) : w'.ownsRow B e size (.slice (some ⟨g, 0, none⟩) n cap) m xs := by
  refine ⟨h.1, ?_⟩
  rcases h.2 with ⟨h, _⟩ | ⟨g', cap', cur, e1, e2, e3, e4⟩
  · cases h
  · cases e1; exact .inr ⟨_, _, cur, rfl, e2, hb.trans e3, e4⟩
set_option maxHeartbeats 400000 in
theorem bellF (n : Int) (hn : ¬ (0 ≤ n ∧ n ≤ 25)) (w : World) :
    Calls Try.prog 10 #[.int .i64 n] w fun e w' => e = .returned (.tuple #[.int .u64 0, .int .i64 1]) ∧ w' = w := by
  have KF : Hid (Calls Try.prog 23 #[.int .i64 n] w fun e w' => e = .returned (.bool false) ∧ w' = w) := by
    have := fits n w
    rwa [show (decide (0 ≤ n) && decide (n ≤ 25)) = false by rw [Bool.eq_false_iff]; intro h; rw [Bool.and_eq_true, decide_eq_true_eq, decide_eq_true_eq] at h; exact hn h] at this
  go_enter Try.func10, Try.ntmps10
  go_wp2_with (go_at_call 23; refine KF.out.mono ?_; rintro e w1 ⟨rfl, rfl⟩)
  exact bodyPost_ret (v := .tuple #[.int .u64 0, .int .i64 1]) (by simp [results, Try.results10, go_sem]) rfl ⟨rfl, rfl⟩
theorem eql_fnA (lb : Array Value) (w : World) : (binOp .eql 23 (.func (.func 17) #[] lb) .nilFunc).run Try.prog w = .ok (.bool false) w := by
  kernel_rfl
theorem allFn (n : Int) (w : World) :
    Calls Try.prog 5 #[.int .i64 n] w fun e w' => e = .returned (.func (.func 17) #[] #[.pointer (some ⟨w.heap.size, 0, none⟩)]) ∧ w' = w.alloc (.cells #[.int .i64 n] 3) := by
  go_enter Try.func5, Try.ntmps5
  go_wp2
  go_ret
  exact ⟨rfl, rfl⟩
set_option maxRecDepth 100000 in
set_option maxHeartbeats 2000000 in
theorem allF_seq (k Bn : Nat) (n : Int) (hn : ¬ (0 ≤ n ∧ n ≤ 25)) (Hx : List (Value × List Nat) → Nat → World → World → Value × List Nat → Prop) (w : World) (hBn : Bn < w.heap.size) (hc : w.cell? ⟨Bn, 0, none⟩ = some (.int .i64 n)) :
    SeqP k Try.prog 17 #[.pointer (some ⟨Bn, 0, none⟩)] (fun x : Value × List Nat => #[x.1]) Hx (fun xs => xs = []) (fun _ => False) w := by
  intro l J Jx W hW hJ hY h0
  have hc1 := (hW.cell (p := ⟨Bn, 0, none⟩) hBn).trans hc
  refine callsIn_wide.2 ?_
  have KF := hide' (firstF n hn W)
  go_enter Try.func17, Try.ntmps17
  go_wp2_with (go_at_call 18; refine KF.out.mono ?_; rintro e w1 ⟨rfl, rfl⟩)
  refine wp_loop_rounds 1 ?_
  rw [rounds_succ]
  go_wp2
  go_end0
  exact ⟨⟨_, rfl⟩, .inl ⟨[], rfl, h0⟩⟩
set_option maxRecDepth 100000 in
set_option maxHeartbeats 4000000 in
theorem allT_seq (k Bn n : Nat) (hn : n ≤ 25) (w : World) (hBn : Bn < w.heap.size) (hc : w.cell? ⟨Bn, 0, none⟩ = some (.int .i64 (n : Int))) :
    SeqP k Try.prog 17 #[.pointer (some ⟨Bn, 0, none⟩)] (fun x : Value × List Nat => #[x.1]) (HxP n) (fun xs => xs.length = ways n 0) (fun _ => True) w := by
  intro l J Jx W hW hJ hY h0
  have hc1 := (hW.cell (p := ⟨Bn, 0, none⟩) hBn).trans hc
  have KF := hide' (firstT n hn W)
  refine callsIn_of_wp Try.func17 rfl trivial ?_ rfl
  simp only [Try.ntmps17, List.size_toArray, List.length_cons, List.length_nil, Nat.reduceAdd, Nat.reduceSub, Array.replicate_succ, Array.replicate_zero, List.push_toArray, List.append_toArray, List.nil_append, List.cons_append]
  gi_wp2_with (refine ⟨trivial, fun h => absurd h (by decide), ?_⟩; gi_at_call 18; refine (callsIn_wide.2 KF.out).mono ?_; rintro e w1 ⟨rfl, hrow, hgr⟩)
  have h01 : J [] w1 := hJ _ _ _ h0 (hgr.but _)
  have hsz : W.heap.size < w1.heap.size := own_lt' hrow
  gi_loopg [5] (ways n 0 + 1) (fun g m wr => ∃ (pre : List (Value × List Nat)) (b : Bool), m = .bool b ∧ J pre wr ∧ W.heap.size < wr.heap.size ∧ AllSt W.heap.size n wr pre b ∧ Hid (g = ways n 0 + 1 - pre.length))
  case atStart =>
    exact ⟨[], true, rfl, h01, hsz, ⟨List.replicate n 0, hrow, by simp, Leg.zeros 0 n, rk_zeros0 n, fun y h => by cases h⟩, rfl⟩
  case round =>
    obtain ⟨pre, b, rfl, hJp, hsr, hst, hg⟩ := hrel
    cases b with
    | false =>
      have hf : pre.length = ways n 0 := hst
      have hf' := hide' hf
      clear hf hst hg
      gi_wp2
      go_end0
      exact ⟨⟨_, rfl⟩, .inl ⟨pre, hf'.out, hJp⟩⟩
    | true =>
      obtain ⟨li, hro, hle, hleg, hrk, hlast⟩ := hst
      subst hle
      have KC := hide' (clone (ints li) _ wr (RowI.of_owns hro) (by rw [ints_len]; omega))
      rw [ints_len] at KC
      have hleg' := hide' hleg
      have hrk' := hide' hrk
      have hlast' := hide' hlast
      have hro' := hide' hro
      clear hrow hc hc1 hleg hrk hlast hro
      gi_wp2_with (refine ⟨trivial, fun h => absurd h (by decide), ?_⟩; gi_at_call 20; refine (callsIn_wide.2 KC.out).mono ?_; rintro e w2 ⟨v, rfl, hown, hb2⟩; obtain ⟨fn, tmps, assign, body, hy, hR⟩ := hY pre (v, li) wr w2 hJp ⟨⟨hsr, grown_any hb2 _⟩, hown, rfl, hleg'.out, hrk'.out, hlast'.out⟩)
      refine ⟨fun h => absurd h (by decide), hR.mono ?_⟩
      have hro2 := own_below hro'.out hb2 (Nat.le_refl _)
      have hs2 := hb2.size
      rintro e W3 (⟨rfl, hJ3, hs3, hk3⟩ | ⟨rfl, hJx3⟩)
      · have hro3 := own_block hro2 hk3
        have KR := hide' (raiseG W.heap.size W.heap.size li.length li W3 hro3 hn hleg'.out)
        clear hro2 hro3 hown KC
        gi_wp2_with (refine ⟨trivial, fun h => absurd h (by decide), ?_⟩; gi_at_call 19; refine (callsIn_wide.2 KR.out).mono ?_)
        rintro e W4 (⟨rfl, ⟨p, x, t, h1, h2, h3, h4⟩, _, hgr4⟩ | ⟨rfl, h1, _, hgr4⟩)
        · have hJ4 := hJ _ _ _ hJ3 hgr4
          have hrn := rk_next h2 h3
          have hlen : (p ++ (x + 1) :: List.replicate t.length 0).length = li.length := by rw [h1]; simp
          have hleg4 : Leg 0 (p ++ (x + 1) :: List.replicate t.length 0) := Leg.next (t := t) (by rw [← h1]; exact hleg'.out) h2 _
          have hlt := rk_lt hleg'.out
          have h1' := hide' h1
          have hrn' := hide' hrn
          have hlen' := hide' hlen
          clear h1 hrn hlen
          gi_wp2
          go_roundg (ways li.length 0 + 1 - (pre.length + 1))
          case measure => rw [hg.out]; have := hrk'.out; omega
          case rel =>
            refine ⟨pre ++ [(v, li)], true, rfl, hJ4, ?_, ⟨_, h4, hlen'.out, hleg4, ?_, ?_⟩, by show _ = _; simp⟩
            · have := hgr4.size; omega
            · rw [hrn'.out, ← h1'.out, hrk'.out]; simp
            · intro y hy'
              rw [List.getLast?_concat] at hy'
              cases hy'
              exact ⟨p, x, t, h1'.out, rfl⟩
        · have hJ4 := hJ _ _ _ hJ3 hgr4
          have hfu := rk_full h1
          have hfu' := hide' hfu
          clear hfu
          gi_wp2
          go_roundg (ways li.length 0 + 1 - (pre.length + 1))
          case measure => rw [hg.out]; have := hrk'.out; have := hfu'.out; omega
          case rel =>
            refine ⟨pre ++ [(v, li)], false, rfl, hJ4, ?_, ?_, by show _ = _; simp⟩
            · have := hgr4.size; omega
            · show (pre ++ [(v, li)]).length = ways li.length 0
              rw [← hfu'.out, hrk'.out]; simp
      · gi_wp2
        refine bodyPost_ret (results_none rfl _ _ _) rfl ?_
        exact ⟨⟨_, rfl⟩, .inr ⟨pre ++ [(v, li)], trivial, hJx3⟩⟩
end Go.Proofs.Ytdfkonbkdbhgkaa
