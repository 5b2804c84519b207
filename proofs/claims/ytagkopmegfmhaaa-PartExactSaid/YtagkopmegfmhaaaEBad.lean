/- The program's functions at rows that are no patterns, and at numbers that are none of theirs. -/
import Derived.Test.YtagkopmegfmhaaaEMath
import Derived.Test.YtagkopmegfmhaaaPJoinQ
import Derived.Test.YtagkopmegfmhaaaPRank
import Derived.Test.YtagkopmegfmhaaaPBlkFn
import Derived.Test.YtagkopmegfmhaaaPUs
namespace Go.Proofs.Ytagkopmegfmhaaa
open Go.RowKit
set_option maxRecDepth 100000 in
set_option maxHeartbeats 1000000 in
theorem legalB (l : List Int) (v : Value) (w : World) (hr : RowI w v l) (hn : l.length ≤ 1000) :
    Calls Try.prog 23 #[v] w fun e w' => e = .returned (.bool (Lg l)) ∧ w' = w := by
  obtain ⟨oa, cap, rfl, _, hc⟩ := hr
  have hc' := hide' hc
  clear hc
  have KF : Hid (∀ W, Calls Try.prog 12 #[.int .i64 l.length] W fun e w' => e = .returned (.bool (decide (l.length ≤ 25))) ∧ w' = W) := fun W => by
    have := fits l.length W
    rwa [show (decide ((0 : Int) ≤ (l.length : Int)) && decide ((l.length : Int) ≤ 25)) = decide (l.length ≤ 25) by simp; omega] at this
  by_cases h25 : l.length ≤ 25
  · rw [decide_eq_true h25] at KF
    have hLg : Hid (Lg l = legB 0 l) := by show _ = _; unfold Lg; rw [decide_eq_true h25]; rfl
    go_enter Try.func23, Try.ntmps23
    go_wp2_with (go_at_call 12; refine (KF.out _).mono ?_; rintro e w1 ⟨rfl, rfl⟩)
    go_loop [3, 12] (fun m k => ∃ c b : Nat, c ≤ l.length ∧ k = .int .i64 c ∧ m = .int .i64 (b : Int) ∧ b ≤ c ∧ Hid (legB b (l.drop c) = legB 0 l)) (fun _ k => (l.length - intOf k).toNat)
    case atStart => exact ⟨0, 0, Nat.zero_le _, rfl, rfl, Nat.le_refl _, rfl⟩
    case round =>
      obtain ⟨c, b, hc, rfl, rfl, hm, hE⟩ := hrel
      by_cases hlt : c < l.length
      · obtain ⟨x, hx⟩ : ∃ x, l[c]? = some x := ⟨_, List.getElem?_eq_getElem hlt⟩
        obtain ⟨g, o, rfl, cx⟩ := hc'.out c x hx
        have hS := hide' (legB_at (b := b) hx)
        clear hx
        by_cases h0 : x < 0
        · have hF : Hid (legB 0 l = false) := by show _ = _; rw [← hE.out, hS.out, decide_eq_false (by omega)]; rfl
          clear hS hE
          generalize hn' : l.length = n at *
          go_wp2
          go_ret
          exact ⟨ret_bool (by rw [hLg.out, hF.out]), rfl⟩
        · have d0 : decide (x < 0) = false := decide_eq_false h0
          by_cases h1 : (b : Int) < x
          · have hF : Hid (legB 0 l = false) := by show _ = _; rw [← hE.out, hS.out, decide_eq_false (p := x ≤ (b : Int)) (by omega), Bool.and_false]; rfl
            clear hS hE
            generalize hn' : l.length = n at *
            go_wp2
            go_ret
            exact ⟨ret_bool (by rw [hLg.out, hF.out]), rfl⟩
          · have d1 : decide ((b : Int) < x) = false := decide_eq_false h1
            have hE2 : Hid (legB (max b (x.toNat + 1)) (l.drop (c + 1)) = legB 0 l) := by
              show _ = _
              rw [← hE.out, hS.out, decide_eq_true (by omega), decide_eq_true (by omega)]; rfl
            have hN' : Hid (((max b (x.toNat + 1) : Nat) : Int) = if (b : Int) < x + 1 then x + 1 else (b : Int)) := by show _ = _; split <;> omega
            have hN2 : Hid (max b (x.toNat + 1) ≤ c + 1) := by show _ ≤ _; omega
            clear hS hE
            generalize hn' : l.length = n at *
            go_wp2
            go_round
            case rel => exact ⟨c + 1, max b (x.toNat + 1), by omega, by go_num, by rw [hN'.out], hN2.out, hE2⟩
            case measure => simp [intOf]; omega
      · obtain rfl : c = l.length := by omega
        have hT : Hid (legB 0 l = true) := by show _ = _; rw [← hE.out, List.drop_length]; rfl
        clear hE
        go_wp2
        go_ret
        exact ⟨ret_bool (by rw [hLg.out, hT.out]), rfl⟩
  · rw [decide_eq_false h25] at KF
    have hLg : Hid (Lg l = false) := by show _ = _; unfold Lg; rw [decide_eq_false h25]; rfl
    go_enter Try.func23, Try.ntmps23
    go_wp2_with (go_at_call 12; refine (KF.out _).mono ?_; rintro e w1 ⟨rfl, rfl⟩)
    go_ret
    exact ⟨ret_bool (by rw [hLg.out]), rfl⟩
section
variable (l : List Int) (v : Value) (w : World) (hr : RowI w v l) (hn : l.length ≤ 1000) (hb : Lg l = false)
include hr hn hb
theorem legalN : Calls Try.prog 23 #[v] w fun e w' => e = .returned (.bool false) ∧ w' = w := by
  have := legalB l v w hr hn
  rwa [hb] at this
set_option maxRecDepth 100000 in
set_option maxHeartbeats 400000 in
theorem nextB : Calls Try.prog 20 #[v] w fun e w' => e = .returned (.tuple #[.slice none 0 0, .bool false]) ∧ w' = w := by
  have KL := hide' (legalN l v w hr hn hb)
  obtain ⟨oa, cap, rfl, _, _⟩ := hr
  go_enter Try.func20, Try.ntmps20
  go_wp2_with (go_at_call 23; refine KL.out.mono ?_; rintro e w1 ⟨rfl, rfl⟩)
  exact bodyPost_ret (v := .tuple #[.slice none 0 0, .bool false]) (by simp [results, Try.results20, go_sem]) rfl ⟨rfl, rfl⟩
set_option maxRecDepth 100000 in
set_option maxHeartbeats 400000 in
theorem prevB : Calls Try.prog 21 #[v] w fun e w' => e = .returned (.tuple #[.slice none 0 0, .bool false]) ∧ w' = w := by
  have KL := hide' (legalN l v w hr hn hb)
  obtain ⟨oa, cap, rfl, _, _⟩ := hr
  go_enter Try.func21, Try.ntmps21
  go_wp2_with (go_at_call 23; refine KL.out.mono ?_; rintro e w1 ⟨rfl, rfl⟩)
  exact bodyPost_ret (v := .tuple #[.slice none 0 0, .bool false]) (by simp [results, Try.results21, go_sem]) rfl ⟨rfl, rfl⟩
set_option maxRecDepth 100000 in
set_option maxHeartbeats 400000 in
theorem rankB : Calls Try.prog 22 #[v] w fun e w' => e = .returned (.tuple #[.int .u64 0, .int .i64 3]) ∧ w' = w := by
  have KL := hide' (legalN l v w hr hn hb)
  obtain ⟨oa, cap, rfl, _, _⟩ := hr
  go_enter Try.func22, Try.ntmps22
  go_wp2_with (go_at_call 23; refine KL.out.mono ?_; rintro e w1 ⟨rfl, rfl⟩)
  exact bodyPost_ret (v := .tuple #[.int .u64 0, .int .i64 3]) (by simp [results, Try.results22, go_sem]) rfl ⟨rfl, rfl⟩
set_option maxRecDepth 100000 in
set_option maxHeartbeats 400000 in
theorem sizeB : Calls Try.prog 25 #[v] w fun e w' => e = .returned (.int .i64 0) ∧ w' = w := by
  have KL := hide' (legalN l v w hr hn hb)
  obtain ⟨oa, cap, rfl, _, _⟩ := hr
  go_enter Try.func25, Try.ntmps25
  go_wp2_with (go_at_call 23; refine KL.out.mono ?_; rintro e w1 ⟨rfl, rfl⟩)
  go_ret
  exact ⟨rfl, rfl⟩
set_option maxRecDepth 100000 in
set_option maxHeartbeats 400000 in
theorem blocksB : Calls Try.prog 28 #[v] w fun e w' => e = .returned (.slice none 0 0) ∧ w' = w := by
  have KL := hide' (legalN l v w hr hn hb)
  obtain ⟨oa, cap, rfl, _, _⟩ := hr
  go_enter Try.func28, Try.ntmps28
  go_wp2_with (go_at_call 23; refine KL.out.mono ?_; rintro e w1 ⟨rfl, rfl⟩)
  go_ret
  exact ⟨rfl, rfl⟩
set_option maxRecDepth 100000 in
set_option maxHeartbeats 400000 in
theorem mergeB (i j : Int) : Calls Try.prog 33 #[v, .int .i64 i, .int .i64 j] w fun e w' => e = .returned (.tuple #[.slice none 0 0, .int .i64 3]) ∧ w' = w := by
  have KL := hide' (legalN l v w hr hn hb)
  obtain ⟨oa, cap, rfl, _, _⟩ := hr
  go_enter Try.func33, Try.ntmps33
  go_wp2_with (go_at_call 23; refine KL.out.mono ?_; rintro e w1 ⟨rfl, rfl⟩)
  exact bodyPost_ret (v := .tuple #[.slice none 0 0, .int .i64 3]) (by simp [results, Try.results33, go_sem]) rfl ⟨rfl, rfl⟩
end
/-- Patterns of one length? -/
def Ak (a b : List Int) : Bool := decide (a.length = b.length) && Lg a && Lg b
section
variable (a b : List Int) (va vb : Value) (w : World) (ra : RowI w va a) (rb : RowI w vb b) (hna : a.length ≤ 1000) (hnb : b.length ≤ 1000)
include ra rb hna hnb
set_option maxRecDepth 100000 in
set_option maxHeartbeats 400000 in
theorem alikeB : Calls Try.prog 48 #[va, vb] w fun e w' => e = .returned (.bool (Ak a b)) ∧ w' = w := by
  have K1 := hide' (legalB a va w ra hna)
  have K2 := hide' (legalB b vb w rb hnb)
  obtain ⟨oa, ca, rfl, _, _⟩ := ra
  obtain ⟨ob, cb, rfl, _, _⟩ := rb
  by_cases hl : a.length = b.length
  · have hld : ((a.length : Int) == (b.length : Int)) = true := by simp; omega
    have hA : Hid (Ak a b = (Lg a && Lg b)) := by show _ = _; unfold Ak; rw [decide_eq_true hl]; rfl
    clear hl
    cases h1 : Lg a
    · rw [h1] at K1
      go_enter Try.func48, Try.ntmps48
      go_wp2_with (first | (go_at_call 23; refine K1.out.mono ?_; rintro e w1 ⟨rfl, rfl⟩))
      go_ret
      exact ⟨ret_bool (by rw [hA.out, h1]; rfl), rfl⟩
    · rw [h1] at K1
      go_enter Try.func48, Try.ntmps48
      go_wp2_with fail
      refine K1.out.mono ?_
      rintro e w1 ⟨rfl, rfl⟩
      go_wp2_with fail
      refine K2.out.mono ?_
      rintro e w2 ⟨rfl, rfl⟩
      go_wp2
      go_ret
      exact ⟨ret_bool (by rw [hA.out, h1]; rfl), rfl⟩
  · have hld : ((a.length : Int) == (b.length : Int)) = false := by simp; omega
    have hA : Hid (Ak a b = false) := by show _ = _; unfold Ak; rw [decide_eq_false hl]; rfl
    clear hl
    go_enter Try.func48, Try.ntmps48
    go_wp2
    go_ret
    exact ⟨ret_bool hA.out.symm, rfl⟩
theorem alikeN (hb : Ak a b = false) : Calls Try.prog 48 #[va, vb] w fun e w' => e = .returned (.bool false) ∧ w' = w := by
  have := alikeB a b va vb w ra rb hna hnb
  rwa [hb] at this
set_option maxRecDepth 100000 in
set_option maxHeartbeats 400000 in
theorem meetB (hb : Ak a b = false) : Calls Try.prog 31 #[va, vb] w fun e w' => e = .returned (.tuple #[.slice none 0 0, .int .i64 3]) ∧ w' = w := by
  have KL := hide' (alikeN a b va vb w ra rb hna hnb hb)
  obtain ⟨oa, ca, rfl, _, _⟩ := ra
  obtain ⟨ob, cb, rfl, _, _⟩ := rb
  go_enter Try.func31, Try.ntmps31
  go_wp2_with (go_at_call 48; refine KL.out.mono ?_; rintro e w1 ⟨rfl, rfl⟩)
  exact bodyPost_ret (v := .tuple #[.slice none 0 0, .int .i64 3]) (by simp [results, Try.results31, go_sem]) rfl ⟨rfl, rfl⟩
set_option maxRecDepth 100000 in
set_option maxHeartbeats 400000 in
theorem joinB (hb : Ak a b = false) : Calls Try.prog 32 #[va, vb] w fun e w' => e = .returned (.tuple #[.slice none 0 0, .int .i64 3]) ∧ w' = w := by
  have KL := hide' (alikeN a b va vb w ra rb hna hnb hb)
  obtain ⟨oa, ca, rfl, _, _⟩ := ra
  obtain ⟨ob, cb, rfl, _, _⟩ := rb
  go_enter Try.func32, Try.ntmps32
  go_wp2_with (go_at_call 48; refine KL.out.mono ?_; rintro e w1 ⟨rfl, rfl⟩)
  exact bodyPost_ret (v := .tuple #[.slice none 0 0, .int .i64 3]) (by simp [results, Try.results32, go_sem]) rfl ⟨rfl, rfl⟩
set_option maxRecDepth 100000 in
set_option maxHeartbeats 400000 in
theorem finerB (hb : Ak a b = false) : Calls Try.prog 34 #[va, vb] w fun e w' => e = .returned (.bool false) ∧ Below w.heap.size w w' := by
  have KL := hide' (meetB a b va vb w ra rb hna hnb hb)
  obtain ⟨oa, ca, rfl, _, _⟩ := ra
  obtain ⟨ob, cb, rfl, _, _⟩ := rb
  go_enter Try.func34, Try.ntmps34
  go_wp2_with (go_at_call 31; refine KL.out.mono ?_; rintro e w1 ⟨rfl, rfl⟩)
  go_ret
  exact ⟨rfl, Below.refl _ _⟩
end
set_option maxRecDepth 100000 in
set_option maxHeartbeats 400000 in
theorem ofB (l : List Int) (v : Value) (w : World) (hr : RowI w v l) (hn : l.length ≤ 1000) (hb : 25 < l.length) : Calls Try.prog 5 #[v] w fun e w' => e = .returned (.tuple #[.slice none 0 0, .int .i64 2]) ∧ w' = w := by
  have KF : Hid (∀ W, Calls Try.prog 12 #[.int .i64 l.length] W fun e w' => e = .returned (.bool false) ∧ w' = W) := fun W => by
    have := fits l.length W
    rwa [show (decide ((0 : Int) ≤ (l.length : Int)) && decide ((l.length : Int) ≤ 25)) = false by simp; omega] at this
  obtain ⟨oa, cap, rfl, _, _⟩ := hr
  go_enter Try.func5, Try.ntmps5
  go_wp2_with (go_at_call 12; refine (KF.out _).mono ?_; rintro e w1 ⟨rfl, rfl⟩)
  exact bodyPost_ret (v := .tuple #[.slice none 0 0, .int .i64 2]) (by simp [results, Try.results5, go_sem]) rfl ⟨rfl, rfl⟩
section
variable (n : Int) (w : World) (hb : n < 0 ∨ 25 < n)
include hb
theorem fitsB : ∀ W, Calls Try.prog 12 #[.int .i64 n] W fun e w' => e = .returned (.bool false) ∧ w' = W := fun W => by
  have := fits n W
  rwa [show (decide ((0 : Int) ≤ n) && decide (n ≤ 25)) = false by simp; omega] at this
set_option maxRecDepth 100000 in
set_option maxHeartbeats 400000 in
theorem bellB : Calls Try.prog 13 #[.int .i64 n] w fun e w' => e = .returned (.tuple #[.int .u64 0, .int .i64 1]) ∧ w' = w := by
  have KF := hide' (fitsB n hb)
  go_enter Try.func13, Try.ntmps13
  go_wp2_with (go_at_call 12; refine (KF.out _).mono ?_; rintro e w1 ⟨rfl, rfl⟩)
  exact bodyPost_ret (v := .tuple #[.int .u64 0, .int .i64 1]) (by simp [results, Try.results13, go_sem]) rfl ⟨rfl, rfl⟩
set_option maxRecDepth 100000 in
set_option maxHeartbeats 400000 in
theorem firstB : Calls Try.prog 14 #[.int .i64 n] w fun e w' => e = .returned (.tuple #[.slice none 0 0, .int .i64 1]) ∧ w' = w := by
  have KF := hide' (fitsB n hb)
  go_enter Try.func14, Try.ntmps14
  go_wp2_with (go_at_call 12; refine (KF.out _).mono ?_; rintro e w1 ⟨rfl, rfl⟩)
  exact bodyPost_ret (v := .tuple #[.slice none 0 0, .int .i64 1]) (by simp [results, Try.results14, go_sem]) rfl ⟨rfl, rfl⟩
set_option maxRecDepth 100000 in
set_option maxHeartbeats 400000 in
theorem lastB : Calls Try.prog 15 #[.int .i64 n] w fun e w' => e = .returned (.tuple #[.slice none 0 0, .int .i64 1]) ∧ w' = w := by
  have KF := hide' (fitsB n hb)
  go_enter Try.func15, Try.ntmps15
  go_wp2_with (go_at_call 12; refine (KF.out _).mono ?_; rintro e w1 ⟨rfl, rfl⟩)
  exact bodyPost_ret (v := .tuple #[.slice none 0 0, .int .i64 1]) (by simp [results, Try.results15, go_sem]) rfl ⟨rfl, rfl⟩
set_option maxRecDepth 100000 in
set_option maxHeartbeats 400000 in
theorem atB (r : Int) : Calls Try.prog 16 #[.int .i64 n, .int .u64 r] w fun e w' => e = .returned (.tuple #[.slice none 0 0, .int .i64 1]) ∧ w' = w := by
  have KF := hide' (bellB n w hb)
  go_enter Try.func16, Try.ntmps16
  go_wp2_with (go_at_call 13; refine KF.out.mono ?_; rintro e w1 ⟨rfl, rfl⟩)
  exact bodyPost_ret (v := .tuple #[.slice none 0 0, .int .i64 1]) (by simp [results, Try.results16, go_sem]) rfl ⟨rfl, rfl⟩
end
set_option maxRecDepth 100000 in
set_option maxHeartbeats 400000 in
theorem atR (n : Nat) (hn : n ≤ 25) (r : Nat) (hr : ways n 0 ≤ r) (w : World) : Calls Try.prog 16 #[.int .i64 n, .int .u64 r] w fun e w' => e = .returned (.tuple #[.slice none 0 0, .int .i64 1]) ∧ Below w.heap.size w w' := by
  have KF := hide' (bellP n hn w)
  have h1 : ((ways n 0 : Nat) : Int) ≤ (r : Int) := by omega
  clear hr
  generalize ways n 0 = x at *
  go_enter Try.func16, Try.ntmps16
  go_wp2_with (go_at_call 13; refine KF.out.mono ?_; rintro e w1 ⟨rfl, hB⟩)
  exact bodyPost_ret (v := .tuple #[.slice none 0 0, .int .i64 1]) (by simp [results, Try.results16, go_sem]) rfl ⟨rfl, hB⟩
set_option maxRecDepth 100000 in
set_option maxHeartbeats 400000 in
theorem isPlaceB (oa : Option Addr) (n cap : Nat) (i : Int) (w : World) : Calls Try.prog 51 #[.slice oa n cap, .int .i64 i] w fun e w' => e = .returned (.bool (decide (0 ≤ i) && decide (i < (n : Int)))) ∧ w' = w := by
  by_cases h0 : 0 ≤ i
  · go_enter Try.func51, Try.ntmps51
    go_wp2
    go_ret
    exact ⟨ret_bool (by simp [h0]), rfl⟩
  · have hd : decide (0 ≤ i) = false := decide_eq_false h0
    go_enter Try.func51, Try.ntmps51
    go_wp2
    go_ret
    exact ⟨ret_bool (by simp), rfl⟩
set_option maxRecDepth 100000 in
set_option maxHeartbeats 400000 in
theorem mergeI (l : List Nat) (n : Nat) (oa : Option Addr) (cap : Nat) (i j : Int) (w : World) (hr : RowI w (.slice oa n cap) (ints l)) (hln : l.length = n) (hn : n ≤ 25) (hL : Leg 0 l) (hb : i < 0 ∨ (n : Int) ≤ i ∨ j < 0 ∨ (n : Int) ≤ j) : Calls Try.prog 33 #[.slice oa n cap, .int .i64 i, .int .i64 j] w fun e w' => e = .returned (.tuple #[.slice none 0 0, .int .i64 1]) ∧ w' = w := by
  have KL := hide' (legalT l _ w hr (by omega) hL)
  have K1 := hide' (isPlaceB oa n cap i w)
  have K2 := hide' (isPlaceB oa n cap j w)
  by_cases hi : 0 ≤ i ∧ i < (n : Int)
  · rw [show (decide (0 ≤ i) && decide (i < (n : Int))) = true by simp [hi.1, hi.2]] at K1
    rw [show (decide (0 ≤ j) && decide (j < (n : Int))) = false by simp; omega] at K2
    go_enter Try.func33, Try.ntmps33
    go_wp2_with fail
    refine KL.out.mono ?_
    rintro e w1 ⟨rfl, rfl⟩
    go_wp2_with fail
    refine K1.out.mono ?_
    rintro e w1 ⟨rfl, rfl⟩
    go_wp2_with fail
    refine K2.out.mono ?_
    rintro e w1 ⟨rfl, rfl⟩
    go_wp2
    exact bodyPost_ret (v := .tuple #[.slice none 0 0, .int .i64 1]) (by simp [results, Try.results33, go_sem]) rfl ⟨rfl, rfl⟩
  · rw [show (decide (0 ≤ i) && decide (i < (n : Int))) = false by simp; omega] at K1
    go_enter Try.func33, Try.ntmps33
    go_wp2_with fail
    refine KL.out.mono ?_
    rintro e w1 ⟨rfl, rfl⟩
    go_wp2_with fail
    refine K1.out.mono ?_
    rintro e w1 ⟨rfl, rfl⟩
    go_wp2
    exact bodyPost_ret (v := .tuple #[.slice none 0 0, .int .i64 1]) (by simp [results, Try.results33, go_sem]) rfl ⟨rfl, rfl⟩
end Go.Proofs.Ytagkopmegfmhaaa
