/- The document's Digits, Text, Full; and two rows held against each other. -/
import Derived.Test.YtpbjmdkfijlooaaGreatDoorRefOne
import Derived.Laws.Concat
import Derived.BigRegion
namespace Go.Proofs.YtpbjmdkfijlooaaGreatDoor
open Go.RowKit
theorem byte_of (n : Nat) (h : n < 10) : 48 + (n : Int) = (((UInt8.ofNat (48 + n)).toNat : Nat) : Int) := by
  have : (UInt8.ofNat (48 + n)).toNat = 48 + n := by rw [UInt8.toNat_ofNat']; omega
  rw [this]
  omega
theorem bytes_one {W : World} {g : Nat} {z : Int} {b : UInt8} (hz : z = (b.toNat : Int)) (h : W.cell? ⟨g, 0, none⟩ = some (.int .u8 z)) : Lib.Bytes W g 0 ⟨#[b]⟩ := by
  intro i hi
  have : i = 0 := by simp [ByteArray.size] at hi; omega
  subst this
  rw [Nat.add_zero, h, hz]
  rfl
theorem conv_one {z : Int} {b : UInt8} (hz : z = (b.toNat : Int)) (W : World) (g : Nat) (h : W.cell? ⟨g, 0, none⟩ = some (.int .u8 z)) :
    (convert 53 9 (.slice (some ⟨g, 0, none⟩) 1 1)).run Tryz.prog W = .ok (.string ⟨#[b]⟩) W :=
  Lib.run_convert_whole (P := Tryz.prog) W 53 5 9 Tryz.underlying53 Tryz.underlying5 Tryz.underlying9 g 0 ⟨#[b]⟩ (bytes_one hz h) 1
set_option maxRecDepth 100000 in
set_option maxHeartbeats 1000000 in
theorem refDigitsA (n : Nat) (h : n < 10) (w : World) :
    Calls Tryz.prog 39 #[.int .i64 n] w fun e w' => e = .returned (.string ⟨(dig n).toArray⟩) ∧ Below w.heap.size w w' := by
  have hcv := conv_one (byte_of n h) (w.alloc (.cells #[.int .u8 (48 + (n : Int))] 5)) w.heap.size (by simp)
  have e : dig n = [UInt8.ofNat (48 + n)] := if_pos h
  rw [e]
  generalize UInt8.ofNat (48 + n) = b at *
  clear e
  go_enter Tryz.func39, Tryz.ntmps39
  go_wp2
  go_ret
  exact ⟨rfl, (Below.refl _ _).alloc (Nat.le_refl _) _⟩
set_option maxRecDepth 100000 in
set_option maxHeartbeats 600000 in
theorem refDigits (n : Nat) (h : n < 64) (w : World) :
    Calls Tryz.prog 39 #[.int .i64 n] w fun e w' => e = .returned (.string ⟨(dig n).toArray⟩) ∧ Below w.heap.size w w' := by
  by_cases h1 : n < 10
  · exact refDigitsA n h1 w
  · have e : dig n = [UInt8.ofNat (48 + n / 10)] ++ [UInt8.ofNat (48 + n % 10)] := if_neg h1
    have e1 : dig (n / 10) = [UInt8.ofNat (48 + n / 10)] := if_pos (by omega)
    have K := hide' (refDigitsA (n / 10) (by omega))
    rw [e1] at K
    have q1 : IntKind.i64.wrap ((n : Int) / 10) = ((n / 10 : Nat) : Int) := by
      simp only [IntKind.wrap, IntKind.bits, IntKind.signed]; simp; omega
    have q2 : IntKind.u8.wrap (IntKind.i64.wrap (48 + (n : Int).tmod 10)) = 48 + ((n % 10 : Nat) : Int) := by
      rw [Int.tmod_eq_emod_of_nonneg (by omega)]
      simp only [IntKind.wrap, IntKind.bits, IntKind.signed]; simp; omega
    have hcv2 := conv_one (byte_of (n % 10) (by omega))
    rw [e]
    clear e e1
    generalize UInt8.ofNat (48 + n / 10) = b1 at *
    generalize UInt8.ofNat (48 + n % 10) = b2 at *
    generalize 48 + ((n % 10 : Nat) : Int) = z at *
    have hcv := fun W : World => hcv2 (W.alloc (.cells #[.int .u8 z] 5)) W.heap.size (by simp)
    have hadd := fun W => run_string_add_sum (P := Tryz.prog) (w := W) ⟨#[b1]⟩ ⟨#[b2]⟩ (by show 1 + 1 ≤ 9223372036854775807; decide)
    have hw2 : Hid (((w.alloc (.cells #[.int .u8 z] 5)).drew).cell? ⟨w.heap.size, 0, none⟩ = some (.int .u8 z) ∧ w.heap.size < ((w.alloc (.cells #[.int .u8 z] 5)).drew).heap.size) := ⟨by simp, by show _ < (w.alloc _).heap.size; simp⟩
    have hcvD := hcv2 ((w.alloc (.cells #[.int .u8 z] 5)).drew) w.heap.size hw2.out.1
    replace hcv2 := hide' hcv2
    generalize n / 10 = q at *
    go_enter Tryz.func39, Tryz.ntmps39
    go_wp2
    go_region_with (first | (go_at_call 39; refine (K.out ((w.alloc (.cells #[.int .u8 z] 5)).drew)).mono ?_; rintro e w1 ⟨rfl, hb1⟩; have hq := hcv2.out w1 w.heap.size ((hb1.cell (p := ⟨w.heap.size, 0, none⟩) hw2.out.2).trans hw2.out.1)) | (go_at_call 39; refine (K.out _).mono ?_; rintro e w1 ⟨rfl, hb1⟩))
    all_goals go_wp2
    all_goals go_ret
    all_goals first | exact ⟨rfl, ((Below.refl _ w).drew.trans hb1).alloc hb1.size _⟩ | exact ⟨rfl, (((Below.refl _ w).alloc (Nat.le_refl _) _).drew.trans (hb1.mono (by show w.heap.size ≤ (w.alloc _).heap.size; simp)))⟩
theorem txt_gt {l : List (Fin 64)} (h : l ≠ []) : 1 < (txt l).length := by
  have e := List.dropLast_concat_getLast h
  rw [← e, txt_snoc, txtStep]
  have h1 := txt_len l.dropLast
  have h2 := dig_len (l.getLast h).val
  split <;> simp <;> omega
theorem txt_take {l : List (Fin 64)} {c : Nat} {j : Fin 64} (hj : l[c]? = some j) :
    txt (l.take (c + 1)) = (if 0 < c then txt (l.take c) ++ [44] else txt (l.take c)) ++ dig j.val := by
  obtain ⟨hlt, _⟩ := List.getElem?_eq_some_iff.1 hj
  rw [take_more hj, txt_snoc, txtStep]
  by_cases h : 0 < c
  · rw [if_pos h, if_pos (txt_gt (fun e => by have := congrArg List.length e; rw [List.length_take, List.length_nil] at this; omega))]
  · obtain rfl : c = 0 := by omega
    rw [if_neg h, if_neg (by simp [txt])]
theorem ba_app (a b : List UInt8) : (⟨a.toArray⟩ : ByteArray) ++ ⟨b.toArray⟩ = ⟨(a ++ b).toArray⟩ := by
  apply ByteArray.ext
  simp
theorem ba_size (a : List UInt8) : (⟨a.toArray⟩ : ByteArray).size = a.length := by simp [ByteArray.size]
set_option maxRecDepth 100000 in
set_option maxHeartbeats 2000000 in
theorem refText (x : Nat) (hx : x < 18446744073709551616) (w : World) :
    Calls Tryz.prog 18 #[.int .u64 x] w fun e w' => e = .returned (.string ⟨(txt (nums x) ++ [125]).toArray⟩) ∧ Below w.heap.size w w' := by
  have hnl := nums_len x
  have KP : Hid _ := refPlaces x 64 hx (Nat.le_refl _)
  go_enter Tryz.func18, Tryz.ntmps18
  go_wp2_with (go_at_call 30; refine (KP.out _).mono ?_; rintro e w1 ⟨v, rfl, hrow, hb⟩; obtain ⟨oa, cap, rfl⟩ := owns_shape hrow)
  have hrow' := hide' hrow
  clear hrow
  go_loopw [3, 5] (fun s k wr => ∃ (c : Nat) (S : ByteArray), c ≤ (nums x).length ∧ k = .int .i64 c ∧ s = .string S ∧ Hid (S = ⟨(txt ((nums x).take c)).toArray⟩) ∧ S.size ≤ 1 + 3 * c ∧ Below w1.heap.size w1 wr) (fun _ k _ => ((nums x).length - intOf k).toNat)
  case atStart => exact ⟨0, _, Nat.zero_le _, rfl, rfl, rfl, by decide, Below.refl _ _⟩
  case round =>
    obtain ⟨c, S, hc, rfl, rfl, hS, hsz, hB⟩ := hrel
    by_cases hlt : c < (nums x).length
    · obtain ⟨j, hj⟩ : ∃ j, (nums x)[c]? = some j := ⟨_, List.getElem?_eq_getElem hlt⟩
      obtain ⟨g, cap', hvs⟩ := owns_form hrow'.out (by omega)
      cases hvs
      have cJ1 := row_cell hrow'.out hj
      have hgl := owns_lt hrow'.out g rfl
      have KD : Hid _ := refDigits j.val j.isLt
      have hN := txt_take hj
      have hD := dig_len j.val
      obtain ⟨D, hDe⟩ : ∃ D : ByteArray, D = ⟨(dig j.val).toArray⟩ := ⟨_, rfl⟩
      rw [← hDe] at KD
      have hDs : D.size ≤ 2 := by rw [hDe, ba_size]; omega
      have cJ := (hB.cell (p := ⟨g, c, none⟩) hgl).trans cJ1
      by_cases h0 : 0 < c
      · rw [if_pos h0] at hN
        have hN' : Hid ((S ++ ⟨#[44]⟩) ++ D = ⟨(txt ((nums x).take (c + 1))).toArray⟩) := by
          show _ = _
          rw [hN, hS.out, hDe, ← ba_app, ← ba_app]
        have s1 : (S ++ ⟨#[44]⟩ : ByteArray).size = S.size + 1 := by rw [ByteArray.size_append]; rfl
        have hadd1 := fun W => run_string_add_sum (P := Tryz.prog) (w := W) S ⟨#[44]⟩ (by show S.size + 1 ≤ _; omega)
        have hadd2 := fun W => run_string_add_sum (P := Tryz.prog) (w := W) (S ++ ⟨#[44]⟩) D (by rw [s1]; omega)
        have s2 : Hid (((S ++ ⟨#[44]⟩) ++ D : ByteArray).size ≤ 1 + 3 * (c + 1)) := by show _ ≤ _; rw [ByteArray.size_append, s1]; omega
        clear hN hj hDe hD hx KP cJ1 s1
        generalize hn : (nums x).length = n at *
        go_wp2_with (go_at_call 39; refine (KD.out _).mono ?_; rintro e w3 ⟨rfl, hb3⟩)
        exact ⟨⟨c + 1, _, by omega, by go_num, rfl, hN', s2.out, hB.trans (hb3.mono hB.size)⟩, by simp [intOf]; omega⟩
      · obtain rfl : c = 0 := by omega
        rw [if_neg h0] at hN
        have hN' : Hid (S ++ D = ⟨(txt ((nums x).take (0 + 1))).toArray⟩) := by
          show _ = _
          rw [hN, hS.out, hDe, ← ba_app]
        have hadd3 := fun W => run_string_add_sum (P := Tryz.prog) (w := W) S D (by omega)
        have s2 : Hid ((S ++ D : ByteArray).size ≤ 1 + 3 * (0 + 1)) := by show _ ≤ _; rw [ByteArray.size_append]; omega
        clear hN hj hDe hD hx KP cJ1
        generalize hn : (nums x).length = n at *
        go_wp2_with (go_at_call 39; refine (KD.out _).mono ?_; rintro e w3 ⟨rfl, hb3⟩)
        exact ⟨⟨0 + 1, _, by omega, by go_num, rfl, hN', s2.out, hB.trans (hb3.mono hB.size)⟩, by simp [intOf]; omega⟩
    · obtain rfl : c = (nums x).length := by omega
      have e : Hid (S ++ ⟨#[125]⟩ = ⟨(txt (nums x) ++ [125]).toArray⟩) := by
        show _ = _
        rw [hS.out, List.take_length, ← ba_app]
      have hadd4 := fun W => run_string_add_sum (P := Tryz.prog) (w := W) S ⟨#[125]⟩ (by show S.size + 1 ≤ _; omega)
      clear hx KP hS
      generalize (nums x).length = n at *
      go_wp2
      go_ret
      exact ⟨by rw [← e.out]; rfl, hb.trans (hB.mono hb.size)⟩
theorem or_low (c : Nat) : (2 ^ c - 1) ||| 2 ^ c = 2 ^ (c + 1) - 1 := by
  apply Nat.eq_of_testBit_eq; intro i
  rw [Nat.testBit_or, Nat.testBit_two_pow_sub_one, Nat.testBit_two_pow, Nat.testBit_two_pow_sub_one]
  by_cases h : i < c
  · simp [h]; omega
  · by_cases h2 : c = i
    · subst h2; simp
    · simp [h, h2]; omega
set_option maxRecDepth 100000 in
set_option maxHeartbeats 2000000 in
theorem refFull (wd : Nat) (hw : wd ≤ 64) (w : World) :
    Calls Tryz.prog 22 #[.int .i64 wd] w fun e w' => e = .returned (.int .u64 ((2 ^ wd - 1 : Nat) : Int)) ∧ w' = w := by
  go_enter Tryz.func22, Tryz.ntmps22
  go_wp2
  go_loopw [3, 4] (fun s k wr => wr = w ∧ ∃ (c m : Nat), c ≤ wd ∧ k = .int .i64 c ∧ s = .int .u64 m ∧ Hid (m = 2 ^ c - 1)) (fun _ k _ => ((wd : Int) - intOf k).toNat)
  case atStart => exact ⟨rfl, 0, 0, Nat.zero_le _, rfl, rfl, rfl⟩
  case round =>
    obtain ⟨rfl, c, m, hc, rfl, rfl, hm⟩ := hrel
    by_cases hlt : c < wd
    · have KO : Hid _ := refOne c (by omega)
      have hml : m < 18446744073709551616 := by
        rw [hm.out]
        have : (2 : Nat) ^ c ≤ 2 ^ 64 := Nat.pow_le_pow_right (by decide) (by omega)
        have := Nat.two_pow_pos c
        omega
      have hpl : (2 : Nat) ^ c < 18446744073709551616 := Nat.lt_of_lt_of_le (Nat.pow_lt_pow_right (by decide) (show c < 64 by omega)) (by decide)
      have hN : Hid ((m ||| 2 ^ c : Nat) = 2 ^ (c + 1) - 1) := by show _ = _; rw [hm.out]; exact or_low c
      have ho := u64_or_nat m (2 ^ c) hml hpl
      generalize (2 ^ c : Nat) = p at *
      generalize (m ||| p : Nat) = q at *
      go_wp2_with (go_at_call 41; refine (KO.out _).mono ?_; rintro e w3 ⟨rfl, rfl⟩)
      exact ⟨⟨trivial, c + 1, q, by omega, by go_num, rfl, hN⟩, by simp [intOf]; omega⟩
    · obtain rfl : c = wd := by omega
      go_wp2
      go_ret
      exact ⟨ret_int (by rw [hm.out]), rfl⟩
/-- A row of numbers, wherever it lies. -/
def RowI (w : World) (v : Value) (l : List Int) : Prop := ∃ oa cap, v = .slice oa l.length cap ∧ ∀ i z, l[i]? = some z → ∃ g o, oa = some ⟨g, o, none⟩ ∧ w.cell? ⟨g, o + i, none⟩ = some (.int .i64 z)
set_option maxRecDepth 100000 in
set_option maxHeartbeats 2000000 in
theorem keepInts (la lb : List Int) (va vb : Value) (w : World) (ha : RowI w va la) (hb : RowI w vb lb) (hn : la.length ≤ 1000000) (hm : lb.length ≤ 1000000) :
    Calls Tryz.prog 58 #[va, vb] w fun e w' => e = .returned (.bool (decide (la = lb))) ∧ Below w.heap.size w w' := by
  obtain ⟨oa, ca, rfl, hca⟩ := ha
  obtain ⟨ob, cb, rfl, hcb⟩ := hb
  by_cases hl : la.length = lb.length
  · have hca' := hide' hca
    have hcb' := hide' hcb
    clear hca hcb
    go_enter Tryz.func58, Tryz.ntmps58
    go_wp2
    go_loopw [5] (fun k wr => Below w.heap.size w wr ∧ ∃ (c : Nat), c ≤ la.length ∧ k = .int .i64 c ∧ Hid (la.take c = lb.take c)) (fun k _ => ((la.length : Int) - intOf k).toNat)
    case atStart => exact ⟨Below.refl _ _, 0, Nat.zero_le _, rfl, by show _ = _; simp⟩
    case round =>
      obtain ⟨hB, c, hc, rfl, hE⟩ := hrel
      by_cases hlt : c < la.length
      · obtain ⟨x, hx⟩ : ∃ x, la[c]? = some x := ⟨_, List.getElem?_eq_getElem hlt⟩
        obtain ⟨y, hy⟩ : ∃ y, lb[c]? = some y := ⟨_, List.getElem?_eq_getElem (by omega)⟩
        obtain ⟨ga, o1, rfl, c1'⟩ := hca'.out c x hx
        obtain ⟨gb, o2, rfl, c2'⟩ := hcb'.out c y hy
        have c1 := (hB.cell (p := ⟨ga, o1 + c, none⟩) (cell_lt c1')).trans c1'
        have c2 := (hB.cell (p := ⟨gb, o2 + c, none⟩) (cell_lt c2')).trans c2'
        clear c1' c2'
        have hx' := hide' hx
        have hy' := hide' hy
        have hltb : c < lb.length := by omega
        by_cases hxy : x = y
        · subst hxy
          clear hx hy
          go_wp2
          go_region
          go_wp2
          exact ⟨⟨hB.drew, c + 1, by omega, by go_num, by show _ = _; rw [List.take_add_one, List.take_add_one, hE.out, hx'.out, hy'.out]⟩, by simp [intOf]; omega⟩
        · have hd : (x != y) = true := by simpa using hxy
          clear hx hy
          go_wp2
          go_region
          go_wp2
          go_ret
          exact ⟨ret_bool (by rw [eq_comm]; simp only [decide_eq_false_iff_not]; intro e; subst e; rw [hx'.out] at hy'; exact hxy (Option.some.inj hy'.out)), hB.drew⟩
      · obtain rfl : c = la.length := by omega
        have e : Hid (la = lb) := by
          show _ = _
          have := hE.out
          rwa [List.take_length, hl, List.take_length] at this
        clear hE hca' hcb'
        go_wp2
        go_ret
        exact ⟨ret_bool (by simp [e.out]), hB⟩
  · have hd : ((la.length : Int) != (lb.length : Int)) = true := by rw [bne_iff_ne]; omega
    clear hca hcb
    go_enter Tryz.func58, Tryz.ntmps58
    go_wp2
    go_ret
    exact ⟨ret_bool (by rw [eq_comm]; simp only [decide_eq_false_iff_not]; intro e; exact hl (by rw [e])), Below.refl _ _⟩
theorem rowI_of {w : World} {n₀ : Nat} {v : Value} {n : Nat} {l : List (Fin 64)} (h : w.ownsRow n₀ 3 1 v n (intsOf l)) : RowI w v (l.map fun j => (j.val : Int)) := by
  have hl : n = l.length := by have := h.1; simp [intsOf] at this; omega
  obtain ⟨oa, cap, rfl⟩ := owns_shape h
  subst hl
  refine ⟨oa, cap, by simp, fun i z hz => ?_⟩
  rw [List.getElem?_map] at hz
  cases hj : l[i]? with
  | none => rw [hj] at hz; cases hz
  | some j =>
    rw [hj] at hz; cases hz
    obtain ⟨hi, _⟩ := List.getElem?_eq_some_iff.1 hj
    obtain ⟨g, cap', hvs⟩ := owns_form h (by omega)
    cases hvs
    exact ⟨g, 0, rfl, by rw [Nat.zero_add]; exact row_cell h hj⟩
theorem RowI.below {w w' : World} {v : Value} {l : List Int} {n : Nat} (h : RowI w v l) (hb : Below n w w') (hn : w.heap.size ≤ n) : RowI w' v l := by
  obtain ⟨oa, cap, e, h⟩ := h
  refine ⟨oa, cap, e, fun i z hz => ?_⟩
  obtain ⟨g, o, e1, e2⟩ := h i z hz
  exact ⟨g, o, e1, (hb.cell (p := ⟨g, o + i, none⟩) (Nat.lt_of_lt_of_le (cell_lt e2) hn)).trans e2⟩
end Go.Proofs.YtpbjmdkfijlooaaGreatDoor
