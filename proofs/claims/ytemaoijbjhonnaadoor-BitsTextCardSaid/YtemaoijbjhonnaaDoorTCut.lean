/- strings.CutPrefix, CutSuffix, Cut of one byte: what they answer. -/
import Derived.Test.YtemaoijbjhonnaaDoorTRead
import Derived.Lib.Strings
import Derived.Laws.Externs
import Derived.OwnWalk
namespace Go.Proofs.YtemaoijbjhonnaaDoor
open Go.RowKit
theorem bs_ext (T : List UInt8) (a b : Nat) : (bs T).extract a b = bs ((T.drop a).take (b - a)) := by
  refine ByteArray.ext ?_
  rw [ByteArray.data_extract]
  show (T.toArray).extract a b = _
  refine Array.ext' ?_
  simp [bs, List.extract]
theorem bs_toList (T : List UInt8) : (bs T).toList = T := by rw [ByteArray.toList_eq, bs_list]
theorem beq_dec {α : Type} [BEq α] [LawfulBEq α] [DecidableEq α] (a b : α) : (a == b) = decide (a = b) := by
  rw [Bool.eq_iff_iff]; simp
set_option maxRecDepth 100000 in
set_option maxHeartbeats 2000000 in
theorem hasPre (T : List UInt8) (p : Bool) (hp : decide (T.head? = some 123) = p) (w : World) : Calls Tryd.prog 84 #[.string (bs T), .string ⟨#[123]⟩] w fun e w' => e = .returned (.bool p) ∧ w' = w := by
  have hsz := bs_size T
  have hx : (((bs T).extract 0 1).toList == [123]) = p := by
    rw [bs_ext, bs_toList, beq_dec, ← hp]
    cases T <;> simp
  cases T with
  | nil =>
    subst hp
    clear hx
    generalize hs : bs [] = s at *
    rw [List.length_nil] at hsz
    go_enter Tryd.func84, Tryd.ntmps84
    go_wp2
    go_ret
    exact ⟨rfl, rfl⟩
  | cons c t =>
    generalize hs : bs (c :: t) = s at *
    rw [List.length_cons] at hsz
    clear hp hs
    go_enter Tryd.func84, Tryd.ntmps84
    go_wp2
    go_ret
    exact ⟨rfl, rfl⟩
set_option maxRecDepth 100000 in
set_option maxHeartbeats 2000000 in
theorem hasSuf (T : List UInt8) (hm : T.length ≤ 9223372036854775807) (p : Bool) (hp : decide (T.getLast? = some 125) = p) (w : World) : Calls Tryd.prog 85 #[.string (bs T), .string ⟨#[125]⟩] w fun e w' => e = .returned (.bool p) ∧ w' = w := by
  have hsz := bs_size T
  have hx : (((bs T).extract (T.length - 1) T.length).toList == [125]) = p := by
    rw [bs_ext, bs_toList, beq_dec, ← hp]
    have e : (T.drop (T.length - 1)).take (T.length - (T.length - 1)) = T.getLast?.toList := by
      rw [List.take_of_length_le (by rw [List.length_drop]; omega)]
      cases h : T.getLast? with
      | none => rw [List.getLast?_eq_none_iff.1 h]; rfl
      | some x =>
        obtain ⟨q, rfl⟩ := List.getLast?_eq_some_iff.1 h
        simp
    rw [e]
    cases T.getLast? <;> simp
  by_cases h0 : T.length = 0
  · have : T = [] := List.eq_nil_of_length_eq_zero h0
    subst this
    subst hp
    clear hx
    generalize hs : bs [] = s at *
    rw [List.length_nil] at hsz
    go_enter Tryd.func85, Tryd.ntmps85
    go_wp2
    go_ret
    exact ⟨rfl, rfl⟩
  · generalize hs : bs T = s at *
    obtain ⟨k, hk⟩ : ∃ k, T.length = k + 1 := ⟨T.length - 1, by omega⟩
    rw [hk] at hsz hx hm
    rw [Nat.add_sub_cancel] at hx
    clear hp hs h0 hk
    go_enter Tryd.func85, Tryd.ntmps85
    go_wp2
    go_ret
    exact ⟨rfl, rfl⟩
def preR (T : List UInt8) : List UInt8 := if T.head? = some 123 then T.tail else T
def sufR (T : List UInt8) : List UInt8 := if T.getLast? = some 125 then T.dropLast else T
set_option maxRecDepth 100000 in
set_option maxHeartbeats 2000000 in
theorem cutPre0 (T : List UInt8) (w : World) : Calls Tryd.prog 76 #[.string (bs T), .string ⟨#[123]⟩] w fun e w' => e = .returned (.tuple #[.string (bs (preR T)), .bool (decide (T.head? = some 123))]) ∧ w' = w := by
  have hsz := bs_size T
  by_cases hp : T.head? = some 123
  · have KH := hideT (hasPre T true (by simpa using hp) w)
    have hr : Hid (preR T = T.tail) := if_pos hp
    have hx : (bs T).extract 1 T.length = bs T.tail := by
      rw [bs_ext, List.drop_one, List.take_of_length_le (by rw [List.length_tail]; exact Nat.le_refl _)]
    have hl : 1 ≤ T.length := by cases T with | nil => cases hp | cons => simp
    have hd : decide (T.head? = some 123) = true := by simpa using hp
    rw [hr.out, hd]
    generalize bs T.tail = s2 at *
    generalize hs : bs T = s at *
    clear hp hs hd
    go_enter Tryd.func76, Tryd.ntmps76
    go_wp2_with (go_at_call 84; refine KH.out.mono ?_; rintro e w1 ⟨rfl, rfl⟩)
    go_ret2
    exact ⟨rfl, rfl⟩
  · have KH := hideT (hasPre T false (by simpa using hp) w)
    have hr : Hid (preR T = T) := if_neg hp
    have hd : decide (T.head? = some 123) = false := by simpa using hp
    rw [hr.out, hd]
    generalize hs : bs T = s at *
    clear hp hs hd
    go_enter Tryd.func76, Tryd.ntmps76
    go_wp2_with (go_at_call 84; refine KH.out.mono ?_; rintro e w1 ⟨rfl, rfl⟩)
    go_ret2
    exact ⟨rfl, rfl⟩
set_option maxRecDepth 100000 in
set_option maxHeartbeats 2000000 in
theorem cutSuf0 (T : List UInt8) (hm : T.length ≤ 9223372036854775807) (w : World) : Calls Tryd.prog 77 #[.string (bs T), .string ⟨#[125]⟩] w fun e w' => e = .returned (.tuple #[.string (bs (sufR T)), .bool (decide (T.getLast? = some 125))]) ∧ w' = w := by
  have hsz := bs_size T
  by_cases hp : T.getLast? = some 125
  · have KH := hideT (hasSuf T hm true (by simpa using hp) w)
    have hr : Hid (sufR T = T.dropLast) := if_pos hp
    have hl : T ≠ [] := by rintro rfl; cases hp
    have hx : (bs T).extract 0 (T.length - 1) = bs T.dropLast := by
      rw [bs_ext, List.drop_zero, List.dropLast_eq_take]; rfl
    obtain ⟨k, hk⟩ : ∃ k, T.length = k + 1 := ⟨T.length - 1, by have := List.length_pos_iff.2 hl; omega⟩
    rw [hk] at hsz hx hm
    rw [Nat.add_sub_cancel] at hx
    have hd : decide (T.getLast? = some 125) = true := by simpa using hp
    rw [hr.out, hd]
    generalize bs T.dropLast = s2 at *
    generalize hs : bs T = s at *
    clear hp hs hd hl hk
    go_enter Tryd.func77, Tryd.ntmps77
    go_wp2_with (go_at_call 85; refine KH.out.mono ?_; rintro e w1 ⟨rfl, rfl⟩)
    go_ret2
    exact ⟨rfl, rfl⟩
  · have KH := hideT (hasSuf T hm false (by simpa using hp) w)
    have hr : Hid (sufR T = T) := if_neg hp
    have hd : decide (T.getLast? = some 125) = false := by simpa using hp
    rw [hr.out, hd]
    generalize hs : bs T = s at *
    clear hp hs hd
    go_enter Tryd.func77, Tryd.ntmps77
    go_wp2_with (go_at_call 85; refine KH.out.mono ?_; rintro e w1 ⟨rfl, rfl⟩)
    go_ret2
    exact ⟨rfl, rfl⟩
set_option maxHeartbeats 1000000 in
theorem cutPre (T : List UInt8) (w : World) : Calls Tryd.prog 57 #[.string (bs T), .string ⟨#[123]⟩] w fun e w' => e = .returned (.tuple #[.string (bs (preR T)), .bool (decide (T.head? = some 123))]) ∧ w' = w := by
  have K := hideT (cutPre0 T w)
  generalize decide (T.head? = some 123) = p at *
  generalize bs (preR T) = s2 at *
  generalize bs T = s at *
  go_enter Tryd.func57, Tryd.ntmps57
  go_wp2_with (go_at_call 76; refine K.out.mono ?_; rintro e w1 ⟨rfl, rfl⟩)
  go_ret2
  exact ⟨rfl, rfl⟩
set_option maxHeartbeats 1000000 in
theorem cutSuf (T : List UInt8) (hm : T.length ≤ 9223372036854775807) (w : World) : Calls Tryd.prog 58 #[.string (bs T), .string ⟨#[125]⟩] w fun e w' => e = .returned (.tuple #[.string (bs (sufR T)), .bool (decide (T.getLast? = some 125))]) ∧ w' = w := by
  have K := hideT (cutSuf0 T hm w)
  clear hm
  generalize decide (T.getLast? = some 125) = p at *
  generalize bs (sufR T) = s2 at *
  generalize bs T = s at *
  go_enter Tryd.func58, Tryd.ntmps58
  go_wp2_with (go_at_call 77; refine K.out.mono ?_; rintro e w1 ⟨rfl, rfl⟩)
  go_ret2
  exact ⟨rfl, rfl⟩
set_option maxHeartbeats 1000000 in
set_option maxRecDepth 100000 in
theorem idxByte (s : ByteArray) (w : World) : Calls Tryd.prog 91 #[.string s, .int .u8 44] w fun e w' => e = .returned (.int .i64 (Lib.indexByte s.data.toList 44)) ∧ w' = w := by
  go_enter Tryd.func91, Tryd.ntmps91
  go_wp2
  rw [run_callFunc_extern Tryd.func99 (by kernel_rfl) (by kernel_rfl) (by kernel_rfl) (e := Extern.BytealgIndexByte.indexByte) (by kernel_rfl), Lib.run_indexByteString]
  simp only [Result.andThen]
  rw [Oper.upon_value]
  go_wp2
  go_ret
  exact ⟨rfl, rfl⟩
set_option maxHeartbeats 2000000 in
set_option maxRecDepth 100000 in
theorem idxComma (s : ByteArray) (w : World) : Calls Tryd.prog 86 #[.string s, .string ⟨#[44]⟩] w fun e w' => e = .returned (.int .i64 (Lib.indexByte s.data.toList 44)) ∧ w' = w := by
  have K := hideT (idxByte s w)
  go_enter Tryd.func86, Tryd.ntmps86
  go_wp2_with (go_at_call 91; refine K.out.mono ?_; rintro e w1 ⟨rfl, hw⟩; obtain rfl : w = w1 := hw.symm)
  · have h : ([44] == s.toList) = true := by assumption
    go_ret
    refine ⟨?_, rfl⟩
    have e : s.data.toList = [44] := by rw [← Lib.toList_data]; exact (beq_iff_eq.1 h).symm
    rw [e]
    simp [Lib.indexByte]
  · go_ret
    exact ⟨rfl, rfl⟩
theorem idx_split : ∀ (T : List UInt8), ((∀ c ∈ T, c ≠ 44) ∧ Lib.indexByte T 44 = -1) ∨ ∃ p t, T = p ++ 44 :: t ∧ (∀ c ∈ p, c ≠ 44) ∧ Lib.indexByte T 44 = (p.length : Int)
  | [] => .inl ⟨fun c hc => (by cases hc), rfl⟩
  | c :: T => by
    by_cases hc : c = 44
    · subst hc
      exact .inr ⟨[], T, rfl, fun c hc => (by cases hc), (by simp [Lib.indexByte])⟩
    · have hb : (c == 44) = false := by simpa using hc
      rcases idx_split T with ⟨h1, h2⟩ | ⟨p, t, rfl, h1, h2⟩
      · refine .inl ⟨fun x hx => ?_, ?_⟩
        · rcases List.mem_cons.1 hx with rfl | hx
          · exact hc
          · exact h1 x hx
        · unfold Lib.indexByte
          rw [hb, h2]; rfl
      · refine .inr ⟨c :: p, t, rfl, fun x hx => ?_, ?_⟩
        · rcases List.mem_cons.1 hx with rfl | hx
          · exact hc
          · exact h1 x hx
        · unfold Lib.indexByte
          have hne : (((p.length : Nat) : Int) == -1) = false := by rw [beq_eq_false_iff_ne]; omega
          rw [hb, h2, hne]
          simp
set_option maxRecDepth 100000 in
set_option maxHeartbeats 2000000 in
theorem cutNo (T : List UInt8) (h : Lib.indexByte T 44 = -1) (w : World) : Calls Tryd.prog 59 #[.string (bs T), .string ⟨#[44]⟩] w fun e w' => e = .returned (.tuple #[.string (bs T), .string (bs []), .bool false]) ∧ w' = w := by
  have K : Hid (Calls Tryd.prog 86 #[.string (bs T), .string ⟨#[44]⟩] w fun e w' => e = .returned (.int .i64 (-1)) ∧ w' = w) := by
    have := idxComma (bs T) w
    rwa [bs_list, h] at this
  have K2 : Hid (Calls Tryd.prog 78 #[.string (bs T), .string ⟨#[44]⟩] w fun e w' => e = .returned (.tuple #[.string (bs T), .string (bs []), .bool false]) ∧ w' = w) := by
    show Calls _ _ _ _ _
    generalize bs T = s at *
    go_enter Tryd.func78, Tryd.ntmps78
    go_wp2_with (go_at_call 86; refine K.out.mono ?_; rintro e w1 ⟨rfl, hw⟩; obtain rfl : w = w1 := hw.symm)
    go_ret3
    exact ⟨rfl, rfl⟩
  clear K h
  generalize bs T = s at *
  go_enter Tryd.func59, Tryd.ntmps59
  go_wp2_with (go_at_call 78; refine K2.out.mono ?_; rintro e w1 ⟨rfl, hw⟩; obtain rfl : w = w1 := hw.symm)
  go_ret3
  exact ⟨rfl, rfl⟩
set_option maxRecDepth 100000 in
set_option maxHeartbeats 2000000 in
theorem cutYes (p t : List UInt8) (hm : (p ++ 44 :: t).length ≤ 9223372036854775807) (h : Lib.indexByte (p ++ 44 :: t) 44 = (p.length : Int)) (w : World) : Calls Tryd.prog 59 #[.string (bs (p ++ 44 :: t)), .string ⟨#[44]⟩] w fun e w' => e = .returned (.tuple #[.string (bs p), .string (bs t), .bool true]) ∧ Below w.heap.size w w' := by
  have K : Hid (Calls Tryd.prog 86 #[.string (bs (p ++ 44 :: t)), .string ⟨#[44]⟩] w fun e w' => e = .returned (.int .i64 p.length) ∧ w' = w) := by
    have := idxComma (bs (p ++ 44 :: t)) w
    rwa [bs_list, h] at this
  have hsz := bs_size (p ++ 44 :: t)
  have x1 : (bs (p ++ 44 :: t)).extract 0 p.length = bs p := by rw [bs_ext, List.drop_zero, Nat.sub_zero, List.take_left]
  have x2 : (bs (p ++ 44 :: t)).extract (p.length + 1) (p ++ 44 :: t).length = bs t := by
    have e1 : (p ++ 44 :: t).drop (p.length + 1) = t := by
      rw [List.drop_append, List.drop_of_length_le (by omega), Nat.add_sub_cancel_left]; rfl
    rw [bs_ext, e1, List.take_of_length_le (by rw [List.length_append, List.length_cons]; omega)]
  have hlen : (p ++ 44 :: t).length = p.length + 1 + t.length := by rw [List.length_append, List.length_cons]; omega
  rw [hlen] at hsz x2 hm
  have K2 : Hid (Calls Tryd.prog 78 #[.string (bs (p ++ 44 :: t)), .string ⟨#[44]⟩] w fun e w' => e = .returned (.tuple #[.string (bs p), .string (bs t), .bool true]) ∧ Below w.heap.size w w') := by
    show Calls _ _ _ _ _
    clear h hlen
    generalize bs (p ++ 44 :: t) = s at *
    generalize bs p = s1 at *
    generalize bs t = s2 at *
    generalize p.length = n at *
    generalize t.length = q at *
    go_enter Tryd.func78, Tryd.ntmps78
    go_wp2_with (go_at_call 86; refine K.out.mono ?_; rintro e w1 ⟨rfl, hw⟩; obtain rfl : w = w1 := hw.symm)
    go_region
    go_wp2
    go_ret3
    exact ⟨rfl, (Below.refl _ _).drew⟩
  clear K h hsz x1 x2 hlen hm
  generalize bs (p ++ 44 :: t) = s at *
  generalize bs p = s1 at *
  generalize bs t = s2 at *
  go_enter Tryd.func59, Tryd.ntmps59
  go_wp2_with (go_at_call 78; refine K2.out.mono ?_; rintro e w1 ⟨rfl, hw⟩)
  go_ret3
  exact ⟨rfl, hw⟩
end Go.Proofs.YtemaoijbjhonnaaDoor
