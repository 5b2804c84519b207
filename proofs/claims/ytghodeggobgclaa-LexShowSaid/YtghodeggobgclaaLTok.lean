/- value, word: what they answer. -/
import Derived.Test.YtghodeggobgclaaLLen
namespace Go.Proofs.Ytghodeggobgclaa
open Go.RowKit Go.Shelf
def tcells (t : Tok) : List Value := [.int .i64 t.kind, .string (bs t.text), .int .i64 t.num, .int .i64 t.line, .int .i64 t.col]
def tv (t : Tok) : Value := .agg #[.int .i64 t.kind, .string (bs t.text), .int .i64 t.num, .int .i64 t.line, .int .i64 t.col]
def tz : Tok := ⟨0, [], 0, 0, 0⟩
theorem bs_ext (T : List UInt8) (a b : Nat) : (bs T).extract a b = bs ((T.drop a).take (b - a)) := by
  refine ByteArray.ext ?_
  rw [ByteArray.data_extract]
  show (T.toArray).extract a b = _
  refine Array.ext' ?_
  simp [bs, List.extract]
theorem bs_take (T : List UInt8) (n : Nat) : (bs T).extract 0 n = bs (T.take n) := by rw [bs_ext]; simp
theorem valu_snoc (l : List UInt8) (c : UInt8) : valu (l ++ [c]) = valu l * 10 + (c.toNat - 48) := by simp [valu]
theorem valu_lt : ∀ (n : Nat) (l : List UInt8), l.length = n → (∀ c ∈ l, isDig c = true) → valu l < 10 ^ n
  | 0, l, h, _ => by rw [List.eq_nil_of_length_eq_zero h]; decide
  | n + 1, l, h, hd => by
    rcases List.eq_nil_or_concat l with rfl | ⟨l', c, rfl⟩
    · simp at h
    · rw [List.concat_eq_append] at h hd ⊢
      have ih := valu_lt n l' (by simpa using h) fun x hx => hd x (List.mem_append_left _ hx)
      have hc := hd c (List.mem_append_right _ (List.mem_singleton.2 rfl))
      simp [isDig] at hc
      rw [valu_snoc, Nat.pow_succ]
      omega
theorem take_snoc {T : List UInt8} {c : Nat} {x : UInt8} (hx : T[c]? = some x) : T.take (c + 1) = T.take c ++ [x] := by rw [List.take_add_one, hx]; rfl
set_option maxRecDepth 100000 in
set_option maxHeartbeats 2000000 in
theorem valueF (T : List UInt8) (w : World) (hm : T.length ≤ 9) (hd : ∀ c ∈ T, isDig c = true) :
    Calls Try.prog 112 #[.string (bs T)] w fun e w' => e = .returned (.int .i64 (valu T : Nat)) ∧ w' = w := by
  have hsz := bs_size T
  have hat : Hid (∀ c x, T[c]? = some x → ∃ h : c < (bs T).size, (bs T)[c]'h = x) := fun c x h => bs_at h
  have hd' := hide' hd
  clear hd
  generalize hs : bs T = s at *
  clear hs
  go_enter Try.func112, Try.ntmps112
  go_wp2
  go_loop [3, 4, 7] (fun v i k => ∃ c m : Nat, k = .int .i64 c ∧ v = .int .i64 m ∧ c ≤ T.length ∧ Hid (m = valu (T.take c)) ∧ m < 1000000000) (fun _ _ k => ((T.length : Int) - intOf k).toNat)
  case atStart => exact ⟨0, 0, rfl, rfl, Nat.zero_le _, rfl, by decide⟩
  case round =>
    obtain ⟨c, m, rfl, rfl, hc, hv, hm9⟩ := hrel
    by_cases hlt : c < T.length
    · obtain ⟨x, hx⟩ : ∃ x, T[c]? = some x := ⟨_, List.getElem?_eq_getElem hlt⟩
      obtain ⟨q1, e1⟩ := hat.out c x hx
      have hdx : isDig x = true := hd'.out x (List.mem_of_getElem? hx)
      simp [isDig] at hdx
      obtain ⟨d1, d2⟩ := hdx
      have hn : Hid (m * 10 + (x.toNat - 48) = valu (T.take (c + 1))) := by show _ = _; rw [take_snoc hx, valu_snoc, hv.out]
      have hlt9 : m * 10 + (x.toNat - 48) < 1000000000 := by
        rw [hn.out]
        refine Nat.lt_of_lt_of_le (valu_lt (c + 1) _ (by rw [List.length_take]; omega) fun y hy => hd'.out y (List.mem_of_mem_take hy)) ?_
        exact Nat.pow_le_pow_right (n := 10) (by decide) (show c + 1 ≤ 9 by omega)
      clear hx hat hv
      go_wp2
      exact ⟨⟨c + 1, m * 10 + (x.toNat - 48), by go_num, by go_num, by omega, hn.out, hlt9⟩, by simp [intOf]; omega⟩
    · obtain rfl : c = T.length := by omega
      have hr : Hid (m = valu T) := by show _ = _; rw [hv.out, List.take_of_length_le (Nat.le_refl _)]
      clear hat hv hd'
      go_wp2
      go_ret
      exact ⟨by rw [← hr.out]; rfl, rfl⟩
end Go.Proofs.Ytghodeggobgclaa
