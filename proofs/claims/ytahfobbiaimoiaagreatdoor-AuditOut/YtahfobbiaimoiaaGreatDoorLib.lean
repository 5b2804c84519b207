/- math/bits Len64 answers the bit length of every uint64 and changes nothing. -/
import Derived.Test.YtahfobbiaimoiaaGreatDoorRows
import Derived.Lib.Walk
import Derived.Lib.BitFns
namespace Go.Proofs.YtahfobbiaimoiaaGreatDoor.O

theorem ret_bool {a b : Bool} (h : a = b) : Ending.returned (.bool a) = .returned (.bool b) := by rw [h]
theorem ret_int {k : IntKind} {a b : Int} (h : a = b) : Ending.returned (.int k a) = .returned (.int k b) := by rw [h]

theorem len_end (x : Nat) (hx : x < 18446744073709551616) (k : Nat) (hk : k ≤ 56) (h : 2 ^ k ≤ x ∨ k = 0) (b : Int) (hb : b = ((x / 2 ^ k : Nat) : Int)) (h2 : x / 2 ^ k < 256) :
    Lib.len8 b = (Lib.bitLen x : Int) - k ∧ Lib.bitLen x ≤ 64 := by
  subst hb
  rw [Lib.len8_of _ (Int.natCast_nonneg _) (Int.ofNat_le.2 (Nat.le_of_lt_succ h2)), Int.toNat_natCast]
  have hl : Lib.bitLen x ≤ 64 := Lib.bitLen_le x 64 (Nat.le_refl _) hx
  rcases h with h | rfl
  · have := Lib.bitLen_shift k x h hx
    exact ⟨by omega, hl⟩
  · exact ⟨by simp, hl⟩

set_option maxHeartbeats 4000000 in
set_option maxRecDepth 100000 in
theorem len64m (x : Nat) (hx : x < 18446744073709551616) (w : World) :
    Calls Tryz.prog 164 #[.int .u64 x] w fun e w' => e = .returned (.int .i64 (Lib.bitLen x)) ∧ w' = w := by
  go_enter Tryz.func164, Tryz.ntmps164
  go_wp2
  all_goals (go_ret; refine ⟨ret_int ?_, rfl⟩)
  · have ⟨e, l⟩ := len_end x hx 56 (by omega) (.inl (by simp; omega)) _ (show (x : Int) / 4294967296 / 65536 / 256 % 256 = _ by simp; omega) (by simp; omega)
    rw [e]; omega
  · have ⟨e, l⟩ := len_end x hx 48 (by omega) (.inl (by simp; omega)) _ (show (x : Int) / 4294967296 / 65536 % 256 = _ by simp; omega) (by simp; omega)
    rw [e]; omega
  · have ⟨e, l⟩ := len_end x hx 40 (by omega) (.inl (by simp; omega)) _ (show (x : Int) / 4294967296 / 256 % 256 = _ by simp; omega) (by simp; omega)
    rw [e]; omega
  · have ⟨e, l⟩ := len_end x hx 32 (by omega) (.inl (by simp; omega)) _ (show (x : Int) / 4294967296 % 256 = _ by simp; omega) (by simp; omega)
    rw [e]; omega
  · have ⟨e, l⟩ := len_end x hx 24 (by omega) (.inl (by simp; omega)) _ (show (x : Int) / 65536 / 256 % 256 = _ by simp; omega) (by simp; omega)
    rw [e]; omega
  · have ⟨e, l⟩ := len_end x hx 16 (by omega) (.inl (by simp; omega)) _ (show (x : Int) / 65536 % 256 = _ by simp; omega) (by simp; omega)
    rw [e]; omega
  · have ⟨e, l⟩ := len_end x hx 8 (by omega) (.inl (by simp; omega)) _ (show (x : Int) / 256 % 256 = _ by simp; omega) (by simp; omega)
    rw [e]; omega
  · have ⟨e, l⟩ := len_end x hx 0 (by omega) (.inr rfl) _ (show (x : Int) % 256 = _ by simp; omega) (by simp; omega)
    rw [e]; omega
end Go.Proofs.YtahfobbiaimoiaaGreatDoor.O
