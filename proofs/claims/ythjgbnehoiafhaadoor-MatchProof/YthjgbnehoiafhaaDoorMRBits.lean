/- The document's bits. -/
import Derived.Test.YthjgbnehoiafhaaDoorMShort3
import Derived.Test.YthjgbnehoiafhaaDoorMShr
namespace Go.Proofs.YthjgbnehoiafhaaDoor.M
open Go.RowKit Go.Shelf
/-- How many of a word's bits below c. -/
def cnt (x c : Nat) : Nat := ((List.range c).filter fun u => x.testBit u).length
theorem cnt_succ (x c : Nat) : cnt x (c + 1) = cnt x c + (x.testBit c).toNat := by
  unfold cnt
  rw [List.range_succ, List.filter_append, List.length_append]
  cases h : x.testBit c <;> simp [h]
theorem cnt_le (x : Nat) : ∀ c, cnt x c ≤ c
  | 0 => Nat.le_refl _
  | c + 1 => by
    have := cnt_le x c
    rw [cnt_succ]
    cases x.testBit c <;> simp <;> omega
theorem cnt_all (x : Nat) : cnt x 64 = (nums x).length := by
  rw [← List.length_map (f := Fin.val)]
  refine same_len (List.Pairwise.filter _ List.nodup_range) (numsV_nodup x) fun u => ?_
  simp only [List.mem_filter, List.mem_range, List.mem_map]
  constructor
  · rintro ⟨h1, h2⟩
    exact ⟨⟨u, h1⟩, (mem_nums x _).2 h2, rfl⟩
  · rintro ⟨i, hi, rfl⟩
    exact ⟨i.isLt, (mem_nums x i).1 hi⟩
set_option maxRecDepth 100000 in
theorem bitsF (x : Nat) (hx : x < 18446744073709551616) (w : World) : Calls Tryd.prog 62 #[.int .u64 (x : Int)] w fun e w' => e = .returned (.int .i64 ((nums x).length : Int)) ∧ w' = w := by
  have hall := hide' (cnt_all x)
  have hs : Hid (∀ c, cnt x (c + 1) = cnt x c + (x.testBit c).toNat) := fun c => cnt_succ x c
  have hl : Hid (∀ c, cnt x c ≤ c) := fun c => cnt_le x c
  have h0 : Hid (cnt x 0 = 0) := rfl
  rw [← hall.out]
  generalize cnt x = f at *
  clear hall
  go_enter Tryd.func62, Tryd.ntmps62
  go_wp2
  go_loop [3, 4] (fun m p => ∃ c : Nat, c ≤ 64 ∧ p = .int .i64 (c : Int) ∧ m = .int .i64 (f c : Int)) (fun _ p => (64 - intOf p).toNat)
  case atStart => exact ⟨0, by omega, rfl, by rw [h0.out]; rfl⟩
  case round =>
    obtain ⟨c, hc, rfl, rfl⟩ := hrel
    have hle := hl.out c
    by_cases hlt : c < 64
    · have hsc := hs.out c
      have hlt' : (c : Int) < 64 := by omega
      cases hb : x.testBit c
      · have hs1 := shr_bitF hx hb
        rw [hb] at hsc
        have hsc' : Hid (f (c + 1) = f c) := by show _ = _; simpa using hsc
        clear hsc
        go_wp2
        exact ⟨⟨c + 1, by omega, by go_num, by rw [hsc'.out]⟩, by simp [intOf]; omega⟩
      · have hs1 := shr_bitT hx hb
        rw [hb] at hsc
        have hsc' : Hid (f (c + 1) = f c + 1) := by show _ = _; simpa using hsc
        clear hsc
        go_wp2
        exact ⟨⟨c + 1, by omega, by go_num, by rw [hsc'.out]; go_num⟩, by simp [intOf]; omega⟩
    · obtain rfl : c = 64 := by omega
      go_wp2
      go_ret
      exact ⟨rfl, rfl⟩
end Go.Proofs.YthjgbnehoiafhaaDoor.M
