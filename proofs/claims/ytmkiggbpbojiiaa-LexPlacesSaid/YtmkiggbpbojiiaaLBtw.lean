/- between: what it answers. -/
import Derived.Test.YtmkiggbpbojiiaaLPlM
import Derived.Test.YtmkiggbpbojiiaaLRef
namespace Go.Proofs.Ytmkiggbpbojiiaa
open Go.RowKit Go.Shelf
theorem btw_35 (f : Bool) (l : List UInt8) : btwS f (35 :: l) = btwS true l := by simp [btwS]
theorem btw_10 (f : Bool) (l : List UInt8) : btwS f (10 :: l) = btwS false l := by simp [btwS]
theorem btw_in {c : UInt8} (h10 : c ≠ 10) (l : List UInt8) : btwS true (c :: l) = btwS true l := by
  simp only [btwS, h10, if_false]
  split <;> simp
theorem btw_ok {c : UInt8} (h : c = 32 ∨ c = 9) (l : List UInt8) : btwS false (c :: l) = btwS false l := by
  rcases h with rfl | rfl <;> simp [btwS]
theorem btw_no {c : UInt8} (h10 : c ≠ 10) (h35 : c ≠ 35) (h32 : c ≠ 32) (h9 : c ≠ 9) (l : List UInt8) : btwS false (c :: l) = none := by
  simp [btwS, h10, h35, h32, h9]
theorem u8_ne (x y : UInt8) : decide (x ≠ y) = ((x.toNat : Int) != (y.toNat : Int)) := by
  have := u8_eq x y
  rw [bne, ← this]
  simp
set_option maxRecDepth 100000 in
set_option maxHeartbeats 4000000 in
theorem betweenF (S : List UInt8) (w : World) (hm : S.length ≤ 9223372036854775807) : Calls Try.prog 16 #[.string (bs S)] w fun e w' => e = .returned (.bool (btw S)) ∧ w' = w := by
  have hsz := bs_size S
  have hat : Hid (∀ c x, S[c]? = some x → ∃ h : c < (bs S).size, (bs S)[c]'h = x) := fun c x h => bs_at h
  generalize hs : bs S = st at *
  clear hs
  go_enter Try.func16, Try.ntmps16
  go_wp2
  go_loopw [3, 4] (fun fl k wr => ∃ (n : Nat) (f : Bool), fl = .bool f ∧ k = .int .i64 n ∧ n ≤ S.length ∧ w = wr ∧ Hid (btwS false S = btwS f (S.drop n))) (fun _ k _ => ((S.length : Int) - intOf k).toNat)
  case atStart => exact ⟨0, false, rfl, rfl, Nat.zero_le _, rfl, rfl⟩
  case round =>
    obtain ⟨n, f, rfl, rfl, hn, rfl, hl⟩ := hrel
    by_cases hlt : n < S.length
    · obtain ⟨c, hx⟩ : ∃ x, S[n]? = some x := ⟨_, List.getElem?_eq_getElem hlt⟩
      obtain ⟨q1, e1⟩ := hat.out n c hx
      have hd := hide' (hl.out.trans (congrArg (btwS f) (drop_at hx)))
      clear hx hat hl
      by_cases h35 : c = 35
      · have hr : Hid (btwS false S = btwS true (S.drop (n + 1))) := by show _ = _; rw [hd.out, h35, btw_35]
        have e35 : (35 : UInt8).toNat = 35 := rfl
        subst h35
        clear hd
        go_wp2
        exact ⟨⟨n + 1, true, rfl, by go_num, by omega, trivial, hr.out⟩, by simp [intOf]; omega⟩
      · by_cases h10 : c = 10
        · have hr : Hid (btwS false S = btwS false (S.drop (n + 1))) := by show _ = _; rw [hd.out, h10, btw_10]
          have e10 : (10 : UInt8).toNat = 10 := rfl
          subst h10
          clear hd
          go_wp2
          exact ⟨⟨n + 1, false, rfl, by go_num, by omega, trivial, hr.out⟩, by simp [intOf]; omega⟩
        · have q35 : ((c.toNat : Int) == 35) = false := (u8_eq c 35).symm.trans (by simpa using h35)
          have q10 : ((c.toNat : Int) == 10) = false := (u8_eq c 10).symm.trans (by simpa using h10)
          have n10 : ((c.toNat : Int) != 10) = true := (u8_ne c 10).symm.trans (by simpa using h10)
          cases f
          · by_cases h32 : c = 32
            · have hr : Hid (btwS false S = btwS false (S.drop (n + 1))) := by show _ = _; rw [hd.out, btw_ok (.inl h32)]
              have n32 : ((c.toNat : Int) != 32) = false := (u8_ne c 32).symm.trans (by simpa using h32)
              clear hd h32 h35 h10
              go_wp2
              exact ⟨⟨n + 1, false, rfl, by go_num, by omega, trivial, hr.out⟩, by simp [intOf]; omega⟩
            · have n32 : ((c.toNat : Int) != 32) = true := (u8_ne c 32).symm.trans (by simpa using h32)
              by_cases h9 : c = 9
              · have hr : Hid (btwS false S = btwS false (S.drop (n + 1))) := by show _ = _; rw [hd.out, btw_ok (.inr h9)]
                have n9 : ((c.toNat : Int) != 9) = false := (u8_ne c 9).symm.trans (by simpa using h9)
                clear hd h32 h35 h10 h9
                go_wp2
                exact ⟨⟨n + 1, false, rfl, by go_num, by omega, trivial, hr.out⟩, by simp [intOf]; omega⟩
              · have hr : Hid (btw S = false) := by show _ = _; unfold btw; rw [hd.out, btw_no h10 h35 h32 h9]; rfl
                have n9 : ((c.toNat : Int) != 9) = true := (u8_ne c 9).symm.trans (by simpa using h9)
                clear hd h32 h35 h10 h9
                go_wp2
                go_ret
                exact ⟨by rw [hr.out]; rfl, rfl⟩
          · have hr : Hid (btwS false S = btwS true (S.drop (n + 1))) := by show _ = _; rw [hd.out, btw_in h10]
            clear hd h35 h10
            go_wp2
            exact ⟨⟨n + 1, true, rfl, by go_num, by omega, trivial, hr.out⟩, by simp [intOf]; omega⟩
    · obtain rfl : n = S.length := by omega
      have hr : Hid (btw S = true) := by show _ = _; unfold btw; rw [hl.out, List.drop_eq_nil_of_le (Nat.le_refl _)]; rfl
      clear hl hat
      go_wp2
      go_ret
      exact ⟨by rw [hr.out]; rfl, rfl⟩
end Go.Proofs.Ytmkiggbpbojiiaa
