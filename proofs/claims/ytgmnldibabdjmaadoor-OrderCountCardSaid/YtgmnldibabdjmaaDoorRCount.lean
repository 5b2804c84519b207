/- The document's Count: in how many ways a row goes on, at most so many. -/
import Derived.Test.YtgmnldibabdjmaaDoorOCntM
namespace Go.Proofs.YtgmnldibabdjmaaDoor
open Go.RowKit Go.Shelf
section
variable {w0 : World} {go m : Nat} {R : Nat → Nat → Bool} {ov : Value} {gr : Nat → Nat} {w : World} {Pf Sf : Nat → Nat}
set_option maxRecDepth 100000 in
set_option maxHeartbeats 1000000 in
theorem refCount (hM : Mat w0 go m m R ov gr w) (hO : Ord m R Pf Sf) : ∀ (k d q : Nat), isDown m R d → cnt m d + k = m → q ≤ 65536 →
    Calls Tryd.prog 6 #[.pointer (some ⟨go, 0, none⟩), .int .u64 (d : Int), .int .i64 (k : Int), .int .u64 (q : Int)] w fun e w' => e = .returned (.int .u64 ((min (ext m Pf k d) q : Nat) : Int)) ∧ w' = w
  | k, d, 0, hd, hc, hq => by
    go_enter Tryd.func6, Tryd.ntmps6
    go_wp2
    go_ret
    exact ⟨by rw [Nat.min_zero]; rfl, rfl⟩
  | 0, d, q + 1, hd, hc, hq => by
    have h0 : ¬ ((q + 1 : Nat) : Int) = 0 := by omega
    have h1 : min (ext m Pf 0 d) (q + 1) = 1 := by show min 1 (q + 1) = 1; omega
    rw [h1]
    generalize ((q + 1 : Nat) : Int) = z at *
    go_enter Tryd.func6, Tryd.ntmps6
    go_wp2
    go_ret
    exact ⟨rfl, rfl⟩
  | k + 1, d, q + 1, hd, hc, hq => by
    have IH := refCount hM hO k
    have hd64 := down_lt hO.n64 hd
    have hm := hO.n64
    have h0 : ¬ ((q + 1 : Nat) : Int) = 0 := by omega
    have hk0 : ¬ ((k + 1 : Nat) : Int) = 0 := by omega
    have KR : Hid (Calls Tryd.prog 12 #[.pointer (some ⟨go, 0, none⟩), .int .u64 (d : Int)] w fun e w' => e = .returned (.int .u64 (rdW m Pf d : Int)) ∧ w' = w) := by
      have := refReady hM hm hO.inn (fun a ha => hO.accPn ha) d hd64
      rwa [hO.accR hd64] at this
    have hx64 := hO.rdW_lt hd64
    have hrd : Hid (∀ a, (rdW m Pf d).testBit a = true → rdy m R d a) := fun a ha => (hO.rdW_bits hd64 a).1 ha
    have hsum := hide' (hO.ext_sum hd64 k)
    have c0 := hM.c0
    have hsub : IntKind.i64.wrap (((k + 1 : Nat) : Int) - 1) = (k : Int) := by rw [IntKind.wrap_i64]; omega
    generalize rdW m Pf d = x at *
    generalize hz : ((k + 1 : Nat) : Int) = kz at *
    generalize hQ : q + 1 = Q at *
    clear hz hQ
    generalize hf : (fun a => ext m Pf k (d ||| 2 ^ a)) = f at hsum
    have hf' : Hid (∀ a, f a = ext m Pf k (d ||| 2 ^ a)) := fun a => by rw [← hf]
    clear hf
    go_enter Tryd.func6, Tryd.ntmps6
    go_wp2_with (go_at_call 12; refine KR.out.mono ?_; rintro e w1 ⟨rfl, rfl⟩)
    go_loop [9, 11] (fun pn pi => ∃ i : Nat, i ≤ m ∧ pi = .int .i64 i ∧ pn = .int .u64 ((min (sumT f x.testBit i) Q : Nat) : Int)) (fun _ pi => ((m : Int) - intOf pi).toNat)
    case atStart => exact ⟨0, Nat.zero_le _, rfl, by simp [sumT]⟩
    case round =>
      obtain ⟨i, hi, rfl, rfl⟩ := hrel
      by_cases hlt : i < m
      · by_cases hful : Q ≤ sumT f x.testBit i
        · have e1 : min (sumT f x.testBit i) Q = Q := by omega
          have e2 : Hid (min (ext m Pf (k + 1) d) Q = Q) := by
            have := sumT_mono f x.testBit (show i ≤ m by omega)
            show _ = _
            rw [hsum.out]
            omega
          have e3 : ¬ (Q : Int) < (Q : Int) := by omega
          rw [e1]
          clear e1 hful
          go_wp2
          go_ret
          exact ⟨by rw [e2.out]; rfl, rfl⟩
        · have e1 : min (sumT f x.testBit i) Q = sumT f x.testBit i := by omega
          rw [e1]
          have hsn : Hid (sumT f x.testBit (i + 1) = sumT f x.testBit i + (if x.testBit i = true then f i else 0)) := rfl
          have hls : ((sumT f x.testBit i : Nat) : Int) < (Q : Int) := by omega
          have hbt := bit_test1 (a := i) hx64
          generalize hs : sumT f x.testBit i = s at *
          clear hs
          cases hb : x.testBit i with
          | false =>
            rw [hb] at hbt hsn
            have hsn' : Hid (min (sumT f x.testBit (i + 1)) Q = s) := by
              have h := hsn.out
              simp only [Bool.false_eq_true, if_false] at h
              show _ = _
              omega
            clear hb hsn e1 hful
            go_wp2
            exact ⟨⟨i + 1, by omega, by go_num, by rw [hsn'.out]⟩, by simp [intOf]; omega⟩
          | true =>
            have hr := hrd.out i hb
            rw [hb] at hbt hsn
            have hsn' : Hid (min (sumT f x.testBit (i + 1)) Q = s + min (f i) (Q - s)) := by
              have h := hsn.out
              simp only [if_true] at h
              show _ = _
              omega
            have KC : Hid (Calls Tryd.prog 6 #[.pointer (some ⟨go, 0, none⟩), .int .u64 ((d ||| 2 ^ i : Nat) : Int), .int .i64 (k : Int), .int .u64 ((Q - s : Nat) : Int)] w1 fun e w' => e = .returned (.int .u64 ((min (f i) (Q - s) : Nat) : Int)) ∧ w' = w1) := by
              have := IH (d ||| 2 ^ i) (Q - s) (down_add hd hr) (by rw [cnt_add m d i hr.2.1, if_pos hr.1]; omega) (by omega)
              rwa [← hf'.out i] at this
            have hsh := shlc i (by omega)
            have hpw : (2 ^ i : Nat) < 18446744073709551616 := Nat.lt_of_lt_of_le (Nat.pow_lt_pow_right (by decide) (show i < 64 by omega)) (by decide)
            have hor := u64_or_nat d (2 ^ i) hd64 hpw
            have hsb : IntKind.u64.wrap ((Q : Int) - (s : Int)) = ((Q - s : Nat) : Int) := by rw [IntKind.wrap_u64]; omega
            have hle : min (f i) (Q - s) ≤ Q - s := Nat.min_le_right _ _
            generalize min (f i) (Q - s) = v at *
            have had : IntKind.u64.wrap ((s : Int) + (v : Int)) = ((s + v : Nat) : Int) := by rw [IntKind.wrap_u64]; omega
            generalize d ||| 2 ^ i = d2 at *
            generalize 2 ^ i = pw at *
            generalize hqs : Q - s = qs at *
            have hn2 : Hid (((s + v : Nat) : Int) = ((s + v : Nat) : Int)) := rfl
            generalize hsv : s + v = sv at *
            clear hb hsn e1 hful hqs IH hr hle hsv
            go_wp2_with (go_at_call 6; refine KC.out.mono ?_; rintro e w2 ⟨rfl, rfl⟩)
            exact ⟨⟨i + 1, by omega, by go_num, by rw [hsn'.out]⟩, by simp [intOf]; omega⟩
      · obtain rfl : i = m := by omega
        have hv : Hid (min (ext i Pf (k + 1) d) Q = min (sumT f x.testBit i) Q) := by show _ = _; rw [hsum.out]
        generalize min (sumT f x.testBit i) Q = v at *
        go_wp2
        go_ret
        exact ⟨by rw [hv.out]; rfl, rfl⟩
end
end Go.Proofs.YtgmnldibabdjmaaDoor
