/- length: how many bytes are of a kind. -/
import Derived.Test.YtghodeggobgclaaLKinds
namespace Go.Proofs.Ytghodeggobgclaa
open Go.RowKit Go.Shelf
theorem drop_at {T : List UInt8} {n : Nat} {x : UInt8} (hx : T[n]? = some x) : T.drop n = x :: T.drop (n + 1) := by
  obtain ⟨hl, e⟩ := List.getElem?_eq_some_iff.1 hx
  rw [List.drop_eq_getElem_cons hl, e]
set_option maxRecDepth 100000 in
set_option maxHeartbeats 2000000 in
theorem lengthF (T : List UInt8) (g : Nat) (lb : Array Value) (p : UInt8 → Bool) (w : World) (hk : PK 0 g lb p w) (hm : T.length ≤ 9223372036854775807) :
    Calls Try.prog 67 #[.string (bs T), .func (.func g) #[] lb] w fun e w' => e = .returned (.int .i64 (len p T : Nat)) ∧ Below w.heap.size w w' := by
  have hsz := bs_size T
  have hat : Hid (∀ c x, T[c]? = some x → ∃ h : c < (bs T).size, (bs T)[c]'h = x) := fun c x h => bs_at h
  obtain ⟨eg, hk2⟩ := hk
  have K : Hid (∀ (W : World) (x : UInt8), Kp 0 w W → Calls Try.prog g (#[.int .u8 (x.toNat : Int)] ++ lb) W fun e w' => e = .returned (.bool (p x)) ∧ Below W.heap.size W w') := hk2
  clear hk2
  generalize hs : bs T = s at *
  clear hs
  go_enter Try.func67, Try.ntmps67
  go_wp2
  go_loopw [5] (fun k wr => ∃ n : Nat, k = .int .i64 n ∧ n ≤ T.length ∧ Hid (Below w.heap.size w wr) ∧ Hid (len p T = n + len p (T.drop n))) (fun k _ => ((T.length : Int) - intOf k).toNat)
  case atStart => exact ⟨0, rfl, Nat.zero_le _, Below.refl _ _, by show _ = _; simp⟩
  case round =>
    obtain ⟨n, rfl, hn, hB, hl⟩ := hrel
    by_cases hlt : n < T.length
    · obtain ⟨x, hx⟩ : ∃ x, T[n]? = some x := ⟨_, List.getElem?_eq_getElem hlt⟩
      obtain ⟨q1, e1⟩ := hat.out n x hx
      have hd := hide' (drop_at hx)
      have K1 := hide' (K.out wr x (Kp.of 0 hB.out))
      cases hp : p x
      · have hr : Hid (len p T = n) := by show _ = _; rw [hl.out, hd.out, len_cons_false hp]; rfl
        rw [hp] at K1
        clear hx hd K hat hp hl
        go_wp2_with (go_at_fn g; refine K1.out.mono ?_; rintro e w1 ⟨rfl, hb⟩)
        go_ret
        exact ⟨by rw [hr.out]; rfl, hB.out.trans (hb.mono hB.out.size)⟩
      · have hr : Hid (len p T = n + 1 + len p (T.drop (n + 1))) := by show _ = _; rw [hl.out, hd.out, len_cons_true hp]; omega
        rw [hp] at K1
        clear hx hd K hat hp hl
        go_wp2_with (go_at_fn g; refine K1.out.mono ?_; rintro e w1 ⟨rfl, hb⟩)
        exact ⟨⟨n + 1, by go_num, by omega, hB.out.trans (hb.mono hB.out.size), hr.out⟩, by simp [intOf]; omega⟩
    · obtain rfl : n = T.length := by omega
      have hr : Hid (len p T = T.length) := by show _ = _; rw [hl.out]; simp [len]
      clear K hat hl
      go_wp2
      go_ret
      exact ⟨by rw [hr.out]; rfl, hB.out⟩
end Go.Proofs.Ytghodeggobgclaa
