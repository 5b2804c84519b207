/- readNumber: what it answers. -/
import Derived.Test.YtemaoijbjhonnaaDoorTMath
import Derived.WalkKit
import Derived.WalkSpells
import Derived.WalkLawsBesides
import Derived.BigRegion
import Derived.Lib.Bytealg
namespace Go.Proofs.YtemaoijbjhonnaaDoor
open Go.RowKit
/-- A list's bytes as a string. -/
def bs (l : List UInt8) : ByteArray := ⟨l.toArray⟩
theorem bs_size (l : List UInt8) : (bs l).size = l.length := by simp [bs, ByteArray.size]
theorem bs_at {l : List UInt8} {i : Nat} {x : UInt8} (hx : l[i]? = some x) : ∃ h : i < (bs l).size, (bs l)[i]'h = x := by
  obtain ⟨hl, e⟩ := List.getElem?_eq_some_iff.1 hx
  refine ⟨by rw [bs_size]; exact hl, ?_⟩
  rw [← e]
  rfl
theorem bs_list (l : List UInt8) : (bs l).data.toList = l := by simp [bs]
theorem bs_of (s : ByteArray) : s = bs s.data.toList := by cases s; simp [bs]
theorem ba_empty (l : List UInt8) : (bs l).toList.isEmpty = decide (l = []) := by
  rw [ByteArray.toList_eq, bs_list]; cases l <;> rfl
theorem rdS_long : ∀ (l : List UInt8), 3 < l.length → rdS 0 0 l = none
  | a :: b :: c :: d :: t, _ => by
    unfold rdS
    split
    · split
      · rfl
      · unfold rdS
        split
        · split
          · rfl
          · unfold rdS
            split
            · split
              · rfl
              · unfold rdS
                split
                · rw [if_pos (Or.inl rfl)]
                · rfl
            · rfl
        · rfl
    · rfl
  | [], h => by simp at h
  | [_], h => by simp at h
  | [_, _], h => by simp at h
  | [_, _, _], h => by simp at h
theorem rdS_zero (b : UInt8) (t : List UInt8) : rdS 0 0 (48 :: b :: t) = none := by
  unfold rdS
  rw [if_pos (by decide), if_neg (by omega)]
  unfold rdS
  split
  · rw [if_pos (Or.inr ⟨by decide, by decide⟩)]
  · rfl
/-- readNumber's answer. -/
def rdV (l : List UInt8) : Value := match rdS 0 0 l with | none => .tuple #[.int .i64 0, .bool false] | some n => .tuple #[.int .i64 (n : Int), .bool true]
theorem rdV_none {l : List UInt8} (h : rdS 0 0 l = none) : rdV l = .tuple #[.int .i64 0, .bool false] := by unfold rdV; rw [h]
theorem rdV_some {l : List UInt8} {n : Nat} (h : rdS 0 0 l = some n) : rdV l = .tuple #[.int .i64 (n : Int), .bool true] := by unfold rdV; rw [h]
theorem hideT {p : Prop} (h : p) : Hid p := h
theorem ret_val {a b : Value} (h : a = b) : Ending.returned a = .returned b := by rw [h]
set_option maxRecDepth 100000 in
set_option maxHeartbeats 2000000 in
theorem readNum (l : List UInt8) (w : World) : Calls Tryd.prog 60 #[.string (bs l)] w fun e w' => e = .returned (rdV l) ∧ w' = w := by
  have hsz := bs_size l
  have he := ba_empty l
  by_cases h0 : l = []
  · subst h0
    have he' : (bs []).toList.isEmpty = true := by rw [he]; rfl
    clear he
    go_enter Tryd.func60, Tryd.ntmps60
    go_wp2
    go_ret2
    exact ⟨ret_val (rdV_none rfl).symm, rfl⟩
  · have he' : (bs l).toList.isEmpty = false := by rw [he]; simpa using h0
    clear he
    have hpos : 0 < l.length := List.length_pos_iff.2 h0
    by_cases h3 : 3 < l.length
    · have hr := hideT (rdV_none (rdS_long l h3)).symm
      generalize hs : bs l = s at *
      clear hs
      go_enter Tryd.func60, Tryd.ntmps60
      go_wp2
      go_ret2
      exact ⟨ret_val hr.out, rfl⟩
    · obtain ⟨x0, hx0⟩ : ∃ x, l[0]? = some x := ⟨_, List.getElem?_eq_getElem hpos⟩
      obtain ⟨q0, e0⟩ := bs_at hx0
      by_cases hz : x0 = 48 ∧ 1 < l.length
      · obtain ⟨rfl, h1⟩ := hz
        have hr : Hid (Value.tuple #[.int .i64 0, .bool false] = rdV l) := by
          match l, hx0, h1 with
          | a :: b :: t, hx0, _ => cases hx0; exact (rdV_none (rdS_zero b t)).symm
        generalize hs : bs l = s at *
        clear hs
        have e48 : (48 : UInt8).toNat = 48 := rfl
        go_enter Tryd.func60, Tryd.ntmps60
        go_wp2
        go_ret2
        exact ⟨ret_val hr.out, rfl⟩
      · have hzz : Hid (x0.toNat = 48 → l.length ≤ 1) := fun h => by
          have : x0 = 48 := UInt8.toNat_inj.1 (by rw [h]; rfl)
          rcases Nat.lt_or_ge 1 l.length with h2 | h2
          · exact absurd ⟨this, h2⟩ hz
          · exact h2
        have hat : Hid (∀ c x, l[c]? = some x → ∃ h : c < (bs l).size, (bs l)[c]'h = x) := fun c x h => bs_at h
        clear hz
        have hx0' := hideT hx0
        clear hx0
        generalize hs : bs l = s at *
        clear hs h0
        have main : ∀ (Q : Exit → Act → World → Prop), True := fun _ => trivial
        clear main
        by_cases hq : x0.toNat = 48
        · have hl1 : l.length = 1 := by have := hzz.out hq; omega
          have hr : Hid (rdV l = .tuple #[.int .i64 0, .bool true]) := by
            match l, hx0'.out, hl1 with
            | [a], hx0, _ =>
              have ha : a = x0 := Option.some.inj hx0
              have : a = 48 := UInt8.toNat_inj.1 (by rw [ha, hq]; rfl)
              subst this
              rfl
          rw [hl1] at hsz
          clear hpos h3 hl1 hzz
          go_enter Tryd.func60, Tryd.ntmps60
          go_wp2
          go_loop [4, 24] (fun n k => (n = .int .i64 0) ∧ (k = .int .i64 0 ∨ k = .int .i64 1)) (fun _ k => (1 - intOf k).toNat)
          case atStart => exact ⟨rfl, .inl rfl⟩
          case round =>
            obtain ⟨rfl, rfl | rfl⟩ := hrel
            · go_wp2
              exact ⟨⟨by go_num, .inr (by go_num)⟩, by simp [intOf]⟩
            · go_wp2
              go_ret2
              exact ⟨ret_val hr.out.symm, rfl⟩
        · go_enter Tryd.func60, Tryd.ntmps60
          go_wp2
          go_loop [4, 24] (fun n k => ∃ (c m : Nat), c ≤ l.length ∧ k = .int .i64 c ∧ n = .int .i64 m ∧ m < 10 ^ c ∧ Hid (0 < c → m ≠ 0) ∧ Hid (rdS 0 0 l = rdS m c (l.drop c))) (fun _ k => ((l.length : Int) - intOf k).toNat)
          case atStart => exact ⟨0, 0, Nat.zero_le _, rfl, rfl, by decide, fun h => absurd h (by decide), rfl⟩
          case round =>
            obtain ⟨c, m, hc, rfl, rfl, hm, hne, hrd⟩ := hrel
            have hm3 : m < 1000 := by
              have : 10 ^ c ≤ 10 ^ 3 := Nat.pow_le_pow_right (by decide) (by omega)
              omega
            by_cases hlt : c < l.length
            · obtain ⟨x, hx⟩ : ∃ x, l[c]? = some x := ⟨_, List.getElem?_eq_getElem hlt⟩
              obtain ⟨q1, e1⟩ := hat.out c x hx
              have hdr : Hid (l.drop c = x :: l.drop (c + 1)) := by
                obtain ⟨hl, e⟩ := List.getElem?_eq_some_iff.1 hx
                show _ = _
                rw [List.drop_eq_getElem_cons hl, e]
              have hx1 : Hid (c = 0 → x = x0) := fun h => by subst h; rw [hx0'.out] at hx; cases hx; rfl
              clear hx e0
              have hm' := hideT hm
              clear hm
              by_cases hd : 48 ≤ x.toNat ∧ x.toNat ≤ 57
              · obtain ⟨hd1, hd2⟩ := hd
                go_wp2
                refine ⟨⟨c + 1, 10 * m + (x.toNat - 48), by omega, by go_num, by go_num, ?_, fun _ => ?_, ?_⟩, by simp [intOf]; omega⟩
                · rw [Nat.pow_succ]; have := hm'.out; omega
                · rcases Nat.eq_zero_or_pos c with h | h
                  · have := hx1.out h; subst this; omega
                  · have := hne.out h; omega
                · show _ = _
                  rw [hrd.out, hdr.out]
                  conv => lhs; unfold rdS
                  rw [if_pos ⟨hd1, hd2⟩, if_neg (fun h => h.elim (fun h => by omega) (fun h => hne.out h.1 h.2))]
              · have hr : Hid (Value.tuple #[.int .i64 0, .bool false] = rdV l) := (rdV_none (by rw [hrd.out, hdr.out]; unfold rdS; rw [if_neg hd])).symm
                by_cases hd1 : x.toNat < 48
                · go_wp2
                  go_ret2
                  exact ⟨ret_val hr.out, rfl⟩
                · have hd2 : 57 < x.toNat := by omega
                  go_wp2
                  go_ret2
                  exact ⟨ret_val hr.out, rfl⟩
            · obtain rfl : c = l.length := by omega
              have hr : Hid (Value.tuple #[.int .i64 (m : Int), .bool true] = rdV l) := (rdV_some (by rw [hrd.out, List.drop_length]; unfold rdS; rw [if_neg (by omega)])).symm
              go_wp2
              go_ret2
              exact ⟨ret_val hr.out, rfl⟩
end Go.Proofs.YtemaoijbjhonnaaDoor
