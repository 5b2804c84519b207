/- The document's Short; both Shorts tell the same rows. -/
import Derived.Test.YthjgbnehoiafhaaDoorMRChoose
namespace Go.Proofs.YthjgbnehoiafhaaDoor.M
open Go.RowKit Go.Shelf
theorem sorted_extN : ∀ {l m : List Nat}, l.Pairwise (· < ·) → m.Pairwise (· < ·) → (∀ i, i ∈ l ↔ i ∈ m) → l = m
  | [], [], _, _, _ => rfl
  | [], y :: m, _, _, h => by have := (h y).2 (List.mem_cons_self ..); cases this
  | x :: l, [], _, _, h => by have := (h x).1 (List.mem_cons_self ..); cases this
  | x :: l, y :: m, h1, h2, h => by
    have p1 := List.pairwise_cons.1 h1
    have p2 := List.pairwise_cons.1 h2
    have e : x = y := by
      rcases List.mem_cons.1 ((h x).1 (List.mem_cons_self ..)) with q | q
      · exact q
      · rcases List.mem_cons.1 ((h y).2 (List.mem_cons_self ..)) with r | r
        · exact r.symm
        · have a := p2.1 x q
          have b := p1.1 y r
          omega
    subst e
    rw [sorted_extN p1.2 p2.2 fun i => ?_]
    have hi := h i
    rw [List.mem_cons, List.mem_cons] at hi
    constructor
    · intro q
      rcases hi.1 (.inr q) with r | r
      · subst r; have := p1.1 i q; exact absurd this (Nat.lt_irrefl i)
      · exact r
    · intro q
      rcases hi.2 (.inr q) with r | r
      · subst r; have := p2.1 i q; exact absurd this (Nat.lt_irrefl i)
      · exact r
theorem nilRow (W : World) : I.RowI W (.slice none 0 0) [] := ⟨none, 0, rfl, ⟨Nat.le_refl _, fun _ => rfl⟩, fun i z h => by cases h⟩
/-- What the document's Short answers. -/
inductive ShD (R : Nat → Nat) (n : Nat) (V : World) : Value → Prop
  | no (h : 12 < n ∨ ∀ k, 1 ≤ k → k < n + 1 → ∀ m, Inc 0 n m → m.length = k → ¬ BdL R m) : ShD R n V (.slice none 0 0)
  | yes (hn : n ≤ 12) (k : Nat) (m : List Nat) (h1 : 1 ≤ k) (hk : k ≤ n) (hi : Inc 0 n m) (hm : m.length = k) (hb : BdL R m) (hl : ∀ m', Inc 0 n m' → m'.length = k → BdL R m' → ¬ I.cmpL (I.ints m') (I.ints m) < 0)
      (hf : ∀ k', 1 ≤ k' → k' < k → ∀ m', Inc 0 n m' → m'.length = k' → ¬ BdL R m') (ad : Addr) (c cap : Nat) (hr : I.RowI V (.slice (some ad) c cap) (I.ints m)) : ShD R n V (.slice (some ad) c cap)
section
variable {n : Nat} {R : Nat → Nat} {w : World} {oa : Option Addr} {cap : Nat}
set_option maxRecDepth 100000 in
set_option maxHeartbeats 1000000 in
theorem rShortF (hA : RwA w (.slice oa n cap) n R) : Calls Tryd.prog 19 #[.slice oa n cap] w fun e w' => ∃ v, e = .returned v ∧ Hid (ShD R n w' v) ∧ Hid (Below w.heap.size w w') := by
  have hA' := hide' hA
  clear hA
  by_cases hn : n ≤ 12
  · have hd : decide ((n : Int) ≤ 12) = true := by simp; omega
    have hn' : (n : Int) ≤ 12 := by omega
    go_enter Tryd.func19, Tryd.ntmps19
    go_wp2
    go_loopw [3] (fun p wr => ∃ (c : Nat), 1 ≤ c ∧ c ≤ n + 1 ∧ p = .int .i64 (c : Int) ∧ Hid (∀ k', 1 ≤ k' → k' < c → ∀ m', Inc 0 n m' → m'.length = k' → ¬ BdL R m') ∧ Hid (Below w.heap.size w wr)) (fun p _ => ((n : Int) + 1 - intOf p).toNat)
    case atStart => exact ⟨1, by omega, by omega, rfl, fun k' h1 h2 => absurd h1 (by omega), Below.refl _ _⟩
    case round =>
      obtain ⟨c, h1, hc, rfl, hf, hbr⟩ := hrel
      by_cases hlt : c ≤ n
      · have hlt' : (c : Int) ≤ (n : Int) := by omega
        have KC : Hid (Calls Tryd.prog 43 #[.slice oa n cap, .int .i64 0, .int .i64 (c : Int), .slice none 0 0, .int .u64 0] wr fun e w' => ∃ v, e = .returned v ∧ Hid (ChR R n c 0 [] w' v) ∧ Hid (Below wr.heap.size wr w')) := chooseR hn c 0 [] none 0 wr (hA'.out.over hbr.out) (nilRow _) (fun _ => ⟨rfl, rfl⟩) (by simp; omega) (by simp; omega) (Nat.zero_le _)
        go_wp2_with fail
        refine KC.out.mono ?_
        rintro e w3 ⟨v, rfl, hC, hb3⟩
        have hB3 : Hid (Below w.heap.size w w3) := hbr.out.trans (hb3.out.mono hbr.out.size)
        clear KC hb3
        rcases hC.out.shape with rfl | ⟨ad, m, cp, rfl⟩
        · have hE := eq_nilN w3
          have hnb : Hid (∀ m', Inc 0 n m' → m'.length = c → ¬ BdL R m') := by
            cases hC.out with
            | no h => exact fun m' a b => by simpa using h m' a b
          go_wp2
          exact ⟨⟨c + 1, by omega, by omega, by go_num, fun k' a b => by
            by_cases e : k' = c
            · subst e; exact hnb.out
            · exact hf.out k' a (by omega), hB3⟩, by simp [intOf]; omega⟩
        · have hE := ne_nilN ad m cp w3
          have hy : Hid (ShD R n w3 (.slice (some ad) m cp)) := by
            cases hC.out with
            | yes m' h2 h3 hb hl _ _ _ hr => exact .yes hn c m' h1 hlt h2 h3 (by simpa using hb) (fun m2 a b d => hl m2 a b (by simpa using d)) hf.out _ _ _ (by simpa using hr)
          go_wp2
          go_ret
          exact ⟨_, rfl, hy, hB3⟩
      · obtain rfl : c = n + 1 := by omega
        have hlt' : ¬ ((n + 1 : Nat) : Int) ≤ (n : Int) := by omega
        go_wp2
        go_ret
        exact ⟨_, rfl, .no (.inr hf.out), hbr.out⟩
  · have hn' : ¬ (n : Int) ≤ 12 := by omega
    have h1n : (1 : Int) ≤ (n : Int) := by omega
    go_enter Tryd.func19, Tryd.ntmps19
    go_wp2
    go_loopw [3] (fun p wr => p = .int .i64 1 ∧ wr = w) (fun _ _ => 0)
    case atStart => exact ⟨rfl, rfl⟩
    case round =>
      obtain ⟨rfl, rfl⟩ := hrel
      go_wp2
      go_ret
      exact ⟨_, rfl, .no (.inl (by omega)), Below.refl _ _⟩
end
theorem ind_notBd {R : Nat → Nat} {n : Nat} (hR : ∀ r, R r < 18446744073709551616) (h : Ind R (fun r => r < n)) {m : List Nat} (hm : Inc 0 n m) : ¬ BdL R m := by
  obtain ⟨f, h1, h2⟩ := h
  have hnd : m.Nodup := hm.1.imp fun {a b} h e => by subst e; exact Nat.lt_irrefl _ h
  have h3 := pigeon (l := m.map f) (m := (nums (uwL R m)).map Fin.val) (nodup_map hnd fun x hx y hy e => h2 x y (hm.2 x hx).2 (hm.2 y hy).2 e) fun u hu => by
    obtain ⟨x, hx, rfl⟩ := List.mem_map.1 hu
    have hb := h1 x (hm.2 x hx).2
    have h64 : f x < 64 := by
      refine Nat.lt_of_not_le fun hge => ?_
      rw [Nat.testBit_lt_two_pow (Nat.lt_of_lt_of_le (hR x) (Nat.pow_le_pow_right (by decide : 0 < 2) hge : 2 ^ 64 ≤ 2 ^ f x))] at hb
      cases hb
    refine List.mem_map.2 ⟨⟨f x, h64⟩, (mem_nums _ _).2 ?_, rfl⟩
    rw [uwL_bit]
    exact ⟨x, hx, hb⟩
  simp only [List.length_map] at h3
  unfold BdL
  omega
/-- A set's rows, as a list. -/
def rowsOf (t : Nat) : List Nat := (nums t).map Fin.val
theorem rowsOf_ints (t : Nat) : I.ints (rowsOf t) = lst t := by simp [I.ints, rowsOf, lst]
theorem rowsOf_bd {R : Nat → Nat} {k t : Nat} (hk : (nums t).length = k) : BdL R (rowsOf t) ↔ Bad R k t := by
  have : uwL R (rowsOf t) = unL R (nums t) := by simp [uwL, rowsOf, unL, List.foldl_map]
  unfold BdL Bad
  rw [this, rowsOf, List.length_map, hk]
theorem rowsOf_inc {k n t : Nat} (h : t ∈ chF k (2 ^ n - 1)) : Inc 0 n (rowsOf t) ∧ (rowsOf t).length = k := by
  obtain ⟨_, h2, h3⟩ := (chF_mem k (2 ^ n - 1) t).1 h
  refine ⟨⟨?_, fun x hx => ?_⟩, by rw [rowsOf, List.length_map, h3]⟩
  · rw [rowsOf, List.pairwise_map]
    exact sorted_nums t
  · obtain ⟨i, hi, rfl⟩ := List.mem_map.1 hx
    have := h2 i hi
    rw [Nat.testBit_two_pow_sub_one] at this
    exact ⟨Nat.zero_le _, of_decide_eq_true this⟩
theorem rowsOf_set {n : Nat} (hn : n ≤ 12) {m : List Nat} (h : Inc 0 n m) : rowsOf (setOf m) = m := by
  refine sorted_extN ?_ h.1 fun i => ?_
  · rw [rowsOf, List.pairwise_map]
    exact sorted_nums _
  · rw [rowsOf, List.mem_map]
    constructor
    · rintro ⟨j, hj, rfl⟩
      rw [mem_nums, setOf_bit] at hj
      exact hj
    · intro hi
      have := (h.2 i hi).2
      exact ⟨⟨i, by omega⟩, by rw [mem_nums, setOf_bit]; exact hi, rfl⟩
theorem set_mem {n k : Nat} (hn : n ≤ 12) {m : List Nat} (h : Inc 0 n m) (hk : m.length = k) : setOf m ∈ chF k (2 ^ n - 1) := by
  have h64 : ∀ x ∈ m, x < 64 := fun x hx => by have := (h.2 x hx).2; omega
  refine (chF_mem k (2 ^ n - 1) (setOf m)).2 ⟨setOf_lt h64, fun i hi => ?_, ?_⟩
  · rw [mem_nums, setOf_bit] at hi
    rw [Nat.testBit_two_pow_sub_one]
    simpa using (h.2 _ hi).2
  · rw [← hk, ← List.length_map (f := Fin.val)]
    exact congrArg List.length (rowsOf_set hn h)
theorem cmpL_eq : ∀ {a b : List Int}, a.length = b.length → ¬ I.cmpL a b < 0 → ¬ I.cmpL b a < 0 → a = b
  | [], [], _, _, _ => rfl
  | x :: a, y :: b, h1, h2, h3 => by
    simp only [List.length_cons, Nat.add_right_cancel_iff] at h1
    simp only [I.cmpL] at h2 h3
    by_cases e : x = y
    · subst e
      rw [if_pos (I.cmpI_zero.2 rfl)] at h2 h3
      rw [cmpL_eq h1 h2 h3]
    · have n1 : ¬ I.cmpI x y = 0 := fun e' => e (I.cmpI_zero.1 e')
      have n2 : ¬ I.cmpI y x = 0 := fun e' => e (I.cmpI_zero.1 e').symm
      rw [if_neg n1, cmpI_neg] at h2
      rw [if_neg n2, cmpI_neg] at h3
      omega
theorem two_short {R : Nat → Nat} {n B : Nat} {V V2 : World} {v1 v2 : Value} (hR : ∀ r, R r < 18446744073709551616) (h1 : ShoP R n B V v1) (h2 : ShD R n V2 v2) (hV : Below V.heap.size V V2) : ∃ l, l.length ≤ 1000 ∧ I.RowI V2 v1 l ∧ I.RowI V2 v2 l := by
  cases h1 with
  | no a =>
    cases h2 with
    | no _ => exact ⟨[], by simp, nilRow _, nilRow _⟩
    | yes hn k m _ _ hi _ hb =>
      rcases a with a | a
      · omega
      · exact absurd hb (ind_notBd hR a hi)
  | yes hn _ k g cap t h1 hk hm hb hl hf ho =>
    have hin := rowsOf_inc hm
    have hkt : (nums t).length = k := by rw [← hin.2, rowsOf, List.length_map]
    cases h2 with
    | no a =>
      rcases a with a | a
      · omega
      · exact absurd ((rowsOf_bd hkt).2 hb) (a k h1 (by omega) _ hin.1 hin.2)
    | yes _ k2 m a1 a2 a3 a4 a5 a6 a7 ad c cp hr =>
      have hset := rowsOf_set hn a3
      have hsl : (nums (setOf m)).length = k2 := by rw [← a4, ← List.length_map (f := Fin.val)]; exact congrArg List.length hset
      have hbm : Bad R k2 (setOf m) := (rowsOf_bd hsl).1 (by rw [hset]; exact a5)
      have e : k = k2 := by
        rcases Nat.lt_trichotomy k k2 with h | h | h
        · exact absurd ((rowsOf_bd hkt).2 hb) (a7 k h1 h _ hin.1 hin.2)
        · exact h
        · exact absurd hbm (hf k2 a1 h _ (set_mem hn a3 a4))
      subst e
      have q1 := hl _ (set_mem hn a3 a4) hbm
      rw [← rowsOf_ints, ← rowsOf_ints, hset] at q1
      have q2 := a6 _ hin.1 hin.2 ((rowsOf_bd hkt).2 hb)
      have q3 : I.ints m = I.ints (rowsOf t) := cmpL_eq (by rw [I.ints_len, I.ints_len, a4, hin.2]) q1 q2
      refine ⟨I.ints m, by rw [I.ints_len, a4]; omega, ?_, hr⟩
      rw [q3, rowsOf_ints]
      exact (I.RowI.of_owns ho).below hV (Nat.le_refl _)
end Go.Proofs.YthjgbnehoiafhaaDoor.M
