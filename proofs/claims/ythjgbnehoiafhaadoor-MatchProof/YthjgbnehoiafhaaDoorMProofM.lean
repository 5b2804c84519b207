/- What MatchProof asks of Least, Short and Size; the law's bits. -/
import Derived.Test.YthjgbnehoiafhaaDoorMRShort
import Derived.Test.YthjgbnehoiafhaaDoorMFreeLaw
namespace Go.Proofs.YthjgbnehoiafhaaDoor.M
open Go.RowKit Go.Shelf
theorem cnt_end {x c : Nat} (hc : c ≤ 64) (h : x / 2 ^ c = 0) : cnt x c = (nums x).length := by
  have hx : x < 2 ^ c := by
    rcases Nat.div_eq_zero_iff.1 h with h0 | h0
    · exact absurd h0 (by have := Nat.two_pow_pos c; omega)
    · exact h0
  rw [← List.length_map (f := Fin.val)]
  refine same_len (List.Pairwise.filter _ List.nodup_range) (numsV_nodup x) fun u => ?_
  simp only [List.mem_filter, List.mem_range, List.mem_map]
  constructor
  · rintro ⟨h1, h2⟩
    exact ⟨⟨u, by omega⟩, (mem_nums x _).2 h2, rfl⟩
  · rintro ⟨i, hi, rfl⟩
    have hb := (mem_nums x i).1 hi
    refine ⟨?_, hb⟩
    refine Nat.lt_of_not_le fun hge => ?_
    rw [Nat.testBit_lt_two_pow (Nat.lt_of_lt_of_le hx (Nat.pow_le_pow_right (by decide : 0 < 2) hge))] at hb
    cases hb
theorem div_pow_succ (x c : Nat) : x / 2 ^ (c + 1) = x / 2 ^ c / 2 := by rw [Nat.pow_succ, Nat.div_div_eq_div_mul]
theorem div_small {x c : Nat} (hx : x < 18446744073709551616) (h : x / 2 ^ c ≠ 0) : c < 64 := by
  refine Nat.lt_of_not_le fun hge => h (Nat.div_eq_zero_iff.2 (.inr ?_))
  exact Nat.lt_of_lt_of_le hx (Nat.pow_le_pow_right (by decide : 0 < 2) hge : 2 ^ 64 ≤ 2 ^ c)
theorem and_one (y : Nat) (hy : y < 18446744073709551616) : bits .and .u64 (y : Int) 1 = ((y % 2 : Nat) : Int) := by
  have h3 := u64_and_nat y 1 hy (by decide)
  rw [show (1 : Int) = ((1 : Nat) : Int) from rfl, h3, Nat.and_one_is_mod]
set_option maxRecDepth 100000 in
set_option maxHeartbeats 1000000 in
theorem bitsL (x : Nat) (hx : x < 18446744073709551616) (w : World) : Calls Tryd.prog 22 #[.int .u64 (x : Int)] w fun e w' => e = .returned (.int .i64 ((nums x).length : Int)) ∧ w' = w := by
  have hs : Hid (∀ c, cnt x (c + 1) = cnt x c + (x.testBit c).toNat) := fun c => cnt_succ x c
  have hl : Hid (∀ c, cnt x c ≤ c) := fun c => cnt_le x c
  have hd : Hid (∀ c, c ≤ 64 → x / 2 ^ c = 0 → cnt x c = (nums x).length) := fun c h1 h2 => cnt_end h1 h2
  have h0 : Hid (cnt x 0 = 0) := rfl
  have hx' := hide' hx
  have hxx : x < 18446744073709551616 := hx
  have hb : Hid (∀ c z, z = x / 2 ^ c → x.testBit c = decide (z % 2 = 1)) := fun c z h => by subst h; rw [Nat.testBit_eq_decide_div_mod_eq]
  generalize cnt x = f at *
  generalize (nums x).length = r at *
  go_enter Tryd.func22, Tryd.ntmps22
  go_wp2
  go_loop [0, 3] (fun y m => ∃ c z : Nat, c ≤ 64 ∧ y = .int .u64 (z : Int) ∧ Hid (z = x / 2 ^ c) ∧ z < 18446744073709551616 ∧ m = .int .i64 (f c : Int)) (fun y _ => (intOf y).toNat)
  case atStart => exact ⟨0, x, by omega, rfl, by show _ = _; simp, hxx, by rw [h0.out]; rfl⟩
  case round =>
    clear hxx hx
    obtain ⟨c, z, hc, rfl, hz, hz64, rfl⟩ := hrel
    have hle := hl.out c
    by_cases hzz : z = 0
    · subst hzz
      have hr : Hid (f c = r) := hd.out c hc hz.out.symm
      go_wp2
      go_ret
      exact ⟨by rw [hr.out]; rfl, rfl⟩
    · have hpos : (0 : Int) < (z : Int) := by omega
      have hc64 : c < 64 := div_small hx'.out (by rw [← hz.out]; exact hzz)
      have han := and_one z hz64
      have hsc := hs.out c
      rw [hb.out c z hz.out] at hsc
      have hn : Hid (z / 2 = x / 2 ^ (c + 1)) := by show _ = _; rw [div_pow_succ, ← hz.out]
      have hlt2 : z / 2 < z := by omega
      rcases Nat.mod_two_eq_zero_or_one z with e | e
      · rw [e] at han hsc
        have hsc' : Hid (f (c + 1) = f c) := by show _ = _; simpa using hsc
        clear hsc
        have e' := hide' e
        clear e
        go_wp2
        refine ⟨⟨c + 1, z / 2, by omega, ?_, hn, by omega, by rw [hsc'.out]⟩, ?_⟩
        · first | rfl | (congr 1; omega) | go_num
        · simp [intOf]; omega
      · rw [e] at han hsc
        have hsc' : Hid (f (c + 1) = f c + 1) := by show _ = _; simpa using hsc
        clear hsc
        have e' := hide' e
        clear e
        go_wp2
        refine ⟨⟨c + 1, z / 2, by omega, ?_, hn, by omega, by rw [hsc'.out]; go_num⟩, ?_⟩
        · first | rfl | (congr 1; omega) | go_num
        · simp [intOf]; omega
/-- What Least answers, by a Bool, with no list where there is none. -/
def LeB2 (w : World) (n : Nat) (R : Nat → Nat) (e : Ending) (w' : World) : Prop :=
  (∃ pl oaL capL, e = .returned (.tuple #[.slice oaL n capL, .bool true]) ∧ Hid (Below w.heap.size w w') ∧ Hid (FullM n R pl) ∧ Hid (∀ r, r < n → ∃ g o, oaL = some ⟨g, o, none⟩ ∧ w'.cell? ⟨g, o + r, none⟩ = some (.int .i64 (pl r : Int)))) ∨
  (e = .returned (.tuple #[.slice none 0 0, .bool false]) ∧ Hid (Below w.heap.size w w') ∧ Hid (¬ Ind R (fun r => r < n)))
theorem leastB2 {n : Nat} {R : Nat → Nat} {w : World} {oa : Option Addr} {cap : Nat} (hA : RwA w (.slice oa n cap) n R) (hn : n ≤ 12) : Calls Tryd.prog 9 #[.slice oa n cap] w (LeB2 w n R) :=
  (leastF hA).mono fun e w' ⟨hb, h⟩ => by
    rcases h with ⟨_, pl, v, he, hL, ho⟩ | ⟨he, hno⟩
    · obtain ⟨oaL, capL, e1, hc, hcl⟩ := I.RowI.of_owns ho.out
      rw [plL_len] at e1 hc
      subst e1
      exact .inl ⟨pl, oaL, capL, he, hb, hL.out.full, fun r hr => hcl r _ (by simp [plL, hr])⟩
    · exact .inr ⟨he, hb, hno.out hn⟩
/-- The rows of a list but for one of them. -/
def rl (S : List Nat) (c i : Nat) : List Nat := ((List.range i).filter fun j => decide (j ≠ c)).map fun j => fn S j
theorem rl_zero (S : List Nat) (c : Nat) : rl S c 0 = [] := rfl
theorem rl_same (S : List Nat) (c : Nat) : rl S c (c + 1) = rl S c c := by simp [rl, List.range_succ, List.filter_append]
theorem rl_next (S : List Nat) {c i : Nat} (h : i ≠ c) : rl S c (i + 1) = rl S c i ++ [fn S i] := by simp [rl, List.range_succ, List.filter_append, h]
theorem rl_len (S : List Nat) (c i : Nat) : (rl S c i).length ≤ i := by
  unfold rl
  rw [List.length_map]
  exact Nat.le_trans (List.length_filter_le _ _) (by simp)
theorem rl_short (S : List Nat) {c k : Nat} (hc : c < k) : (rl S c k).length < k := by
  unfold rl
  rw [List.length_map]
  have := pigeon (l := (List.range k).filter fun j => decide (j ≠ c)) (m := (List.range k).erase c) (List.Pairwise.filter _ List.nodup_range) fun x hx => by
    have := List.mem_filter.1 hx
    exact (List.mem_erase_of_ne (by simpa using this.2)).2 this.1
  rw [List.length_erase_of_mem (List.mem_range.2 hc), List.length_range] at this
  omega
theorem fn_mem {S : List Nat} {j : Nat} (h : j < S.length) : fn S j ∈ S := List.mem_of_getElem? (fn_get h)
theorem fn_lt_of {S : List Nat} (hS : S.Pairwise (· < ·)) {i j : Nat} (hij : i < j) (hj : j < S.length) : fn S i < fn S j := by
  have h1 := fn_get (L := S) (r := i) (by omega)
  have h2 := fn_get (L := S) (r := j) hj
  have e1 := (List.getElem?_eq_some_iff.1 h1).2
  have e2 := (List.getElem?_eq_some_iff.1 h2).2
  rw [← e1, ← e2]
  exact List.pairwise_iff_getElem.1 hS i j _ _ hij
theorem rl_mem {S : List Nat} {c i x : Nat} (hi : i ≤ S.length) (h : x ∈ rl S c i) : x ∈ S := by
  obtain ⟨j, hj, rfl⟩ := List.mem_map.1 h
  have := List.mem_range.1 (List.mem_filter.1 hj).1
  exact fn_mem (by omega)
theorem rl_nodup {S : List Nat} (hS : S.Pairwise (· < ·)) {c i : Nat} (hi : i ≤ S.length) : (rl S c i).Nodup := by
  refine nodup_map (List.Pairwise.filter _ List.nodup_range) fun x hx y hy e => ?_
  have hx' := List.mem_range.1 (List.mem_filter.1 hx).1
  have hy' := List.mem_range.1 (List.mem_filter.1 hy).1
  rcases Nat.lt_trichotomy x y with h | h | h
  · have := fn_lt_of hS h (by omega); omega
  · exact h
  · have := fn_lt_of hS h (by omega); omega
/-- The words of these rows. -/
def wds (R : Nat → Nat) (l : List Nat) : List Nat := l.map R
theorem wds_fn {R : Nat → Nat} {l : List Nat} {r : Nat} (h : r < l.length) : fn (wds R l) r = R (fn l r) := by
  refine fn_at ?_
  rw [wds, List.getElem?_map, fn_get h]; rfl
theorem ind_wds {R : Nat → Nat} {l : List Nat} (hn : l.Nodup) (h : Ind R (fun r => r ∈ l)) : Ind (fn (wds R l)) (fun r => r < (wds R l).length) := by
  obtain ⟨f, h1, h2⟩ := h
  have hl : (wds R l).length = l.length := by simp [wds]
  refine ⟨fun r => f (fn l r), fun r hr => ?_, fun r s hr hs e => ?_⟩
  · rw [hl] at hr
    rw [wds_fn hr]; exact h1 _ (fn_mem hr)
  · rw [hl] at hr hs
    have := h2 _ _ (fn_mem hr) (fn_mem hs) e
    have e1 := fn_get hr
    have e2 := fn_get hs
    rw [this] at e1
    exact (List.getElem?_inj hr hn).1 (e1.trans e2.symm)
/-- Without one of them the others have places of their own. -/
theorem rest_size {R : Nat → Nat} {n k : Nat} (hn : n ≤ 12) {S : List Nat} (hS : Inc 0 n S) (hk : S.length = k) (hkn : k ≤ n) (hf : ∀ k', 1 ≤ k' → k' < k → ∀ t' ∈ chF k' (2 ^ n - 1), ¬ Bad R k' t') {c : Nat} (hc : c < k) : sizeN (fn (wds R (rl S c k))) (wds R (rl S c k)).length = (wds R (rl S c k)).length := by
  have hnd := rl_nodup hS.1 (c := c) (i := k) (by omega)
  have hlen := rl_short S hc
  have hl : (wds R (rl S c k)).length = (rl S c k).length := by simp [wds]
  have hi := hall_ind (R := R) hn hnd (fun x hx => (hS.2 x (rl_mem (by omega) hx)).2) fun k' h1 h2 => hf k' h1 (by omega)
  unfold sizeN
  rw [if_pos (by omega)]
  exact (grN_iff _).2 (ind_wds hnd hi)
theorem uw_take {R : Nat → Nat} {S : List Nat} {c : Nat} (h : c < S.length) : uwL R (S.take (c + 1)) = uwL R (S.take c) ||| R (fn S c) := by
  rw [List.take_add_one, fn_get h, ← uwL_snoc]; rfl
end Go.Proofs.YthjgbnehoiafhaaDoor.M
