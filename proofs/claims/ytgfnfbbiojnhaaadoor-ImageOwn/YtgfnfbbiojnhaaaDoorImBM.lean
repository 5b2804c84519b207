/- There and back: plain. -/
import Derived.Test.YtgfnfbbiojnhaaaDoorImV
namespace Go.Proofs.YtgfnfbbiojnhaaaDoor
open Go.RowKit
theorem be_succ (wd n : Nat) : be (wd + 1) n = be wd (n / 256) ++ [n % 256] := by
  unfold be
  rw [List.range_succ, List.map_append]
  congr 1
  · refine List.map_congr_left fun i hi => ?_
    have := List.mem_range.1 hi
    rw [Nat.div_div_eq_div_mul, show wd + 1 - 1 - i = (wd - 1 - i) + 1 by omega, Nat.pow_succ, Nat.mul_comm]
  · simp
theorem num_be : ∀ (wd n : Nat), n < 256 ^ wd → numB (be wd n) = n
  | 0, n, h => by simp at h; subst h; rfl
  | wd + 1, n, h => by
    rw [be_succ, numB_snoc, num_be wd (n / 256) (by rw [Nat.pow_succ] at h; omega)]
    omega
theorem be_num : ∀ (l : List Nat), (∀ b ∈ l, b < 256) → be l.length (numB l) = l := by
  have key : ∀ n, ∀ l : List Nat, l.length = n → (∀ b ∈ l, b < 256) → be n (numB l) = l := by
    intro n
    induction n with
    | zero => intro l hl _; rw [List.eq_nil_of_length_eq_zero hl]; rfl
    | succ n ih =>
      intro l hl hb
      have hne : l ≠ [] := fun e => by rw [e] at hl; cases hl
      have e : l = l.dropLast ++ [l.getLast hne] := (List.dropLast_concat_getLast hne).symm
      have h1 := ih l.dropLast (by rw [List.length_dropLast]; omega) (fun b hb' => hb b ((List.dropLast_sublist l).subset hb'))
      have h2 := hb (l.getLast hne) (List.getLast_mem hne)
      rw [be_succ]
      have hv : numB l = 256 * numB l.dropLast + l.getLast hne := by rw [← numB_snoc, ← e]
      rw [hv, show (256 * numB l.dropLast + l.getLast hne) / 256 = numB l.dropLast by omega, show (256 * numB l.dropLast + l.getLast hne) % 256 = l.getLast hne by omega, h1, ← e]
  exact fun l hb => key _ l rfl hb
/-- A part with bytes behind it. -/
theorem pt_be (w : Nat) (T Y : List Nat) (h : T.length < 256 ^ w) : ptL w (be w T.length ++ T ++ Y) = T.length ∧ ptB w (be w T.length ++ T ++ Y) = true ∧ ptR w (be w T.length ++ T ++ Y) = Y ∧ ptT w (be w T.length ++ T ++ Y) = T := by
  have h1 : ptL w (be w T.length ++ T ++ Y) = T.length := by
    unfold ptL
    rw [List.append_assoc, List.take_left' (be_len _ _), num_be w _ h]
  refine ⟨h1, ?_, ?_, ?_⟩
  · unfold ptB
    rw [h1]
    simp [be_len]
  · unfold ptR
    rw [h1]
    have : w + T.length = (be w T.length ++ T).length := by rw [List.length_append, be_len]
    rw [this]
    exact List.drop_left
  · unfold ptT
    rw [h1, List.append_assoc, List.drop_left' (be_len _ _)]
    exact List.take_left
/-- The bytes of four parts. -/
def tlB (a b c t : List Nat) : List Nat := be 1 a.length ++ a ++ (be 1 b.length ++ b ++ (be 1 c.length ++ c ++ (be 4 t.length ++ t)))
theorem tl_rem (a b c t Z : List Nat) (ha : a.length ≤ 255) (hb : b.length ≤ 255) (hc : c.length ≤ 255) (ht : t.length ≤ 65536) :
    rem (tlB a b c t ++ Z) 0 = be 1 a.length ++ a ++ (be 1 b.length ++ b ++ (be 1 c.length ++ c ++ (be 4 t.length ++ t ++ Z))) ∧ rem (tlB a b c t ++ Z) 1 = be 1 b.length ++ b ++ (be 1 c.length ++ c ++ (be 4 t.length ++ t ++ Z)) ∧ rem (tlB a b c t ++ Z) 2 = be 1 c.length ++ c ++ (be 4 t.length ++ t ++ Z) ∧ rem (tlB a b c t ++ Z) 3 = be 4 t.length ++ t ++ Z ∧ rem (tlB a b c t ++ Z) 4 = Z := by
  have e0 : rem (tlB a b c t ++ Z) 0 = be 1 a.length ++ a ++ (be 1 b.length ++ b ++ (be 1 c.length ++ c ++ (be 4 t.length ++ t ++ Z))) := by
    show tlB a b c t ++ Z = _
    unfold tlB
    simp only [List.append_assoc]
  have e1 : rem (tlB a b c t ++ Z) 1 = be 1 b.length ++ b ++ (be 1 c.length ++ c ++ (be 4 t.length ++ t ++ Z)) := by
    show ptR 1 (rem (tlB a b c t ++ Z) 0) = _
    rw [e0]; exact (pt_be 1 a _ (by omega)).2.2.1
  have e2 : rem (tlB a b c t ++ Z) 2 = be 1 c.length ++ c ++ (be 4 t.length ++ t ++ Z) := by
    show ptR 1 (rem (tlB a b c t ++ Z) 1) = _
    rw [e1]; exact (pt_be 1 b _ (by omega)).2.2.1
  have e3 : rem (tlB a b c t ++ Z) 3 = be 4 t.length ++ t ++ Z := by
    show ptR 1 (rem (tlB a b c t ++ Z) 2) = _
    rw [e2]; exact (pt_be 1 c _ (by omega)).2.2.1
  refine ⟨e0, e1, e2, e3, ?_⟩
  show ptR 4 (rem (tlB a b c t ++ Z) 3) = _
  rw [e3]; exact (pt_be 4 t _ (by omega)).2.2.1
theorem tl_msr (a b c t : List Nat) (ha : a.length ≤ 255) (hb : b.length ≤ 255) (hc : c.length ≤ 255) (ht : t.length ≤ 65536) : msr (tlB a b c t) = true ∧ ptT 1 (rem (tlB a b c t) 0) = a ∧ ptT 1 (rem (tlB a b c t) 1) = b ∧ ptT 1 (rem (tlB a b c t) 2) = c ∧ ptT 4 (rem (tlB a b c t) 3) = t := by
  obtain ⟨e0, e1, e2, e3, e4⟩ := tl_rem a b c t [] ha hb hc ht
  rw [List.append_nil] at e0 e1 e2 e3 e4
  have p0 := pt_be 1 a (be 1 b.length ++ b ++ (be 1 c.length ++ c ++ (be 4 t.length ++ t ++ []))) (by omega)
  have p1 := pt_be 1 b (be 1 c.length ++ c ++ (be 4 t.length ++ t ++ [])) (by omega)
  have p2 := pt_be 1 c (be 4 t.length ++ t ++ []) (by omega)
  have p3 := pt_be 4 t [] (by omega)
  refine ⟨?_, by rw [e0]; exact p0.2.2.2, by rw [e1]; exact p1.2.2.2, by rw [e2]; exact p2.2.2.2, by rw [e3]; exact p3.2.2.2⟩
  unfold msr
  have o0 : okJ (tlB a b c t) 0 = true := by show ptB 1 (rem (tlB a b c t) 0) = true; rw [e0]; exact p0.2.1
  have o1 : okJ (tlB a b c t) 1 = true := by show ptB 1 (rem (tlB a b c t) 1) = true; rw [e1]; exact p1.2.1
  have o2 : okJ (tlB a b c t) 2 = true := by show ptB 1 (rem (tlB a b c t) 2) = true; rw [e2]; exact p2.2.1
  have o3 : okJ (tlB a b c t) 3 = true := by show ptB 4 (rem (tlB a b c t) 3) = true; rw [e3]; exact p3.2.1
  have l3 : lenJ (tlB a b c t) 3 = t.length := by show ptL 4 (rem (tlB a b c t) 3) = _; rw [e3]; exact p3.1
  rw [o0, o1, o2, o3, l3, e4]
  simp [ht]
/-- Four parts with a byte behind them are none. -/
theorem pt_app {w : Nat} {M : List Nat} (h : ptB w M = true) (Z : List Nat) : ptL w (M ++ Z) = ptL w M ∧ ptB w (M ++ Z) = true ∧ ptR w (M ++ Z) = ptR w M ++ Z := by
  have h' := of_decide_eq_true h
  have e : ptL w (M ++ Z) = ptL w M := by
    unfold ptL
    rw [List.take_append_of_le_length (by omega)]
  refine ⟨e, ?_, ?_⟩
  · unfold ptB
    rw [e]
    simp
    omega
  · unfold ptR
    rw [e, List.drop_append_of_le_length (by omega)]
theorem rem_app {M : List Nat} (h : msr M = true) (Z : List Nat) : ∀ j, j ≤ 4 → rem (M ++ Z) j = rem M j ++ Z
  | 0, _ => rfl
  | j + 1, hj => by
    show ptR (ptW j) (rem (M ++ Z) j) = ptR (ptW j) (rem M j) ++ Z
    rw [rem_app h Z j (by omega)]
    exact (pt_app (msr_ok h j (by omega)) Z).2.2
theorem msr_more {M : List Nat} (h : msr M = true) (z : Nat) : msr (M ++ [z]) = false := by
  have e := rem_app h [z] 4 (by omega)
  unfold msr
  rw [e]
  simp
theorem i64_uN {n : Int} (h1 : -9223372036854775808 ≤ n) (h2 : n < 9223372036854775808) : IntKind.i64.wrap (uN n : Int) = n := by
  unfold IntKind.wrap uN
  simp [IntKind.bits, IntKind.signed]
  omega
theorem uN_i64 {x : Nat} (h : x < 18446744073709551616) : uN (IntKind.i64.wrap (x : Int)) = x := by
  unfold IntKind.wrap uN
  simp [IntKind.bits, IntKind.signed]
  omega
theorem i64_rng (x : Int) : -9223372036854775808 ≤ IntKind.i64.wrap x ∧ IntKind.i64.wrap x < 9223372036854775808 := by
  unfold IntKind.wrap
  simp [IntKind.bits, IntKind.signed]
  omega
theorem wrE_zero {C : Cl} (h : wrE C = 0) : 1 ≤ C.op ∧ C.op ≤ 255 ∧ C.a.size ≤ 255 ∧ C.b.size ≤ 255 ∧ C.c.size ≤ 255 ∧ C.t.size ≤ 65536 := by
  unfold wrE at h
  split at h
  · cases h
  · rename_i h1
    split at h
    · rename_i h2
      unfold fitN at h2
      simp at h2
      omega
    · cases h
theorem wrL_eq {C : Cl} (h : wrE C = 0) : wrL C = C.op.toNat :: (be 8 (uN C.n) ++ tlB (sB C.a) (sB C.b) (sB C.c) (sB C.t)) := by
  obtain ⟨h1, h2, _⟩ := wrE_zero h
  show wr4 C = _
  unfold wr4 wr3 wr2 wr1 wr0 tlB
  rw [be_one (show C.op.toNat < 256 by omega)]
  simp [sB_len]
theorem sB_empty : sB ⟨#[]⟩ = [] := rfl
/-- What is written is read. -/
theorem back_wr {C : Cl} (h : wrE C = 0) (h1 : -9223372036854775808 ≤ C.n) (h2 : C.n < 9223372036854775808) : rdOk (wrL C) = true ∧ rdC (wrL C) = C ∧ rdE (wrL C) = 0 := by
  obtain ⟨ho1, ho2, ha, hb, hc, ht⟩ := wrE_zero h
  have e := wrL_eq h
  have hl : (be 8 (uN C.n)).length = 8 := be_len _ _
  have ed : (wrL C).drop 9 = tlB (sB C.a) (sB C.b) (sB C.c) (sB C.t) := by
    rw [e, List.drop_succ_cons]
    exact List.drop_left' hl
  have e8 : ((wrL C).drop 1).take 8 = be 8 (uN C.n) := by
    rw [e, List.drop_succ_cons, List.drop_zero]
    exact List.take_left' hl
  have e0 : (wrL C).getD 0 0 = C.op.toNat := by rw [e]; rfl
  obtain ⟨m, p0, p1, p2, p3⟩ := tl_msr (sB C.a) (sB C.b) (sB C.c) (sB C.t) (by rw [sB_len]; exact ha) (by rw [sB_len]; exact hb) (by rw [sB_len]; exact hc) (by rw [sB_len]; exact ht)
  have hok : rdOk (wrL C) = true := by
    unfold rdOk
    rw [ed, m, e0]
    have : 9 ≤ (wrL C).length := by rw [e, List.length_cons, List.length_append, hl]; omega
    simp
    omega
  refine ⟨hok, ?_, by unfold rdE; rw [hok]; rfl⟩
  unfold rdC
  rw [hok, if_pos rfl]
  unfold rdK
  rw [ed, e8, e0, p0, p1, p2, p3, num_be 8 _ (uN_lt _), i64_uN h1 h2, strB_sB, strB_sB, strB_sB, strB_sB]
  have : ((C.op.toNat : Nat) : Int) = C.op := by omega
  rw [this]
theorem rdE_no {R : List Nat} (h : rdOk R = false) : rdE R = 3 ∧ rdC R = noK := by
  unfold rdE rdC
  rw [h]
  exact ⟨rfl, rfl⟩
/-- With a byte more it is none. -/
theorem back_more {R : List Nat} (h : rdOk R = true) (z : Nat) : rdE (R ++ [z]) = 3 := by
  refine (rdE_no ?_).1
  unfold rdOk at h ⊢
  simp at h
  rw [show (R ++ [z]).drop 9 = R.drop 9 ++ [z] from List.drop_append_of_le_length h.1.1, msr_more h.2 z]
  simp
/-- With a byte less it is none. -/
theorem back_less {R : List Nat} (h : rdOk R = true) : rdE (R.take (R.length - 1)) = 3 := by
  by_cases hc : rdOk (R.take (R.length - 1)) = true
  · exfalso
    have h9 : 9 ≤ R.length := by
      unfold rdOk at h
      simp at h
      exact h.1.1
    have hne : R ≠ [] := fun e => by rw [e] at h9; simp at h9
    have e : R.take (R.length - 1) ++ [R.getLast hne] = R := by
      rw [← List.dropLast_eq_take]; exact List.dropLast_concat_getLast hne
    have k := back_more hc (R.getLast hne)
    rw [e] at k
    unfold rdE at k
    rw [h] at k
    cases k
  · exact (rdE_no (by simpa using hc)).1
theorem wrL_16 {C : Cl} : 16 ≤ (wrL C).length := by
  rw [wrL_len]
  omega
theorem ptT_eq {w : Nat} {X : List Nat} (hb : ∀ b ∈ X, b < 256) (h : ptB w X = true) : be w (ptT w X).length ++ ptT w X ++ ptR w X = X := by
  have h' := of_decide_eq_true h
  have hl : (ptT w X).length = ptL w X := by
    unfold ptT
    rw [List.length_take, List.length_drop]
    omega
  have e1 : be w (ptL w X) = X.take w := by
    have := be_num (X.take w) (fun b hb' => hb b (List.mem_of_mem_take hb'))
    rw [List.length_take, Nat.min_eq_left (by omega)] at this
    exact this
  rw [hl, e1]
  unfold ptT ptR
  rw [← List.drop_drop, List.append_assoc, List.take_append_drop, List.take_append_drop]
/-- What is taken is written again. -/
theorem back_rd {R : List Nat} (hb : ∀ b ∈ R, b < 256) (h : rdOk R = true) : wrE (rdC R) = 0 ∧ wrL (rdC R) = R := by
  have hC : rdC R = rdK R := by unfold rdC; rw [if_pos h]
  rw [hC]
  have h0 := h
  unfold rdOk at h0
  simp at h0
  obtain ⟨⟨h9, hz⟩, hm⟩ := h0
  have hbd : ∀ b ∈ R.drop 9, b < 256 := fun b hb' => hb b (List.mem_of_mem_drop hb')
  obtain ⟨b0, l, hR⟩ : ∃ b0 l, R = b0 :: l := by
    cases R with
    | nil => simp at h9
    | cons b0 l => exact ⟨b0, l, rfl⟩
  have hb0 : b0 < 256 := hb b0 (by rw [hR]; simp)
  have hg0 : R.getD 0 0 = b0 := by rw [hR]; rfl
  have hz' : b0 ≠ 0 := by
    intro e
    rw [hR] at hz
    simp at hz
    exact hz e
  have hsz : ∀ j, j < 4 → (ptX R j).size = lenJ (R.drop 9) j := fun j hj => ptX_size (msr_ok hm j hj)
  have hone : ∀ j, j < 3 → lenJ (R.drop 9) j ≤ 255 := fun j hj => by
    have e1 : ptW j = 1 := by unfold ptW; rw [if_pos hj]
    have : lenJ (R.drop 9) j < 256 := by unfold lenJ; rw [e1]; exact ptL_one (rem_mem hbd j)
    omega
  have h3 : lenJ (R.drop 9) 3 ≤ 65536 := by
    unfold msr at hm
    simp at hm
    exact hm.1.2
  have hE : wrE (rdK R) = 0 := by
    unfold wrE
    have ho : (rdK R).op = (b0 : Int) := by unfold rdK; rw [hg0]
    rw [ho, if_neg (by omega)]
    have hf : fitN (rdK R) = true := by
      have s0 : (rdK R).a.size ≤ 255 := Nat.le_trans (Nat.le_of_eq (hsz 0 (by omega))) (hone 0 (by omega))
      have s1 : (rdK R).b.size ≤ 255 := Nat.le_trans (Nat.le_of_eq (hsz 1 (by omega))) (hone 1 (by omega))
      have s2 : (rdK R).c.size ≤ 255 := Nat.le_trans (Nat.le_of_eq (hsz 2 (by omega))) (hone 2 (by omega))
      have s3 : (rdK R).t.size ≤ 65536 := Nat.le_trans (Nat.le_of_eq (hsz 3 (by omega))) h3
      unfold fitN
      simp [s0, s1, s2, s3]
    rw [if_pos hf]
  refine ⟨hE, ?_⟩
  rw [wrL_eq hE]
  have hop : (rdK R).op.toNat = b0 := by
    have ho : (rdK R).op = (b0 : Int) := by unfold rdK; rw [hg0]
    rw [ho]; exact Int.toNat_natCast b0
  have hn : be 8 (uN (rdK R).n) = (R.drop 1).take 8 := by
    have e : (rdK R).n = IntKind.i64.wrap (numB ((R.drop 1).take 8) : Int) := rfl
    have hlt := numB_lt ((R.drop 1).take 8) (fun b hb' => hb b (List.mem_of_mem_drop (List.mem_of_mem_take hb')))
    have hl8 : ((R.drop 1).take 8).length = 8 := by rw [List.length_take, List.length_drop]; omega
    rw [hl8] at hlt
    rw [e, uN_i64 hlt]
    have := be_num ((R.drop 1).take 8) (fun b hb' => hb b (List.mem_of_mem_drop (List.mem_of_mem_take hb')))
    rwa [hl8] at this
  have hmem : ∀ j (w : Nat), ∀ b ∈ ptT w (rem (R.drop 9) j), b < 256 := fun j w b hb' => by
    unfold ptT at hb'
    exact rem_mem hbd j b (List.mem_of_mem_drop (List.mem_of_mem_take hb'))
  have sa : sB (rdK R).a = ptT 1 (rem (R.drop 9) 0) := sB_strB (hmem 0 1)
  have sb : sB (rdK R).b = ptT 1 (rem (R.drop 9) 1) := sB_strB (hmem 1 1)
  have sc : sB (rdK R).c = ptT 1 (rem (R.drop 9) 2) := sB_strB (hmem 2 1)
  have st : sB (rdK R).t = ptT 4 (rem (R.drop 9) 3) := sB_strB (hmem 3 4)
  have q0 : be 1 (ptT 1 (rem (R.drop 9) 0)).length ++ ptT 1 (rem (R.drop 9) 0) ++ rem (R.drop 9) 1 = rem (R.drop 9) 0 := ptT_eq (rem_mem hbd 0) (msr_ok hm 0 (by omega))
  have q1 : be 1 (ptT 1 (rem (R.drop 9) 1)).length ++ ptT 1 (rem (R.drop 9) 1) ++ rem (R.drop 9) 2 = rem (R.drop 9) 1 := ptT_eq (rem_mem hbd 1) (msr_ok hm 1 (by omega))
  have q2 : be 1 (ptT 1 (rem (R.drop 9) 2)).length ++ ptT 1 (rem (R.drop 9) 2) ++ rem (R.drop 9) 3 = rem (R.drop 9) 2 := ptT_eq (rem_mem hbd 2) (msr_ok hm 2 (by omega))
  have q3 : be 4 (ptT 4 (rem (R.drop 9) 3)).length ++ ptT 4 (rem (R.drop 9) 3) ++ rem (R.drop 9) 4 = rem (R.drop 9) 3 := ptT_eq (rem_mem hbd 3) (msr_ok hm 3 (by omega))
  have q4 : rem (R.drop 9) 4 = [] := by
    unfold msr at hm
    simp at hm
    exact hm.2
  rw [q4, List.append_nil] at q3
  rw [hop, hn, sa, sb, sc, st]
  unfold tlB
  rw [q3, q2, q1, q0]
  show b0 :: ((R.drop 1).take 8 ++ R.drop 9) = R
  have e9 : R.drop 9 = (R.drop 1).drop 8 := by rw [List.drop_drop]
  rw [e9, List.take_append_drop, hR]
  rfl
end Go.Proofs.YtgfnfbbiojnhaaaDoor
