/- SolveTight, walked. -/
import Derived.Test.YtambepkkhfandaaDoorJ02
import Derived.Test.YtambepkkhfandaaDoorJ11
import Derived.Test.YtambepkkhfandaaDoorJ24
import Derived.Test.YtambepkkhfandaaDoorJ26
import Derived.Test.YtambepkkhfandaaDoorJ28
namespace Go.Proofs.YtambepkkhfandaaDoor.S
open Go.RowKit Go.Shelf
theorem bd_num : ∀ n, n ≤ 12 → ∀ U : Nat, 2 * (cntB n 0 + cntB n 0 * U + (cntB n 0 * (n * U * n) + n * U * (n + n * n))) ≤ W2.bd n U := by
  intro n hn U
  unfold W2.bd
  rcases (show n = 0 ∨ n = 1 ∨ n = 2 ∨ n = 3 ∨ n = 4 ∨ n = 5 ∨ n = 6 ∨ n = 7 ∨ n = 8 ∨ n = 9 ∨ n = 10 ∨ n = 11 ∨ n = 12 by omega) with rfl | rfl | rfl | rfl | rfl | rfl | rfl | rfl | rfl | rfl | rfl | rfl | rfl
  · rw [show cntB 0 0 = 0 by decide +kernel, show ways 0 0 = 1 by decide +kernel]; omega
  · rw [show cntB 1 0 = 1 by decide +kernel, show ways 1 0 = 1 by decide +kernel]; omega
  · rw [show cntB 2 0 = 3 by decide +kernel, show ways 2 0 = 2 by decide +kernel]; omega
  · rw [show cntB 3 0 = 8 by decide +kernel, show ways 3 0 = 5 by decide +kernel]; omega
  · rw [show cntB 4 0 = 23 by decide +kernel, show ways 4 0 = 15 by decide +kernel]; omega
  · rw [show cntB 5 0 = 75 by decide +kernel, show ways 5 0 = 52 by decide +kernel]; omega
  · rw [show cntB 6 0 = 278 by decide +kernel, show ways 6 0 = 203 by decide +kernel]; omega
  · rw [show cntB 7 0 = 1155 by decide +kernel, show ways 7 0 = 877 by decide +kernel]; omega
  · rw [show cntB 8 0 = 5295 by decide +kernel, show ways 8 0 = 4140 by decide +kernel]; omega
  · rw [show cntB 9 0 = 26442 by decide +kernel, show ways 9 0 = 21147 by decide +kernel]; omega
  · rw [show cntB 10 0 = 142417 by decide +kernel, show ways 10 0 = 115975 by decide +kernel]; omega
  · rw [show cntB 11 0 = 820987 by decide +kernel, show ways 11 0 = 678570 by decide +kernel]; omega
  · rw [show cntB 12 0 = 5034584 by decide +kernel, show ways 12 0 = 4213597 by decide +kernel]; omega
def mostG (P : Pb) : Nat := if chkN P = 0 then W2.bd P.who.length P.users.toNat else 0
theorem gc_sum {P : Pb} {k a b c a' b' c' : Nat} (hk : k ≤ 2) (h : GcB P k a b c a' b' c') : a ≤ a' ∧ b ≤ b' ∧ c ≤ c' ∧ a' ≤ a + 2000000000000 ∧ b' ≤ b + 2000000000000 ∧ c' ≤ c + 2000000000000 ∧ (a' + b' + c') - (a + b + c) ≤ mostG P := by
  unfold mostG
  by_cases hP : chkN P = 0
  · rw [if_pos hP]
    obtain ⟨⟨h1, h2⟩, ⟨h3, h4⟩, h5, h6⟩ := h.2 hP
    obtain ⟨h12, hU0, hU, _⟩ := chkN_zero hP
    obtain ⟨g1, g2, g3⟩ := gE_le hP
    have hb := bd_num P.who.length h12 P.users.toNat
    have k1 : k * gK P ≤ 2 * gK P := Nat.mul_le_mul_right _ hk
    have k2 : k * (gK P * P.users.toNat) ≤ 2 * (gK P * P.users.toNat) := Nat.mul_le_mul_right _ hk
    have k3 : k * gE P ≤ 2 * gE P := Nat.mul_le_mul_right _ hk
    have e1 : cntB P.who.length 0 = gK P := rfl
    have e2 : cntB P.who.length 0 * (P.who.length * P.users.toNat * P.who.length) + P.who.length * P.users.toNat * (P.who.length + P.who.length * P.who.length) = gE P := rfl
    rw [e2, e1] at hb
    generalize gE P = E at *
    generalize gK P * P.users.toNat = KU at *
    generalize gK P = K at *
    omega
  · rw [if_neg hP]
    obtain ⟨h1, h2, h3⟩ := h.1 hP
    omega
end Go.Proofs.YtambepkkhfandaaDoor.S
namespace Go.Proofs.YtambepkkhfandaaDoor.S
open Go.RowKit Go.Shelf
/-- make([]int, n). -/
theorem refFirstT (n : Nat) (hn : n ≤ 25) (w : World) :
    Calls Tryd.prog 23 #[.int .i64 n] w fun e w' => ∃ g, e = .returned (.slice (some ⟨g, 0, none⟩) n n) ∧ RowI w' (.slice (some ⟨g, 0, none⟩) n n) (List.replicate n 0) ∧ Below w.heap.size w w' := by
  obtain ⟨i0, hi, hz0, hz1, hz2⟩ := info_parts info3
  go_enter Tryd.func23, Tryd.ntmps23
  go_wp2_with (at_make; refine wpList_make_full _ rfl _ _ 23 rfl w.heap.size 3 i0 (.int .i64 0) 1 Tryd.underlying23 hi hz0 hz1 .i64 .i64 _ _ n rfl rfl rfl rfl (by rw [hz2]; omega) (by unfold maxLen; omega) (by simp) ?_; intro w2 hrow hgrow)
  go_ret
  refine ⟨_, rfl, ?_, (Below.refl _ w).grown hgrow (Nat.le_refl _) (fun j ej => by cases ej)⟩
  have h := hrow
  rw [show (Value.int .i64 0).cells = #[.int .i64 0] from rfl, toList_madeCells_one, Nat.mul_one] at h
  have h2 : w2.ownsRow w.heap.size 3 1 (.slice (some ⟨w.heap.size, 0, none⟩) n n) (List.replicate n (0 : Int)).length (cellsI (List.replicate n 0)) := by
    rw [List.length_replicate]
    simpa [cellsI] using h
  exact RowI.of_owns h2
/-- The problem that is made, and a solver. -/
structure Tt (w : World) (U : Int) (gs a b c : Nat) (V : World) (gw cw : Nat) (vb : Value) (L1 : List Nat) (L2 : List Int) : Prop where
  tq : Tq w U V (.slice (some ⟨gw, 0, none⟩) L1.length cw) vb (.slice (some ⟨gw, 0, none⟩) L1.length cw) vb L1 L2
  gg : GgAt V gs a b c
  tab : M.Tab V
  ne0 : w.heap.size ≠ gs
  ne1 : gw ≠ gs
  ne2 : ∀ g, vb.ownBlock = some g → g ≠ gs
  hG : 1 ≤ gs
  le : w.heap.size ≤ gs
  tw : 1 ≤ w.heap.size
section
variable {w : World} {U : Int} {gs a b c a' b' c' : Nat} {V V' : World} {gw cw : Nat} {vb : Value} {L1 : List Nat} {L2 : List Int}
theorem Tt.over (h : Tt w U gs a b c V gw cw vb L1 L2) (hb : Below V.heap.size V V') : Tt w U gs a b c V' gw cw vb L1 L2 := ⟨h.tq.over hb, h.gg.below hb, h.tab.over hb, h.ne0, h.ne1, h.ne2, h.hG, h.le, h.tw⟩
theorem Tt.fr (h : Tt w U gs a b c V gw cw vb L1 L2) (hf : M.Fr2 V V' gs gs) (hg : GgAt V' gs a' b' c') : Tt w U gs a' b' c' V' gw cw vb L1 L2 := by
  refine ⟨⟨h.tq.qb.of (hf.block _ h.tq.qb.lt h.ne0 h.ne0), own_same h.tq.r1 fun g hg e => ?_, own_same h.tq.r2 fun g hg e => hf.block g hg (h.ne2 g e) (h.ne2 g e), Nat.le_trans h.tq.sz hf.size, hf.new h.tq.be h.le h.le h.tq.be.size⟩, hg, tab_frame h.tab h.hG hf, h.ne0, h.ne1, h.ne2, h.hG, h.le, h.tw⟩
  have : g = gw := by simpa [Value.ownBlock] using e.symm
  subst this
  exact hf.block g hg h.ne1 h.ne1
theorem Tt.pv (h : Tt w U gs a b c V gw cw vb L1 L2) : PbV V ⟨U, L1, L2, []⟩ (.slice (some ⟨gw, 0, none⟩) L1.length cw) vb (.slice none 0 0) :=
  ⟨RowW.of_owns h.tq.r1, RowI.of_owns h.tq.r2, ⟨none, 0, rfl, ⟨Nat.le_refl _, fun _ => rfl⟩, fun i z hz => by cases hz⟩⟩
theorem cellsW_set (L : List Nat) (k z : Nat) : (cellsW L).set k (.int .u64 (z : Int)) = cellsW (L.set k z) := by unfold cellsW; rw [List.map_set]
/-- A word of it written over. -/
theorem Tq.setW {va : Value} (h : Tq w U V (.slice (some ⟨gw, 0, none⟩) L1.length cw) va (.slice (some ⟨gw, 0, none⟩) L1.length cw) vb L1 L2) (k z : Nat) : Tq w U (V.setCell ⟨gw, k, none⟩ (.int .u64 (z : Int))) (.slice (some ⟨gw, 0, none⟩) (L1.set k z).length cw) va (.slice (some ⟨gw, 0, none⟩) (L1.set k z).length cw) vb (L1.set k z) L2 := by
  have hge : w.heap.size + 1 ≤ gw := own_ge' h.r1 rfl
  have hb : Below (w.heap.size + 1) V (V.setCell ⟨gw, k, none⟩ (.int .u64 (z : Int))) := (Below.refl _ V).setCell (p := ⟨gw, k, none⟩) hge _
  obtain ⟨b1, b2, b3⟩ := h.boxes hb
  have hs := h.r1.stored k (.int .u64 (z : Int))
  rw [List.length_set]
  refine ⟨b1, ?_, kept_kind h.r2 h.r1 (by decide) hs.2, b2, b3⟩
  have := hs.1
  rw [cellsW_set] at this
  rw [List.length_set]
  exact this
theorem Tt.setW (h : Tt w U gs a b c V gw cw vb L1 L2) (k z : Nat) : Tt w U gs a b c (V.setCell ⟨gw, k, none⟩ (.int .u64 (z : Int))) gw cw vb (L1.set k z) L2 := by
  have hge : w.heap.size + 1 ≤ gw := own_ge' h.tq.r1 rfl
  refine ⟨h.tq.setW k z, h.gg.of (Below.heap_setCell _ _ _ _ (fun e => h.ne1 e.symm)), ?_, h.ne0, h.ne1, h.ne2, h.hG, h.le, h.tw⟩
  have hb : Below (w.heap.size + 1) V (V.setCell ⟨gw, k, none⟩ (.int .u64 (z : Int))) := (Below.refl _ V).setCell (p := ⟨gw, k, none⟩) hge _
  have htw := h.tw
  exact h.tab.fr2 (a := gw) (b := gw) ⟨rfl, rfl, rfl, hb.size, fun j hj h1 _ => Below.heap_setCell _ _ _ _ h1⟩ (by omega) (by omega)
end
theorem tmod_small (n : Int) (k : Nat) (hk : 0 < k) : (∃ m : Nat, m < k ∧ n.tmod (k : Int) = (m : Int)) ∨ ∃ m : Nat, m < k ∧ 0 < m ∧ n.tmod (k : Int) = -(m : Int) := by
  have h1 := Int.tmod_lt_of_pos n (show (0 : Int) < (k : Int) by omega)
  have h2 := Int.lt_tmod_of_pos n (show (0 : Int) < (k : Int) by omega)
  generalize n.tmod (k : Int) = x at *
  by_cases h : 0 ≤ x
  · exact .inl ⟨x.toNat, by omega, by omega⟩
  · exact .inr ⟨(-x).toNat, by omega, by omega, by omega⟩
theorem or_next {k : Nat} (hk : k < 64) : bits .or .u64 ((2 ^ k - 1 : Nat) : Int) ((2 ^ k : Nat) : Int) = ((2 ^ (k + 1) - 1 : Nat) : Int) := by
  have h1 : (2 : Nat) ^ k < 2 ^ 64 := Nat.pow_lt_pow_right (by decide) hk
  have h2 : 0 < 2 ^ k := Nat.pow_pos (by decide)
  rw [u64_or_nat _ _ (by omega) (by omega)]
  congr 1
  rw [Nat.or_comm, show 2 ^ k ||| (2 ^ k - 1) = 2 ^ k * 1 ||| (2 ^ k - 1) by rw [Nat.mul_one], ← Nat.two_pow_add_eq_or_of_lt (by omega), Nat.pow_succ]
  omega
theorem shl_wrap {k : Nat} (hk : k < 64) : IntKind.u64.wrap ((2 : Int) ^ k) = ((2 ^ k : Nat) : Int) := by
  have : (2 : Nat) ^ k < 18446744073709551616 := Nat.lt_of_lt_of_le (Nat.pow_lt_pow_right (by decide) hk) (Nat.le_refl (2 ^ 64))
  rw [IntKind.wrap_u64, show ((2 : Int) ^ k) = ((2 ^ k : Nat) : Int) by push_cast; rfl]
  generalize (2 : Nat) ^ k = q at *
  omega
theorem tg_cut {m U z : Nat} (hm : m ≤ 7) : cutP (tgP m U z) = tgP m U z := by
  have e1 : (tgP m U z).who.take 20 = (tgP m U z).who := List.take_of_length_le (by simp [tgP]; omega)
  have e2 : (tgP m U z).fixed.take 20 = (tgP m U z).fixed := List.take_of_length_le (by simp [tgP]; omega)
  unfold cutP
  rw [e1, e2]
  rfl
theorem tg_ok {m U z : Nat} (hm : m ≤ 7) (hU : U ≤ 64) (hz : z < 2 ^ U) : Pok (tgP m U z) := by
  have h1 : (2 : Nat) ^ U ≤ 2 ^ 64 := Nat.pow_le_pow_right (by decide) hU
  have h2 : 0 < 2 ^ U := Nat.pow_pos (by decide)
  refine ⟨by simp [tgP]; omega, by simp [tgP]; omega, by simp [tgP], fun r hr => by simp [tgP] at hr, fun y hy => ?_⟩
  simp [tgP] at hy
  rcases hy with ⟨_, hy⟩ | hy
  · show y < 2 ^ 64; omega
  · show y < 2 ^ 64; omega
theorem tg_bd {m U z : Nat} (hm : m ≤ 7) (hU : U ≤ 64) (hz : z < 2 ^ U) : mostG (tgP m U z) = W2.bd (m + 1) U := by
  unfold mostG
  rw [if_pos (tg_chk hm hU hz)]
  simp [tgP]
theorem tg_can (m U : Nat) : canB (tgP m U 0) = false := by
  cases e : canB (tgP m U 0) with
  | false => rfl
  | true => obtain ⟨L, hL⟩ := (canB_iff _).1 e; rw [tg_none] at hL; cases hL
/-- What is known of the two problems. -/
structure TgF (m U A B : Nat) (P0 P1 : Pb) : Prop where
  can : canB P0 = false
  ok0 : Pok P0
  ok1 : Pok P1
  cut0 : cutP P0 = P0
  cut1 : cutP P1 = P1
  b0 : mostG P0 = B
  b1 : mostG P1 = B
  be : B = W2.bd (m + 1) U
  first : ∀ o, LsP P1 o → o = some (List.replicate (m + 1) 0)
  bd : B < 9223372036854775808
theorem TgF.mk' {m U : Nat} (hm : m ≤ 7) (hU : U ≤ 64) (hU1 : 1 ≤ U) : TgF m U (2 ^ U - 1) (W2.bd (m + 1) U) ⟨(U : Int), List.replicate m (2 ^ U - 1) ++ [0], List.replicate (m + 1) (-1), []⟩ ⟨(U : Int), List.replicate m (2 ^ U - 1) ++ [2 ^ U - 1], List.replicate (m + 1) (-1), []⟩ := by
  have h2 : 0 < 2 ^ U := Nat.pow_pos (by decide)
  refine ⟨tg_can m U, tg_ok hm hU h2, tg_ok hm hU (by omega), tg_cut hm, tg_cut hm, tg_bd hm hU h2, tg_bd hm hU (by omega), rfl, fun o ho => tg_first hm hU hU1 ho, ?_⟩
  unfold W2.bd
  rcases (show m = 0 ∨ m = 1 ∨ m = 2 ∨ m = 3 ∨ m = 4 ∨ m = 5 ∨ m = 6 ∨ m = 7 by omega) with rfl | rfl | rfl | rfl | rfl | rfl | rfl | rfl
  · rw [show ways (0 + 1) 0 = 1 by decide +kernel]; omega
  · rw [show ways (1 + 1) 0 = 2 by decide +kernel]; omega
  · rw [show ways (2 + 1) 0 = 5 by decide +kernel]; omega
  · rw [show ways (3 + 1) 0 = 15 by decide +kernel]; omega
  · rw [show ways (4 + 1) 0 = 52 by decide +kernel]; omega
  · rw [show ways (5 + 1) 0 = 203 by decide +kernel]; omega
  · rw [show ways (6 + 1) 0 = 877 by decide +kernel]; omega
  · rw [show ways (7 + 1) 0 = 4140 by decide +kernel]; omega
theorem sub_wrap {x y B : Nat} (h : y ≤ x) (hx : x < 18446744073709551616) (hB : x - y ≤ B) : IntKind.u64.wrap ((x : Int) - (y : Int)) = ((x - y : Nat) : Int) ∧ ((x - y : Nat) : Int) ≤ (B : Int) := by
  refine ⟨?_, by omega⟩
  rw [IntKind.wrap_u64]
  omega
theorem rep_set (m A z : Nat) : (List.replicate (m + 1) A).set m z = List.replicate m A ++ [z] := by
  rw [List.replicate_succ', List.set_append_right _ _ (by simp)]
  simp
theorem rep_set2 (m A y z : Nat) : (List.replicate m A ++ [y]).set m z = List.replicate m A ++ [z] := by
  rw [List.set_append_right _ _ (by simp)]
  simp
theorem boundT {m U B : Nat} (hm : m ≤ 7) (hU : U ≤ 64) (hB : B = W2.bd (m + 1) U) (V : World) : Calls Tryd.prog 22 #[.int .i64 ((m : Int) + 1), .int .i64 (U : Int)] V fun e w' => e = .returned (.int .u64 (B : Int)) ∧ Below V.heap.size V w' := by
  have := W2.boundF (m + 1) U (by omega) hU V
  rw [← hB, show ((m + 1 : Nat) : Int) = (m : Int) + 1 by omega] at this
  exact this
theorem firstT {m : Nat} (hm : m ≤ 7) (V : World) : Calls Tryd.prog 23 #[.int .i64 ((m : Int) + 1)] V fun e w' => ∃ g, e = .returned (.slice (some ⟨g, 0, none⟩) (m + 1) (m + 1)) ∧ RowI w' (.slice (some ⟨g, 0, none⟩) (m + 1) (m + 1)) (List.replicate (m + 1) 0) ∧ Below V.heap.size V w' := by
  have := refFirstT (m + 1) (by omega) V
  rw [show ((m + 1 : Nat) : Int) = (m : Int) + 1 by omega] at this
  exact this
theorem zerosT {m : Nat} (hm : m ≤ 7) (x y : Value) (V : World) (h1 : RowI V x (List.replicate (m + 1) 0)) (h2 : RowI V y (List.replicate (m + 1) 0)) : Calls Tryd.prog 12 #[x, y] V fun e w' => e = .returned (.bool true) ∧ Below V.heap.size V w' := by
  have := keepInts (List.replicate (m + 1) 0) (List.replicate (m + 1) 0) x y V h1 h2 (by rw [List.length_replicate]; omega) (by rw [List.length_replicate]; omega)
  simpa using this
set_option maxRecDepth 100000 in
set_option maxHeartbeats 16000000 in
theorem solveTight_walk (n u : Int) (w : World) (ht : M.Tab w) :
    Calls Tryd.prog 5 #[.int .i64 n, .int .i64 u] w fun e w' => e = .returned (.bool true) ∧ Below w.heap.size w w' := by
  have ht' := hide' ht
  have hGw := ht.2
  clear ht
  go_enter Tryd.func5, Tryd.ntmps5
  go_upto_region 2 with fail
  rcases tmod_small n 8 (by decide) with ⟨m, hm, e⟩ | ⟨m, hm, hm0, e⟩
  all_goals
    have e' : n.tmod 8 = _ := e
    rw [e']
    clear e e'
    have hmI : (m : Int) < 8 := by omega
    go_upto_region 6 with fail
    rcases tmod_small u 64 (by decide) with ⟨x, hx, e⟩ | ⟨x, hx, hx0, e⟩
    all_goals
      have e' : u.tmod 64 = _ := e
      rw [e']
      clear e e'
      have hxI : (x : Int) < 64 := by omega
      go_upto_region 9 with fail
      obtain ⟨M, hM⟩ : ∃ M : Nat, M = m + 1 := ⟨_, rfl⟩
      obtain ⟨U, hU⟩ : ∃ U : Nat, U = x + 1 := ⟨_, rfl⟩
      rw [show (m : Int) + 1 = (M : Int) by omega, show (x : Int) + 1 = (U : Int) by omega]
      have hM' := hide' hM
      have hM1 : 1 ≤ M := by omega
      have hM8 : M ≤ 8 := by omega
      have hU1 : 1 ≤ U := by omega
      have hU64 : U ≤ 64 := by omega
      clear hM hU hx hxI
      have hT0 := hide' (Tq.start w (U : Int))
      go_upto_block 0 with fail
      generalize w.alloc (.cells #[.int .i64 (U : Int), .slice none 0 0, .slice none 0 0, .slice none 0 0] 26) = W1 at *
      go_cut [8, 9] from 33 to 41 (fun av _ wx => av = .int .u64 ((2 ^ U - 1 : Nat) : Int) ∧ wx = W1)
      case first =>
        as_aux_lemma =>
        go_wp2
        go_loopw [8, 9] (fun av kv wr => ∃ k : Nat, k ≤ U ∧ kv = .int .i64 (k : Int) ∧ av = .int .u64 ((2 ^ k - 1 : Nat) : Int) ∧ wr = W1) (fun _ kv _ => ((U : Int) - intOf kv).toNat)
        case atStart => exact ⟨0, Nat.zero_le _, rfl, rfl, rfl⟩
        case round =>
          obtain ⟨k, hk, rfl, rfl, rfl⟩ := hrel
          by_cases hlt : k < U
          · have hlt' : (k : Int) < (U : Int) := by omega
            have hk64 : k < 64 := by omega
            have hk64' : (k : Int) < 64 := by omega
            have hor := or_next hk64
            have hsh := shl_wrap hk64
            obtain ⟨A2, hA2⟩ : ∃ A2 : Nat, A2 = 2 ^ (k + 1) - 1 := ⟨_, rfl⟩
            rw [← hA2] at hor
            have hA2' := hide' hA2
            clear hA2
            generalize (2 ^ k - 1 : Nat) = A1 at *
            generalize (2 ^ k : Nat) = A0 at *
            go_wp2
            exact ⟨⟨k + 1, by omega, by go_num, by rw [hA2'.out], trivial⟩, by simp [intOf]; omega⟩
          · obtain rfl : k = U := by omega
            go_wp2
            go_meet
            exact ⟨rfl, rfl⟩
      case rest =>
      obtain ⟨rfl, rfl⟩ := hcut
      obtain ⟨A, hA⟩ : ∃ A : Nat, A = 2 ^ U - 1 := ⟨_, rfl⟩
      rw [← hA]
      have hA' := hide' hA
      clear hA
      go_upto_block 2 with fail
      go_cut [10] from 42 to 57 (fun _ wx => ∃ gw cw vb, Hid (Tq w (U : Int) wx (.slice (some ⟨gw, 0, none⟩) M cw) vb (.slice (some ⟨gw, 0, none⟩) M cw) vb (List.replicate M A) (List.replicate M (-1))))
      case first =>
        as_aux_lemma =>
        go_wp2
        go_loopw [10] (fun kv wr => ∃ (i : Nat) (va vb : Value), i ≤ M ∧ kv = .int .i64 (i : Int) ∧ Hid (Tq w (U : Int) wr va vb va vb (List.replicate i A) (List.replicate i (-1)))) (fun kv _ => ((M : Int) - intOf kv).toNat)
        case atStart => exact ⟨0, _, _, Nat.zero_le _, rfl, hT0⟩
        case round =>
          clear hT0
          obtain ⟨i, va, vb, hi, rfl, hT⟩ := hrel
          by_cases hlt : i < M
          · have hlt' : (i : Int) < (M : Int) := by omega
            obtain ⟨o1, n1, c1, rfl⟩ : ∃ a b c, va = .slice a b c := by obtain ⟨a, c, e⟩ := own_shp hT.out.r1; exact ⟨a, _, c, e⟩
            obtain ⟨o2, n2, c2, rfl⟩ : ∃ a b c, vb = .slice a b c := by obtain ⟨a, c, e⟩ := own_shp hT.out.r2; exact ⟨a, _, c, e⟩
            have q1 := hT.out.qb.c1
            have hl1 : (List.replicate i A).length ≤ 1000000 := by rw [List.length_replicate]; omega
            have hl2 : (List.replicate i (-1 : Int)).length ≤ 1000000 := by rw [List.length_replicate]; omega
            have e1 : Hid (List.replicate (i + 1) A = List.replicate i A ++ [A]) := List.replicate_succ'
            have e2 : Hid (List.replicate (i + 1) (-1 : Int) = List.replicate i (-1) ++ [-1]) := List.replicate_succ'
            generalize List.replicate i A = R1 at *
            generalize List.replicate i (-1 : Int) = R2 at *
            go_upto_region 19 with (at_builtin; refine Tq.app1 rfl (.tmp 48) (.tmp 50) hT.out A rfl rfl rfl hl1 ?_; intro o5 n5 c5 w5 h5; have h5' := hide' h5; have f5 := h5.qb.frz 1; have d5 := h5.qb.c1; clear h5)
            have h6 := hide' (h5'.out.put (h5'.out.qb.s1 (.slice o5 n5 c5)))
            clear h5' f5 d5 q1 hT
            generalize w5.setCell ⟨w.heap.size, 1, none⟩ (.slice o5 n5 c5) = w6 at *
            have q2 := h6.out.qb.c2
            go_wp2_with (at_builtin; refine Tq.app2 rfl (.tmp 54) (.tmp 55) h6.out (-1) rfl rfl rfl hl2 ?_; intro o7 n7 c7 w7 h7; have h7' := hide' h7; have f7 := h7.qb.frz 2; have d7 := h7.qb.c2; clear h7)
            have h8 := hide' (h7'.out.put (h7'.out.qb.s2 (.slice o7 n7 c7)))
            exact ⟨⟨i + 1, _, _, by omega, by go_num, by rw [e1.out, e2.out]; exact h8⟩, by simp [intOf]; omega⟩
          · obtain rfl : i = M := by omega
            obtain ⟨gw, cw, rfl⟩ : ∃ gw cw, va = .slice (some ⟨gw, 0, none⟩) i cw := by
              rcases hT.out.r1.2 with ⟨e, h0⟩ | ⟨g, cap, cur, e, h1, _⟩
              · rw [List.length_replicate] at h0; omega
              · rw [List.length_replicate] at e; exact ⟨g, cap, e⟩
            go_wp2
            go_meet
            exact ⟨gw, cw, vb, hT⟩
      case rest =>
      as_aux_lemma =>
      clear hT0
      obtain ⟨gw, cw, vb, hT⟩ := hcut
      obtain rfl := hM'.out
      have hm7 : m ≤ 7 := by omega
      obtain ⟨B, hF⟩ : ∃ B, TgF m U A B ⟨(U : Int), List.replicate m A ++ [0], List.replicate (m + 1) (-1), []⟩ ⟨(U : Int), List.replicate m A ++ [A], List.replicate (m + 1) (-1), []⟩ := ⟨_, by rw [hA'.out]; exact TgF.mk' hm7 hU64 hU1⟩
      have hT2 : Hid (Tq w (U : Int) wc (.slice (some ⟨gw, 0, none⟩) (List.replicate (m + 1) A).length cw) vb (.slice (some ⟨gw, 0, none⟩) (List.replicate (m + 1) A).length cw) vb (List.replicate (m + 1) A) (List.replicate (m + 1) (-1))) := by rw [List.length_replicate]; exact hT
      have hS2 : Hid (Tq w (U : Int) (wc.setCell ⟨gw, m, none⟩ (.int .u64 0)) (.slice (some ⟨gw, 0, none⟩) (List.replicate m A ++ [0]).length cw) vb (.slice (some ⟨gw, 0, none⟩) (List.replicate m A ++ [0]).length cw) vb (List.replicate m A ++ [0]) (List.replicate (m + 1) (-1))) := by
        have := hT2.out.setW m 0
        rw [rep_set] at this
        exact this
      have q1 : wc.cell? ⟨w.heap.size, 1, none⟩ = some (.slice (some ⟨gw, 0, none⟩) (m + 1) cw) := hT.out.qb.c1
      have ck : wc.cell? ⟨gw, m, none⟩ = some (.int .u64 (A : Int)) := by
        have := hT2.out.r1.cellAt m (by rw [List.length_replicate]; omega)
        rw [this]
        simp [cellsW]
      have fk := hT2.out.r1.frozenAt m
      clear hT hT2 hM'
      go_wp2_with fail
      clear q1 ck fk
      generalize wc.setCell ⟨gw, m, none⟩ (.int .u64 0) = Wp at *
      have hr2 := hS2.out.r2
      refine (newF _).mono ?_
      rintro e w3 ⟨rfl, hg3, hb3⟩
      have hTt : Hid (Tt w (U : Int) Wp.heap.size 0 0 0 w3 gw cw vb (List.replicate m A ++ [0]) (List.replicate (m + 1) (-1))) := by
        have k := hS2.out.over hb3.out
        have h1 := own_lt' hS2.out.r1 (g := gw) rfl
        have h2 := hS2.out.sz
        exact ⟨k, hg3.out, ht'.out.over k.be, by omega, by omega, fun g e => by have := own_lt' hS2.out.r2 e; omega, by omega, by omega, hGw⟩
      clear hS2 hg3 hb3 hr2
      generalize Wp.heap.size = gs at *
      have KW : Hid (∀ V, M.Tab V → Calls Tryd.prog 8 #[] V fun e w' => e = .returned (.bool true) ∧ Below V.heap.size V w') := fun V hV => wakesF V hV
      go_wp2_with fail
      refine (KW.out _ hTt.out.tab).mono ?_
      rintro e w4 ⟨rfl, hb4⟩
      have hT4 := hide' (hTt.out.over hb4)
      clear hTt hb4 KW
      have c0 := hT4.out.tq.qb.c0
      have c1 := hT4.out.tq.qb.c1
      have c2 := hT4.out.tq.qb.c2
      have c3 := hT4.out.tq.qb.c3
      obtain ⟨of, nf, cf, rfl⟩ : ∃ a b c, vb = .slice a b c := by obtain ⟨a, c, e⟩ := own_shp hT4.out.tq.r2; exact ⟨a, _, c, e⟩
      have KC : Hid (∀ V P (a b c : Value), PbV V P a b c → cutP P = P → Calls Tryd.prog 6 #[.agg #[.int .i64 P.users, a, b, c]] V fun e w' => ∃ va vb vc, e = .returned (.agg #[.int .i64 P.users, va, vb, vc]) ∧ Hid (PbV w' P va vb vc) ∧ Hid (Below V.heap.size V w') ∧ Hid (∀ ad n c, va = .slice (some ad) n c → V.heap.size ≤ ad.block ∧ ad.block < w'.heap.size)) := fun V P a b c hV hc => by
        have := cutC P a b c V hV
        rw [hc] at this
        exact this
      have e0 := KC.out w4 _ _ _ _ hT4.out.pv hF.cut0
      have e0' := hide' e0
      clear e0
      generalize hLz : List.replicate m A ++ [0] = Lz at *
      go_wp2_with fail
      refine e0'.out.mono ?_
      rintro e w5 ⟨xa, xb, xc, rfl, hq5, hb5, ho5⟩
      have hT5 := hide' (hT4.out.over hb5.out)
      clear hT4 hb5 ho5 e0' c0 c1 c2 c3
      have KCa := hide' (canF _ xa xb xc gs 0 0 0 w5 hq5.out hF.ok0 hT5.out.gg hT5.out.hG hT5.out.tab (by decide) (by decide) (by decide))
      unfold pbV CaP at KCa
      rw [hF.can] at KCa
      go_wp2_with fail
      refine KCa.out.mono ?_
      rintro e w6 ⟨rfl, a, b, c, hg6, hgc, hf6⟩
      have hT6 := hide' (hT5.out.fr hf6.out hg6.out)
      have hs6 := gc_sum (by decide) hgc.out
      rw [hF.b0] at hs6
      have hbd := hF.bd
      have hS1 : Hid (a + b + c ≤ B ∧ a + b + c < 18446744073709551616 ∧ a ≤ 2000000000000 ∧ b ≤ 2000000000000 ∧ c ≤ 2000000000000) := by unfold Hid; omega
      clear hT5 hg6 hgc hf6 hq5 KCa hs6 hbd
      have KG : Hid (∀ V a b c, GgAt V gs a b c → Calls Tryd.prog 21 #[.pointer (some ⟨gs, 0, none⟩)] V fun e w' => e = .returned (.agg #[.int .u64 (a : Int), .int .u64 (b : Int), .int .u64 (c : Int)]) ∧ Below V.heap.size V w') := fun V a b c hV => gaugeF gs a b c V hV
      have KU : Hid (∀ V (a b c : Nat), a + b + c < 18446744073709551616 → Calls Tryd.prog 20 #[.agg #[.int .u64 (a : Int), .int .u64 (b : Int), .int .u64 (c : Int)]] V fun e w' => e = .returned (.int .u64 ((a + b + c : Nat) : Int)) ∧ Below V.heap.size V w') := fun V a b c h => sumF a b c V h
      go_wp2_with fail
      refine (KG.out _ _ _ _ hT6.out.gg).mono ?_
      rintro e w7 ⟨rfl, hb7⟩
      have hT7 := hide' (hT6.out.over hb7)
      clear hT6 hb7
      go_wp2_with fail
      refine (KU.out _ _ _ _ hS1.out.2.1).mono ?_
      rintro e w8 ⟨rfl, hb8⟩
      have hT8 := hide' (hT7.out.over hb8)
      clear hT7 hb8
      obtain ⟨S1, hS1e⟩ : ∃ S : Nat, S = a + b + c := ⟨_, rfl⟩
      rw [← hS1e]
      have hS1' := hide' hS1e
      clear hS1e
      have hLl : Lz.length = m + 1 := by rw [← hLz]; simp
      have c1 := hT8.out.tq.qb.c1
      have ck : w8.cell? ⟨gw, m, none⟩ = some (.int .u64 0) := by
        rw [hT8.out.tq.r1.cellAt m (by omega), ← hLz]
        simp [cellsW]
      have fk := hT8.out.tq.r1.frozenAt m
      have hl1 : (m : Int) < (Lz.length : Int) := by omega
      have hl2 : m < Lz.length := by omega
      have hT9 : Hid (Tt w (U : Int) gs a b c (w8.setCell ⟨gw, m, none⟩ (.int .u64 (A : Int))) gw cw (.slice of nf cf) (List.replicate m A ++ [A]) (List.replicate (m + 1) (-1))) := by
        have := hT8.out.setW m A
        rw [← hLz, rep_set2] at this
        exact this
      have hnx : Hid ((List.replicate m A ++ [A]).length = Lz.length) := by unfold Hid; rw [hLl]; simp
      clear hT8 hLl
      go_upto_region 26 with fail
      clear c1 ck fk
      generalize w8.setCell ⟨gw, m, none⟩ (.int .u64 (A : Int)) = w9 at *
      have c0 := hT9.out.tq.qb.c0
      have c1 := hT9.out.tq.qb.c1
      have c2 := hT9.out.tq.qb.c2
      have c3 := hT9.out.tq.qb.c3
      have e1 := hide' (KC.out w9 _ _ _ _ hT9.out.pv hF.cut1)
      clear KC
      generalize List.replicate m A ++ [A] = Ly at *
      go_wp2_with fail
      refine e1.out.mono ?_
      rintro e w10 ⟨ya, yb, yc, rfl, hq10, hb10, ho10⟩
      have hT10 := hide' (hT9.out.over hb10.out)
      have hgl := hT9.out.gg.lt
      have hne : Hid (∀ ad n c, ya = .slice (some ad) n c → ad.block ≠ gs) := fun ad n c e => by have := (ho10.out ad n c e).1; omega
      clear hT9 hb10 ho10 e1 c0 c1 c2 c3 hgl
      have KLs := hide' (leastPF _ ya yb yc gs a b c w10 hq10.out hF.ok1 hT10.out.gg hT10.out.hG hT10.out.tab hne.out (by have := hS1.out; omega) (by have := hS1.out; omega) (by have := hS1.out; omega))
      unfold pbV at KLs
      go_wp2_with fail
      refine KLs.out.mono ?_
      rintro e w11 ⟨⟨a', b', c', hg11, hgc⟩, hf11, ⟨rfl, hls⟩ | ⟨v, l, rfl, hls, hown⟩⟩
      · exact absurd (hF.first _ hls.out) (by simp)
      have hl0 := hF.first _ hls.out
      injection hl0 with hl0
      have hT11 := hide' (hT10.out.fr hf11.out hg11.out)
      have hs11 := gc_sum (by decide) hgc.out
      rw [hF.b1] at hs11
      have hr11 := hide' (RowI.of_owns hown.out)
      have hbd := hF.bd
      have hS1B : (S1 : Int) ≤ (B : Int) := by have := hS1.out; have := hS1'.out; omega
      have hS2 := hide' (sub_wrap (x := a' + b' + c') (y := S1) (B := B) (by have := hS1'.out; omega) (by have := hS1.out; omega) (by have := hS1'.out; omega))
      have hsm : Hid (a' + b' + c' < 18446744073709551616) := by have := hS1.out; unfold Hid; omega
      have KB := hide' (boundT (m := m) hm7 hU64 hF.be)
      have KFi := hide' (firstT (m := m) hm7)
      have KI := hide' (zerosT (m := m) hm7)
      rw [hl0] at hr11
      clear hT10 hq10 hne KLs hg11 hgc hf11 hls hown hs11 hbd hF hl0
      go_wp2_with fail
      refine (KB.out _).mono ?_
      rintro e w12 ⟨rfl, hb12⟩
      have hT12 := hide' (hT11.out.over hb12)
      have hr12 := hide' (hr11.out.below hb12 (Nat.le_refl _))
      clear hT11 hr11 hb12
      go_wp2_with fail
      refine (KG.out _ _ _ _ hT12.out.gg).mono ?_
      rintro e w13 ⟨rfl, hb13⟩
      have hT13 := hide' (hT12.out.over hb13)
      have hr13 := hide' (hr12.out.below hb13 (Nat.le_refl _))
      clear hT12 hr12 hb13 KG
      go_wp2_with fail
      refine (KU.out _ _ _ _ hsm.out).mono ?_
      rintro e w14 ⟨rfl, hb14⟩
      have hT14 := hide' (hT13.out.over hb14)
      have hr14 := hide' (hr13.out.below hb14 (Nat.le_refl _))
      clear hT13 hr13 hb14 KU hsm
      generalize a' + b' + c' = S2 at *
      obtain ⟨hw2, hle2⟩ := hS2.out
      clear hS2
      go_wp2_with fail
      refine (KB.out _).mono ?_
      rintro e w15 ⟨rfl, hb15⟩
      have hT15 := hide' (hT14.out.over hb15)
      have hr15 := hide' (hr14.out.below hb15 (Nat.le_refl _))
      clear hT14 hr14 hb15 KB
      go_wp2_with fail
      refine (KFi.out _).mono ?_
      rintro e w16 ⟨gz, rfl, hz16, hb16⟩
      have hT16 := hide' (hT15.out.over hb16)
      have hr16 := hide' (hr15.out.below hb16 (Nat.le_refl _))
      have hz16' := hide' hz16
      clear hT15 hr15 hb16 KFi hz16
      go_wp2_with fail
      refine (KI.out _ _ _ hr16.out hz16'.out).mono ?_
      rintro e w17 ⟨rfl, hb17⟩
      have hT17 := hide' (hT16.out.over hb17)
      clear hT16 hr16 hb17 KI hz16'
      go_wp2
      go_ret
      exact ⟨rfl, hT17.out.tq.be⟩
end Go.Proofs.YtambepkkhfandaaDoor.S
