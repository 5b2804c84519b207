/- Rules of a pattern's beginnings, and of the whole: plain. -/
import Derived.Test.YtlijlelejobchaaGreatDoorJ07
import Derived.Test.YtlijlelejobchaaGreatDoorJ13
import Derived.Test.YtlijlelejobchaaGreatDoorJ17
import Derived.Test.YtlijlelejobchaaGreatDoorJ21
namespace Go.Proofs.YtlijlelejobchaaGreatDoor.S
open Go.RowKit Go.Shelf
/-- A beginning's blocks: who may do all steps of each, how many they are, how many steps. -/
def lvStep (my : Nat → Nat) (s : (Nat → Nat) × Nat × Nat) (c : Nat) : (Nat → Nat) × Nat × Nat := (wiF s.1 s.2.1 c (my s.2.2), wiB s.2.1 c, s.2.2 + 1)
def lvS (my : Nat → Nat) (p : List Nat) : (Nat → Nat) × Nat × Nat := p.foldl (lvStep my) (fun _ => 0, 0, 0)
theorem lvS_snoc (my : Nat → Nat) (p : List Nat) (c : Nat) : lvS my (p ++ [c]) = lvStep my (lvS my p) c := by simp [lvS]
theorem lvS_len (my : Nat → Nat) (p : List Nat) : (lvS my p).2.2 = p.length := by
  have : ∀ (p : List Nat) (s : (Nat → Nat) × Nat × Nat), (p.foldl (lvStep my) s).2.2 = s.2.2 + p.length := fun p => by
    induction p with
    | nil => intro s; rfl
    | cons c p ih => intro s; rw [List.foldl_cons, ih]; simp only [lvStep, List.length_cons]; omega
  have h := this p (fun _ => 0, 0, 0)
  rw [Nat.zero_add] at h
  exact h
theorem lvS_blk (my : Nat → Nat) {p : List Nat} (h : Leg 0 p) : (lvS my p).2.1 = blks 0 p := by
  have : ∀ (p : List Nat) (s : (Nat → Nat) × Nat × Nat), Leg s.2.1 p → (p.foldl (lvStep my) s).2.1 = blks s.2.1 p := fun p => by
    induction p with
    | nil => intro s _; rfl
    | cons c p ih =>
      intro s hs
      have e : (lvStep my s c).2.1 = max s.2.1 (c + 1) := by
        have := hs.1
        simp only [lvStep, wiB]
        split <;> omega
      rw [List.foldl_cons, ih _ (by rw [e]; exact hs.2), e]
      rfl
  exact this p _ h
theorem lvS_word {my : Nat → Nat} (hw : ∀ j, my j < 18446744073709551616) (p : List Nat) : ∀ r, (lvS my p).1 r < 18446744073709551616 := by
  have : ∀ (p : List Nat) (s : (Nat → Nat) × Nat × Nat), (∀ r, s.1 r < 18446744073709551616) → ∀ r, (p.foldl (lvStep my) s).1 r < 18446744073709551616 := fun p => by
    induction p with
    | nil => intro s h; exact h
    | cons c p ih =>
      intro s h
      refine ih _ fun r => ?_
      show wiF s.1 s.2.1 c (my s.2.2) r < _
      unfold wiF
      split
      · by_cases e : r = c
        · rw [e, M.upd_same]; exact hw _
        · rw [M.upd_ne _ _ e]; exact h r
      · by_cases e : r = c
        · rw [e, M.upd_same]; exact Nat.lt_of_le_of_lt Nat.and_le_left (h c)
        · rw [M.upd_ne _ _ e]; exact h r
  exact this p _ fun _ => Nat.zero_lt_succ _
/-- Can there still be a plan behind it? -/
noncomputable def kpS (my : Nat → Nat) (RS : Nat → List Rl) (n : Nat) (q : List Nat) : Bool := earL (RS (q.length - 1)) (n : Int) (ints q) && decide (M.sizeN (lvS my q).1 (lvS my q).2.1 = (lvS my q).2.1)
/-- What a look leans on. -/
structure Hv (W0 : World) (gl U n gr or gw : Nat) (my : Nat → Nat) (Z : Nat) (RS : Nat → List Rl) : Prop where
  rl : ∀ W, M.Fr2 W0 W gl gw → ∀ t, t < n → ∃ rsv, W.cell? ⟨gr, or + t, none⟩ = some rsv ∧ RowR W rsv (RS t)
  few : ∀ t, (RS t).length ≤ 1000 ∧ ∀ r ∈ RS t, r.steps.length ≤ 1000
  n12 : n ≤ 12
  u64 : U ≤ 64
  z9 : Z ≤ 9216
  zb : ∀ q, Leg 0 q → q.length ≤ n → bitsN (lvS my q).1 (lvS my q).2.1 * (lvS my q).2.1 ≤ Z
/-- What a look has come to: behind that beginning, so many having been asked. -/
def Gk (W0 : World) (gl U gm om cm n gr or cr gw : Nat) (my : Nat → Nat) (Z a0 b0 c0 : Nat) (p : List Nat) (k : Nat) (W : World) : Prop :=
  ∃ F N a b c, M.Fr2 W0 W gl gw ∧ FtR W gl U gm om cm n (.slice (some ⟨gr, or, none⟩) n cr) F N gw a b c my ∧ (∀ j, j ≤ p.length → F j = (lvS my (p.take j)).1 ∧ N j = (lvS my (p.take j)).2.1) ∧ (a0 ≤ a ∧ a ≤ a0 + k) ∧ (b0 ≤ b ∧ b ≤ b0 + k * U) ∧ (c0 ≤ c ∧ c ≤ c0 + k * Z)
section
variable {W0 W W' : World} {gl U gm om cm n gr or cr gw Z a0 b0 c0 k : Nat} {my : Nat → Nat} {p : List Nat} {RS : Nat → List Rl}
theorem Gk.cut {c : Nat} (h : Gk W0 gl U gm om cm n gr or cr gw my Z a0 b0 c0 (p ++ [c]) k W) : Gk W0 gl U gm om cm n gr or cr gw my Z a0 b0 c0 p k W := by
  obtain ⟨F, N, a, b, d, h1, h2, h3, h4⟩ := h
  refine ⟨F, N, a, b, d, h1, h2, fun j hj => ?_, h4⟩
  have := h3 j (by simp; omega)
  rwa [List.take_append_of_le_length hj] at this
theorem Gk.cuts {t : List Nat} (h : Gk W0 gl U gm om cm n gr or cr gw my Z a0 b0 c0 (p ++ t) k W) : Gk W0 gl U gm om cm n gr or cr gw my Z a0 b0 c0 p k W := by
  obtain ⟨F, N, a, b, d, h1, h2, h3, h4⟩ := h
  refine ⟨F, N, a, b, d, h1, h2, fun j hj => ?_, h4⟩
  have := h3 j (by simp; omega)
  rwa [List.take_append_of_le_length hj] at this
/-- Whatever leaves what lay there when the search began alone. -/
theorem Gk.over (h : Gk W0 gl U gm om cm n gr or cr gw my Z a0 b0 c0 p k W) (hgl : gl < W0.heap.size) (hgw : gw < W0.heap.size) (hgm : gm < W0.heap.size) (hG : 1 ≤ W0.heap.size) (hb : Below W0.heap.size W W') : Gk W0 gl U gm om cm n gr or cr gw my Z a0 b0 c0 p k W' := by
  obtain ⟨F, N, a, b, d, h1, h2, h3, h4⟩ := h
  have hs := h1.size
  refine ⟨F, N, a, b, d, ⟨hb.os.trans h1.os, hb.tape.trans h1.tape, hb.output.trans h1.output, Nat.le_trans hs hb.size, fun x hx e1 e2 => (hb.block x hx).trans (h1.block x hx e1 e2)⟩, ⟨h2.lk.of (hb.block gl hgl), h2.gg.of (hb.block gw hgw), h2.ne, h2.gml, h2.gmw, h2.hil, h2.hiw, fun j hj => ?_, h2.wd, h2.tab.below hG hb⟩, h3, h4⟩
  exact (hb.cell (p := ⟨gm, om + j, none⟩) hgm).trans (h2.may j hj)
set_option maxRecDepth 100000 in
set_option maxHeartbeats 4000000 in
theorem keepF (hV : Hv W0 gl U n gr or gw my Z RS) (h : Gk W0 gl U gm om cm n gr or cr gw my Z a0 b0 c0 p k W) (c : Nat) (hL : Leg 0 (p ++ [c])) (hl : (p ++ [c]).length ≤ n) (hk : k < 100000000) (ha0 : a0 ≤ 2305843009213693952) (hb0 : b0 ≤ 2305843009213693952) (hc0 : c0 ≤ 2305843009213693952) (gb ob cb : Nat) (hB : RowI W (.slice (some ⟨gb, ob, none⟩) (p.length + 1) cb) (ints (p ++ [c]))) (hgl : gb ≠ gl) (hgw : gb ≠ gw) :
    Calls Tryz.prog 55 #[.pointer (some ⟨gl, 0, none⟩), .slice (some ⟨gb, ob, none⟩) (p.length + 1) cb] W fun e w' => e = .returned (.bool (kpS my RS n (p ++ [c]))) ∧ Hid (Gk W0 gl U gm om cm n gr or cr gw my Z a0 b0 c0 p (k + 1) w' ∧ (kpS my RS n (p ++ [c]) = true → Gk W0 gl U gm om cm n gr or cr gw my Z a0 b0 c0 (p ++ [c]) (k + 1) w') ∧ M.Fr2 W w' gl gw) := by
  obtain ⟨F, N, a, b, d, h1, h2, h3, ⟨h4a, h4b⟩, ⟨h5a, h5b⟩, ⟨h6a, h6b⟩⟩ := h
  have hU := hV.u64
  have hn := hV.n12
  have hlp : (p ++ [c]).length = p.length + 1 := by simp
  have hkU : k * U ≤ 100000000 * 64 := Nat.mul_le_mul (by omega) hU
  have hk9 : k * Z ≤ 100000000 * 9216 := Nat.mul_le_mul (by omega) hV.z9
  have hz9 := hV.z9
  have hLp := Leg.app.1 hL
  have hcb : c ≤ blks 0 p := hLp.2.1
  have hbl := blks_leg hLp.1
  obtain ⟨hFt, hNt⟩ := h3 p.length (Nat.le_refl _)
  rw [List.take_length] at hFt hNt
  have hNb : N p.length = blks 0 p := by rw [hNt, lvS_blk my hLp.1]
  have hcell : ∀ V, (∀ x, x < W.heap.size → x ≠ gl → x ≠ gw → V.heap[x]? = W.heap[x]?) → RowI V (.slice (some ⟨gb, ob, none⟩) (p.length + 1) cb) (ints (p ++ [c])) := fun V hVb => by
    obtain ⟨oa, cap, e, e0, hc⟩ := hB
    have e' := e
    injection e' with e1 e2 e3
    subst e1
    subst e3
    refine ⟨_, _, e, e0, fun i z hi => ?_⟩
    obtain ⟨g, o, e1, e2⟩ := hc i z hi
    cases e1
    refine ⟨_, _, rfl, ?_⟩
    have := hVb gb (cell_lt e2) hgl hgw
    simp only [World.cell?] at e2 ⊢
    rw [this]; exact e2
  have hR1 : Hid (M.Fr2 W (W.setCell ⟨gw, 0, none⟩ (.int .u64 ((a + 1 : Nat) : Int))) gl gw) := M.Fr2.setB _ gl gw 0 _
  have h7 : Hid (FtR (W.setCell ⟨gw, 0, none⟩ (.int .u64 ((a + 1 : Nat) : Int))) gl U gm om cm n (.slice (some ⟨gr, or, none⟩) n cr) F N gw (a + 1) b d my) := h2.fr hR1.out (h2.lk.of (Below.heap_setCell _ _ _ _ h2.ne)) (h2.gg.s0 (a + 1))
  have hB1 := hide' (hcell _ hR1.out.block)
  obtain ⟨rsv, hr1, hr2⟩ := hV.rl _ (h1.trans hR1.out) p.length (by omega)
  have KE := hide' (earlyS _ gl (some ⟨gm, om, none⟩) n cm gr or cr rsv (RS p.length) (ints (p ++ [c])) p.length _ h7.out.lk.c1 h7.out.lk.c2 hr1 hr2 hB1.out (by rw [ints_len, hlp]) (by omega) hn (hV.few p.length).1 (hV.few p.length).2)
  have hkp : Hid (kpS my RS n (p ++ [c]) = (earL (RS p.length) (n : Int) (ints (p ++ [c])) && decide (M.sizeN (wiF (F p.length) (N p.length) c (my p.length)) (wiB (N p.length) c) = wiB (N p.length) c))) := by
    show _ = _
    unfold kpS
    rw [hlp, Nat.add_sub_cancel, lvS_snoc, hFt, hNt]
    simp only [lvStep, lvS_len]
  have c172 := h2.lk.cw
  have ca := h2.gg.c0
  have fa := h2.gg.frz 0
  have hwa : IntKind.u64.wrap ((a : Int) + 1) = ((a + 1 : Nat) : Int) := by rw [IntKind.wrap_u64]; omega
  have h1' := hide' h1
  have h3' := hide' h3
  have hV' := hide' hV
  have hcx : ∀ V, RowI V (.slice (some ⟨gb, ob, none⟩) (p.length + 1) cb) (ints (p ++ [c])) → V.cell? ⟨gb, ob + p.length, none⟩ = some (.int .i64 (c : Int)) := fun V hVr => by
    obtain ⟨oa, cap, e, _, hc⟩ := hVr
    injection e with e1 e2 e3
    subst e1
    obtain ⟨g, o, e4, e5⟩ := hc p.length (c : Int) (by simp [ints])
    cases e4
    exact e5
  have hF64 : ∀ r, F p.length r < 18446744073709551616 := by rw [hFt]; exact lvS_word h2.wd p
  generalize hW1 : W.setCell ⟨gw, 0, none⟩ (.int .u64 ((a + 1 : Nat) : Int)) = W1 at *
  have KT : Hid (∀ V, Below W1.heap.size W1 V → Calls Tryz.prog 84 #[.pointer (some ⟨gl, 0, none⟩), .slice (some ⟨gb, ob, none⟩) (p.length + 1) cb] V fun e w' => e = .returned (.bool (decide (M.sizeN (wiF (F p.length) (N p.length) c (my p.length)) (wiB (N p.length) c) = wiB (N p.length) c))) ∧ Hid (FtR w' gl U gm om cm n (.slice (some ⟨gr, or, none⟩) n cr) (M.upd F (p.length + 1) (wiF (F p.length) (N p.length) c (my p.length))) (M.upd N (p.length + 1) (wiB (N p.length) c)) gw (a + 1) (b + U) (d + bitsN (wiF (F p.length) (N p.length) c (my p.length)) (wiB (N p.length) c) * wiB (N p.length) c) my) ∧ Hid (M.Fr2 V w' gl gw)) := fun V hVb =>
    fitsF V gl U gm om cm n _ F N gw (a + 1) b d my (h7.out.below hVb) gb ob p.length c cb (hcx V (hB1.out.below hVb (Nat.le_refl _))) (by omega) hn (by omega) (by omega) hF64 hU (by omega) (by omega)
  -- behind it, whatever was answered
  have hno : Hid (∀ V, Below W1.heap.size W1 V → Gk W0 gl U gm om cm n gr or cr gw my Z a0 b0 c0 p (k + 1) V ∧ M.Fr2 W V gl gw) := fun V hVb =>
    ⟨⟨F, N, a + 1, b, d, (h1.trans hR1.out).trans (M.Fr2.below hVb), h7.out.below hVb, h3, ⟨by omega, by omega⟩, ⟨h5a, by rw [Nat.add_mul]; omega⟩, ⟨h6a, by rw [Nat.add_mul]; omega⟩⟩, hR1.out.trans (M.Fr2.below hVb)⟩
  have hwN : wiB (N p.length) c ≤ 12 := by unfold wiB; split <;> omega
  have hbits : bitsN (wiF (F p.length) (N p.length) c (my p.length)) (wiB (N p.length) c) * wiB (N p.length) c ≤ Z := by
    have := hV.zb (p ++ [c]) hL hl
    rw [lvS_snoc] at this
    simp only [lvStep, lvS_len] at this
    rw [← hFt, ← hNt] at this
    exact this
  have hyes : Hid (∀ V V', Below W1.heap.size W1 V → FtR V' gl U gm om cm n (.slice (some ⟨gr, or, none⟩) n cr) (M.upd F (p.length + 1) (wiF (F p.length) (N p.length) c (my p.length))) (M.upd N (p.length + 1) (wiB (N p.length) c)) gw (a + 1) (b + U) (d + bitsN (wiF (F p.length) (N p.length) c (my p.length)) (wiB (N p.length) c) * wiB (N p.length) c) my → M.Fr2 V V' gl gw → Gk W0 gl U gm om cm n gr or cr gw my Z a0 b0 c0 (p ++ [c]) (k + 1) V' ∧ M.Fr2 W V' gl gw) := fun V V' hVb hft hfr =>
    ⟨⟨_, _, a + 1, b + U, _, ((h1.trans hR1.out).trans (M.Fr2.below hVb)).trans hfr, hft, fun j hj => by
      by_cases e : j = p.length + 1
      · subst e
        rw [M.upd_same, M.upd_same, List.take_of_length_le (by omega), lvS_snoc, hFt, hNt]
        simp only [lvStep, lvS_len, and_self]
      · rw [M.upd_ne _ _ e, M.upd_ne _ _ e, List.take_append_of_le_length (by omega)]
        exact h3 j (by omega), ⟨by omega, by omega⟩, ⟨by omega, by rw [Nat.add_mul]; omega⟩, ⟨by omega, by rw [Nat.add_mul]; omega⟩⟩, (hR1.out.trans (M.Fr2.below hVb)).trans hfr⟩
  have hW1' := hide' hW1
  rw [hkp.out]
  clear h1 h2 h3 hB hcell hR1 h7 hB1 hr1 hr2 hkp hcx hF64 hbits hV hFt hNt hNb hkU hk9 h4a h4b h5a h5b h6a h6b hL hl hLp hcb hbl ha0 hb0 hc0 hU hwN hlp hn hk hW1 hz9
  generalize earL (RS p.length) (n : Int) (ints (p ++ [c])) = eb at *
  generalize hfb : decide (M.sizeN (wiF (F p.length) (N p.length) c (my p.length)) (wiB (N p.length) c) = wiB (N p.length) c) = fb at *
  clear hfb
  cases eb with
  | false =>
    go_enter Tryz.func55, Tryz.ntmps55
    go_upto_region 2 with fail
    first | rw [hW1'.out] | (rw [show ((a : Int) + 1) = ((a + 1 : Nat) : Int) by omega, hW1'.out])
    clear hwa c172 ca fa
    go_wp2_with fail
    refine KE.out.mono ?_
    rintro e w2 ⟨rfl, hb2⟩
    have hE := hide' (hno.out w2 hb2)
    clear KE KT hno hyes hb2
    go_wp2
    go_ret
    exact ⟨rfl, hE.out.1, (fun h => by simp at h), hE.out.2⟩
  | true =>
    go_enter Tryz.func55, Tryz.ntmps55
    go_upto_region 2 with fail
    first | rw [hW1'.out] | (rw [show ((a : Int) + 1) = ((a + 1 : Nat) : Int) by omega, hW1'.out])
    clear hwa c172 ca fa
    go_wp2_with fail
    refine KE.out.mono ?_
    rintro e w2 ⟨rfl, hb2⟩
    go_wp2_with fail
    refine (KT.out w2 hb2).mono ?_
    rintro e w3 ⟨rfl, hft, hfr⟩
    have hE := hide' (hyes.out w2 w3 hb2 hft.out hfr.out)
    clear KE KT hno hyes hb2 hft hfr
    go_wp2
    go_ret
    exact ⟨ret_bool (by simp), hE.out.1.cut, fun _ => hE.out.1, hE.out.2⟩
end
end Go.Proofs.YtlijlelejobchaaGreatDoor.S
namespace Go.Proofs.YtlijlelejobchaaGreatDoor.S
open Go.RowKit Go.Shelf
theorem eql_fnS (b l : Array Value) (w : World) : (binOp .eql 87 (.func (.func 55) b l) .nilFunc).run Tryz.prog w = .ok (.bool false) w := by
  kernel_rfl
/-- A look's keep, as it is handed on. -/
def kvS (gl : Nat) : Value := .func (.func 55) #[.pointer (some ⟨gl, 0, none⟩)] #[]
/-- What a look has come to, and where one was found, that it is still that one's. -/
def Gs (W0 : World) (gl U gm om cm n gr or cr gw : Nat) (my : Nat → Nat) (Z a0 b0 c0 : Nat) (p : List Nat) (s : HS) (W : World) : Prop :=
  ∃ t, Gk W0 gl U gm om cm n gr or cr gw my Z a0 b0 c0 (p ++ t) s.1.length W ∧ (s.2 ≠ [] → s.2 = [p ++ t])
section
variable {W0 : World} {gl U gm om cm n gr or cr gw Z a0 b0 c0 KM : Nat} {my : Nat → Nat} {RS : Nat → List Rl}
set_option maxRecDepth 100000 in
set_option maxHeartbeats 4000000 in
theorem keptS (hV : Hv W0 gl U n gr or gw my Z RS) (hgl : gl < W0.heap.size) (hgw : gw < W0.heap.size) (hgm : gm < W0.heap.size) (hG : 1 ≤ W0.heap.size) (hKM : KM ≤ 100000000) (ha0 : a0 ≤ 2305843009213693952) (hb0 : b0 ≤ 2305843009213693952) (hc0 : c0 ≤ 2305843009213693952) :
    KeptC (Gs W0 gl U gm om cm n gr or cr gw my Z a0 b0 c0) (kvS gl) (kpS my RS n) W0.heap.size n 1 KM := by
  intro W tag ov vs xs s p c h htk hg0 hL hl hk hs1
  have hs2 : s.2 = [] := List.eq_nil_of_length_eq_zero (by omega)
  have hg : Gk W0 gl U gm om cm n gr or cr gw my Z a0 b0 c0 p s.1.length W := by
    obtain ⟨t, h1, _⟩ := hg0
    exact h1.cuts
  have hlS : (s.1 ++ [p ++ [c]]).length = s.1.length + 1 := by simp
  clear hg0 hs1
  have he := eql_fnS
  have hlp : (p ++ [c]).length = p.length + 1 := by simp
  have ck := cell_blkH h.bk
  have cr' := cell_blkH h.br
  have hlt := h.lt
  have hxl : xs.length = n := by have := h.row.1; simp [cellsI] at this; omega
  have hrow : RowI W (.slice (some ⟨W0.heap.size + 3, 0, none⟩) (p.length + 1) (p.length + 1)) (ints (p ++ [c])) := by
    have hr := h.row
    refine ⟨some ⟨W0.heap.size + 3, 0, none⟩, p.length + 1, by rw [ints_len, hlp], ⟨by rw [ints_len, hlp]; exact Nat.le_refl _, fun e => by cases e⟩, fun i z hi => ⟨W0.heap.size + 3, 0, rfl, ?_⟩⟩
    have hil := (List.getElem?_eq_some_iff.1 hi).1
    rw [ints_len] at hil
    rw [← htk, List.getElem?_take_of_lt hil] at hi
    rw [Nat.zero_add, hr.cellAt i (by omega)]
    simp [cellsI, hi]
  have hd : Below W0.heap.size W W.drew := (Below.refl _ W).drew
  have hdw : Below W.heap.size W W.drew := (Below.refl _ W).drew
  have KQ : Hid (Calls Tryz.prog 55 #[.pointer (some ⟨gl, 0, none⟩), .slice (some ⟨W0.heap.size + 3, 0, none⟩) (p.length + 1) (p.length + 1)] W.drew fun e w' => e = .returned (.bool (kpS my RS n (p ++ [c]))) ∧ Hid (Sx w' (kvS gl) W0.heap.size n 1 tag ov vs xs s.2 ∧ Gs W0 gl U gm om cm n gr or cr gw my Z a0 b0 c0 p (s.1 ++ [p ++ [c]], s.2) w' ∧ (kpS my RS n (p ++ [c]) = true → Gs W0 gl U gm om cm n gr or cr gw my Z a0 b0 c0 (p ++ [c]) (s.1 ++ [p ++ [c]], s.2) w'))) := by
    refine (keepF hV (hg.over hgl hgw hgm hG hd) c hL hl (by omega) ha0 hb0 hc0 (W0.heap.size + 3) 0 _ (hrow.below hdw (Nat.le_refl _)) (by omega) (by omega)).mono ?_
    rintro e w' ⟨rfl, hp⟩
    obtain ⟨h1, h2, h3⟩ := hp.out
    exact ⟨rfl, (h.below hdw).up h3.os h3.tape h3.output h3.size (fun g e1 e2 => h3.block g e2 (by omega) (by omega)), ⟨[], by rw [List.append_nil, hlS]; exact h1, fun q => absurd hs2 q⟩, fun q => ⟨[], by rw [List.append_nil, hlS]; exact h2 q, fun q => absurd hs2 q⟩⟩
  generalize hB : kpS my RS n (p ++ [c]) = b at *
  rw [hlp] at hl ⊢
  clear hrow htk hg h hB hlp hL hV hlS hs2
  have hS0 : Hid (W.drew.cell? ⟨W0.heap.size + 2, 0, none⟩ = some (kvS gl) ∧ W.drew.cell? ⟨W0.heap.size + 4, 0, none⟩ = some (.slice (some ⟨W0.heap.size + 3, 0, none⟩) n n)) := ⟨ck, cr'⟩
  unfold kvS at ck hS0 KQ ⊢
  have hqn : ((p.length + 1 : Nat) : Int) ≤ (n : Int) := by omega
  have hqz : ¬ ((p.length + 1 : Nat) : Int) < 0 := by omega
  generalize p.length + 1 = pl at *
  go_enter Tryz.func81, Tryz.ntmps81
  go_wp2
  go_region_held3 (fun V => V.cell? ⟨W0.heap.size + 2, 0, none⟩ = some (.func (.func 55) #[.pointer (some ⟨gl, 0, none⟩)] #[]) ∧ V.cell? ⟨W0.heap.size + 4, 0, none⟩ = some (.slice (some ⟨W0.heap.size + 3, 0, none⟩) n n)) (first | (exact hS0.out) | (exact hS2.out)) (first | (go_at_call 55; refine KQ.out.mono ?_; rintro e w2 ⟨rfl, hX2⟩; have hS2 := hide' (And.intro (cell_blkH hX2.out.1.bk) (cell_blkH hX2.out.1.br))))
  go_wp2
  go_ret
  exact ⟨rfl, hX2⟩
end
end Go.Proofs.YtlijlelejobchaaGreatDoor.S
namespace Go.Proofs.YtlijlelejobchaaGreatDoor.S
open Go.RowKit Go.Shelf
/-- A row of words, wherever it lies. -/
def RowW (w : World) (v : Value) (L : List Nat) : Prop := ∃ oa cap, v = .slice oa L.length cap ∧ (L.length ≤ cap ∧ (oa = none → cap = 0)) ∧ ∀ (i : Nat) (z : Nat), L[i]? = some z → ∃ g o, oa = some ⟨g, o, none⟩ ∧ w.cell? ⟨g, o + i, none⟩ = some (.int .u64 (z : Int))
theorem RowW.below {w w' : World} {v : Value} {L : List Nat} {n : Nat} (h : RowW w v L) (hb : Below n w w') (hn : w.heap.size ≤ n) : RowW w' v L := by
  obtain ⟨oa, cap, e, e0, h⟩ := h
  refine ⟨oa, cap, e, e0, fun i z hz => ?_⟩
  obtain ⟨g, o, e1, e2⟩ := h i z hz
  exact ⟨g, o, e1, (hb.cell (p := ⟨g, o + i, none⟩) (Nat.lt_of_lt_of_le (cell_lt e2) hn)).trans e2⟩
/-- A problem. -/
structure Pb where
  users : Int
  who : List Nat
  fixed : List Int
  rules : List Rl
/-- A problem as it is handed in. -/
structure PbV (w : World) (P : Pb) (wv fv rv : Value) : Prop where
  who : RowW w wv P.who
  fixed : RowI w fv P.fixed
  rules : RowR w rv P.rules
def pbV (P : Pb) (wv fv rv : Value) : Value := .agg #[.int .i64 P.users, wv, fv, rv]
theorem PbV.below {w w' : World} {P : Pb} {wv fv rv : Value} (h : PbV w P wv fv rv) (hb : Below w.heap.size w w') : PbV w' P wv fv rv :=
  ⟨h.who.below hb (Nat.le_refl _), h.fixed.below hb (Nat.le_refl _), h.rules.below hb (Nat.le_refl _)⟩
/-- Who may do a step: of one that is fixed that user. -/
def mayP (P : Pb) (t : Nat) : Nat := if P.fixed.getD t (-1) = -1 then P.who.getD t 0 else 2 ^ (P.fixed.getD t 0).toNat
set_option maxRecDepth 100000 in
set_option maxHeartbeats 1000000 in
theorem mayF (P : Pb) (wv fv rv : Value) (t : Nat) (w : World) (h : PbV w P wv fv rv) (hw : t < P.who.length) (hf : t < P.fixed.length) (hx : ∀ x ∈ P.fixed, x = -1 ∨ (0 ≤ x ∧ x < 64)) :
    Calls Tryz.prog 33 #[pbV P wv fv rv, .int .i64 (t : Int)] w fun e w' => e = .returned (.int .u64 (mayP P t : Int)) ∧ Below w.heap.size w w' := by
  obtain ⟨ow, cw, rfl, _, hcw⟩ := h.who
  obtain ⟨of, cf, rfl, _, hcf⟩ := h.fixed
  obtain ⟨z, hz⟩ : ∃ z, P.who[t]? = some z := ⟨_, List.getElem?_eq_getElem hw⟩
  obtain ⟨x, hxx⟩ : ∃ x, P.fixed[t]? = some x := ⟨_, List.getElem?_eq_getElem hf⟩
  obtain ⟨g1, o1, rfl, c1⟩ := hcw t z hz
  obtain ⟨g2, o2, rfl, c2⟩ := hcf t x hxx
  obtain ⟨or, cr, rfl⟩ : ∃ a b, rv = .slice a P.rules.length b := by obtain ⟨a, b, e, _⟩ := h.rules; exact ⟨a, b, e⟩
  have hB : Hid (Below w.heap.size w (w.alloc (.cells #[.int .i64 P.users, .slice (some ⟨g1, o1, none⟩) P.who.length cw, .slice (some ⟨g2, o2, none⟩) P.fixed.length cf, .slice or P.rules.length cr] 26))) := (Below.refl _ w).alloc (Nat.le_refl _) _
  have d1 := M.cell_over c1 hB.out
  have d2 := M.cell_over c2 hB.out
  have hwI : (t : Int) < (P.who.length : Int) := by omega
  have hfI : (t : Int) < (P.fixed.length : Int) := by omega
  have ht0 : ¬ (t : Int) < 0 := by omega
  have hm : mayP P t = if x = -1 then z else 2 ^ x.toNat := by
    unfold mayP
    simp [List.getD_eq_getElem?_getD, hz, hxx]
  rw [hm]
  unfold pbV
  have hxr := hx x (List.mem_of_getElem? hxx)
  clear hm hx hcw hcf h hz hxx
  by_cases he : x = -1
  · subst he
    rw [if_pos rfl]
    go_enter Tryz.func33, Tryz.ntmps33
    go_wp2
    go_ret
    exact ⟨rfl, hB.out⟩
  · rw [if_neg he]
    obtain ⟨y, rfl⟩ : ∃ y : Nat, x = (y : Int) := ⟨x.toNat, by omega⟩
    have hy : y < 64 := by omega
    have hne : ((y : Int) != -1) = true := by rw [bne_iff_ne]; omega
    have hy0 : ¬ (y : Int) < 0 := by omega
    have hsh := M.shl64 y hy
    have hsh2 : IntKind.u64.wrap (2 ^ y) = ((2 ^ y : Nat) : Int) := by rwa [show IntKind.u64.wrap 1 = 1 by decide, Int.one_mul] at hsh
    rw [Int.toNat_natCast]
    generalize (2 ^ y : Nat) = q at *
    clear hsh he hxr
    go_enter Tryz.func33, Tryz.ntmps33
    go_wp2
    go_ret
    exact ⟨rfl, hB.out⟩
end Go.Proofs.YtlijlelejobchaaGreatDoor.S
namespace Go.Proofs.YtlijlelejobchaaGreatDoor.S
open Go.RowKit Go.Shelf
def isU (P : Pb) (x : Int) : Bool := decide (0 ≤ x) && decide (x < P.users)
def fixB (P : Pb) : Bool := P.fixed.all (fun x => decide (x = -1) || isU P x) && decide (P.fixed.length = P.who.length)
def outU (U z : Nat) : Bool := decide (z / 2 ^ U = 0)
def whoB (P : Pb) : Bool := P.who.all (outU P.users.toNat)
def rulB (P : Pb) : Bool := P.rules.all fun r => chk (P.who.length : Int) r
def chkN (P : Pb) : Nat := if 12 < P.who.length ∨ 64 < P.users ∨ 32 < P.rules.length then 2 else if P.users < 0 ∨ fixB P = false ∨ whoB P = false ∨ rulB P = false then 1 else 0
/-- The four parts of a problem are what they are. -/
def PbS (P : Pb) (wv fv rv : Value) : Prop := ∃ ow cw of cf or cr, wv = .slice ow P.who.length cw ∧ fv = .slice of P.fixed.length cf ∧ rv = .slice or P.rules.length cr
theorem PbV.shape {w : World} {P : Pb} {wv fv rv : Value} (h : PbV w P wv fv rv) : PbS P wv fv rv := by
  obtain ⟨ow, cw, e1, _⟩ := h.who
  obtain ⟨of, cf, e2, _⟩ := h.fixed
  obtain ⟨or, cr, e3, _⟩ := h.rules
  exact ⟨ow, cw, of, cf, or, cr, e1, e2, e3⟩
set_option maxRecDepth 100000 in
set_option maxHeartbeats 1000000 in
theorem isUserF (P : Pb) (wv fv rv : Value) (x : Int) (w : World) (h : PbS P wv fv rv) :
    Calls Tryz.prog 32 #[pbV P wv fv rv, .int .i64 x] w fun e w' => e = .returned (.bool (isU P x)) ∧ Below w.heap.size w w' := by
  obtain ⟨ow, cw, of, cf, or, cr, rfl, rfl, rfl⟩ := h
  have hB : Hid (Below w.heap.size w (w.alloc (.cells #[.int .i64 P.users, .slice ow P.who.length cw, .slice of P.fixed.length cf, .slice or P.rules.length cr] 26))) := (Below.refl _ w).alloc (Nat.le_refl _) _
  unfold pbV isU
  by_cases h0 : 0 ≤ x
  · rw [decide_eq_true h0, Bool.true_and]
    go_enter Tryz.func32, Tryz.ntmps32
    go_wp2
    go_ret
    exact ⟨rfl, hB.out⟩
  · rw [decide_eq_false h0, Bool.false_and]
    go_enter Tryz.func32, Tryz.ntmps32
    go_wp2
    go_ret
    exact ⟨rfl, hB.out⟩
theorem all_take {α : Type} (f : α → Bool) {L : List α} {j : Nat} {x : α} (h : L[j]? = some x) : (L.take (j + 1)).all f = ((L.take j).all f && f x) := by
  rw [List.take_add_one, h]; simp
theorem all_no {α : Type} (f : α → Bool) {L : List α} {j : Nat} {x : α} (h : L[j]? = some x) (he : f x = false) : L.all f = false := by
  rw [List.all_eq_false]
  exact ⟨x, List.mem_of_getElem? h, by rw [he]; decide⟩
set_option maxRecDepth 100000 in
set_option maxHeartbeats 2000000 in
theorem fixedFitF (P : Pb) (wv fv rv : Value) (w : World) (h : PbV w P wv fv rv) (hl : P.fixed.length ≤ 1000) :
    Calls Tryz.prog 29 #[pbV P wv fv rv] w fun e w' => e = .returned (.bool (fixB P)) ∧ Below w.heap.size w w' := by
  have hs := h.shape
  have KU : Hid (∀ V x, Calls Tryz.prog 32 #[pbV P wv fv rv, .int .i64 x] V fun e w' => e = .returned (.bool (isU P x)) ∧ Below V.heap.size V w') := fun V x => isUserF P wv fv rv x V hs
  have hf := h.fixed
  obtain ⟨ow, cw, of, cf, or, cr, rfl, rfl, rfl⟩ := hs
  obtain ⟨oa, cap, e, _, hc⟩ := hf
  injection e with e1 e2 e3
  subst e1
  subst e3
  have hc' := hide' hc
  have hB0 : Hid (Below w.heap.size w (w.alloc (.cells #[.int .i64 P.users, .slice ow P.who.length cw, .slice of P.fixed.length cf, .slice or P.rules.length cr] 26))) := (Below.refl _ w).alloc (Nat.le_refl _) _
  have hb0 : Hid ((w.alloc (.cells #[.int .i64 P.users, .slice ow P.who.length cw, .slice of P.fixed.length cf, .slice or P.rules.length cr] 26)).heap[w.heap.size]? = some (.cells #[.int .i64 P.users, .slice ow P.who.length cw, .slice of P.fixed.length cf, .slice or P.rules.length cr] 26 (0, 0))) := heap_new w _
  unfold pbV at KU ⊢
  unfold fixB
  clear h hc e2
  go_enter Tryz.func29, Tryz.ntmps29
  go_wp2
  go_loopw [4, 8] (fun _ p wr => ∃ j : Nat, j ≤ P.fixed.length ∧ p = .int .i64 (j : Int) ∧ Hid ((P.fixed.take j).all (fun x => decide (x = -1) || isU P x) = true) ∧ Hid (Below w.heap.size w wr) ∧ Hid (wr.heap[w.heap.size]? = some (.cells #[.int .i64 P.users, .slice ow P.who.length cw, .slice of P.fixed.length cf, .slice or P.rules.length cr] 26 (0, 0)))) (fun _ p _ => ((P.fixed.length : Int) - intOf p).toNat)
  case atStart => exact ⟨0, Nat.zero_le _, rfl, rfl, hB0, hb0⟩
  case round =>
    clear hB0 hb0
    obtain ⟨j, hj, rfl, hE, hB, hb⟩ := hrel
    have q0 : wr.cell? ⟨w.heap.size, 0, none⟩ = some (.int .i64 P.users) := by have := hb.out; simp [World.cell?, this]
    have q1 : wr.cell? ⟨w.heap.size, 1, none⟩ = some (.slice ow P.who.length cw) := by have := hb.out; simp [World.cell?, this]
    have q2 : wr.cell? ⟨w.heap.size, 2, none⟩ = some (.slice of P.fixed.length cf) := by have := hb.out; simp [World.cell?, this]
    have q3 : wr.cell? ⟨w.heap.size, 3, none⟩ = some (.slice or P.rules.length cr) := by have := hb.out; simp [World.cell?, this]
    by_cases hlt : j < P.fixed.length
    · have hlt' : (j : Int) < (P.fixed.length : Int) := by omega
      obtain ⟨x, hx⟩ : ∃ x, P.fixed[j]? = some x := ⟨_, List.getElem?_eq_getElem hlt⟩
      obtain ⟨g, o, rfl, d1⟩ := hc'.out j x hx
      have d2 := M.cell_over d1 hB.out
      have hsn := hide' (all_take (fun x => decide (x = -1) || isU P x) hx)
      have hno := hide' (fun h => all_no (fun x => decide (x = -1) || isU P x) hx h)
      have hblk := (Array.getElem?_eq_some_iff.1 hb.out).1
      clear d1 hx
      by_cases he : x = -1
      · subst he
        have hE2 : Hid ((P.fixed.take (j + 1)).all (fun x => decide (x = -1) || isU P x) = true) := by show _ = _; rw [hsn.out, hE.out]; simp
        clear hsn hno hE
        go_wp2
        exact ⟨⟨j + 1, by omega, by go_num, hE2, hB, hb⟩, by simp [intOf]; omega⟩
      · have hne : (x != -1) = true := by rw [bne_iff_ne]; exact he
        cases hu : isU P x with
        | true =>
          have hE2 : Hid ((P.fixed.take (j + 1)).all (fun x => decide (x = -1) || isU P x) = true) := by show _ = _; rw [hsn.out, hE.out, hu]; simp
          have K2 := hide' (KU.out wr x)
          rw [hu] at K2
          clear hsn hno hE
          go_wp2_with fail
          refine K2.out.mono ?_
          rintro e w5 ⟨rfl, hb5⟩
          have hB5 : Hid (Below w.heap.size w w5) := hB.out.trans (hb5.mono hB.out.size)
          have hb6 : Hid (w5.heap[w.heap.size]? = some (.cells #[.int .i64 P.users, .slice ow P.who.length cw, .slice (some ⟨g, o, none⟩) P.fixed.length cf, .slice or P.rules.length cr] 26 (0, 0))) := (hb5.block _ hblk).trans hb.out
          clear hb5 hb hB K2
          go_wp2
          exact ⟨⟨j + 1, by omega, by go_num, hE2, hB5, hb6⟩, by simp [intOf]; omega⟩
        | false =>
          have hE2 := hide' (hno.out (by simp [he, hu]))
          have K2 := hide' (KU.out wr x)
          rw [hu] at K2
          clear hsn hno hE
          go_wp2_with fail
          refine K2.out.mono ?_
          rintro e w5 ⟨rfl, hb5⟩
          have hB5 : Hid (Below w.heap.size w w5) := hB.out.trans (hb5.mono hB.out.size)
          clear hb5 hb hB K2
          go_wp2
          go_ret
          exact ⟨ret_bool (by rw [hE2.out]; rfl), hB5.out⟩
    · obtain rfl : j = P.fixed.length := by omega
      rw [List.take_length] at hE
      have hcmp : Hid (((P.fixed.length : Int) == (P.who.length : Int)) = decide (P.fixed.length = P.who.length)) := by
        show _ = _
        by_cases e : P.fixed.length = P.who.length
        · rw [e]; simp
        · rw [decide_eq_false e, beq_eq_false_iff_ne]; omega
      clear hc'
      go_wp2
      go_ret
      exact ⟨ret_bool (by rw [hE.out, Bool.true_and]; exact hcmp.out), hB.out⟩
end Go.Proofs.YtlijlelejobchaaGreatDoor.S
namespace Go.Proofs.YtlijlelejobchaaGreatDoor.S
open Go.RowKit Go.Shelf
/-- The problem's box. -/
def PbB (w : World) (g : Nat) (P : Pb) (wv fv rv : Value) : Prop := w.heap[g]? = some (.cells #[.int .i64 P.users, wv, fv, rv] 26 (0, 0))
theorem PbB.c0 {w : World} {g : Nat} {P : Pb} {wv fv rv : Value} (h : PbB w g P wv fv rv) : w.cell? ⟨g, 0, none⟩ = some (.int .i64 P.users) := by unfold PbB at h; simp [World.cell?, h]
theorem PbB.c1 {w : World} {g : Nat} {P : Pb} {wv fv rv : Value} (h : PbB w g P wv fv rv) : w.cell? ⟨g, 1, none⟩ = some wv := by unfold PbB at h; simp [World.cell?, h]
theorem PbB.c2 {w : World} {g : Nat} {P : Pb} {wv fv rv : Value} (h : PbB w g P wv fv rv) : w.cell? ⟨g, 2, none⟩ = some fv := by unfold PbB at h; simp [World.cell?, h]
theorem PbB.c3 {w : World} {g : Nat} {P : Pb} {wv fv rv : Value} (h : PbB w g P wv fv rv) : w.cell? ⟨g, 3, none⟩ = some rv := by unfold PbB at h; simp [World.cell?, h]
theorem PbB.below {w w' : World} {g : Nat} {P : Pb} {wv fv rv : Value} (h : PbB w g P wv fv rv) (hb : Below w.heap.size w w') : PbB w' g P wv fv rv := (hb.block g (Array.getElem?_eq_some_iff.1 h).1).trans h
theorem shr_zero (z U : Nat) (hz : z < 18446744073709551616) : ((z : Int) / 2 ^ (min U 64)) = ((z / 2 ^ U : Nat) : Int) := by
  rcases Nat.lt_or_ge U 64 with h | h
  · rw [Nat.min_eq_left (by omega)]; simp
  · rw [Nat.min_eq_right h, Nat.div_eq_of_lt (Nat.lt_of_lt_of_le hz (show 2 ^ 64 ≤ 2 ^ U from Nat.pow_le_pow_right (by decide) h))]
    have : ((z : Int) / 2 ^ 64) = ((z / 2 ^ 64 : Nat) : Int) := by simp
    rw [this, Nat.div_eq_of_lt hz]
set_option maxRecDepth 100000 in
set_option maxHeartbeats 2000000 in
theorem whoFitF (P : Pb) (wv fv rv : Value) (w : World) (h : PbV w P wv fv rv) (hl : P.who.length ≤ 1000) (hU : 0 ≤ P.users) (hw : ∀ z ∈ P.who, z < 18446744073709551616) :
    Calls Tryz.prog 30 #[pbV P wv fv rv] w fun e w' => e = .returned (.bool (whoB P)) ∧ Below w.heap.size w w' := by
  have hs := h.shape
  have hf := h.who
  obtain ⟨ow, cw, of, cf, or, cr, rfl, rfl, rfl⟩ := hs
  obtain ⟨oa, cap, e, _, hc⟩ := hf
  injection e with e1 e2 e3
  subst e1
  subst e3
  have hc' := hide' hc
  have hw' := hide' hw
  have hB0 : Hid (Below w.heap.size w (w.alloc (.cells #[.int .i64 P.users, .slice ow P.who.length cw, .slice of P.fixed.length cf, .slice or P.rules.length cr] 26))) := (Below.refl _ w).alloc (Nat.le_refl _) _
  have hb0 : Hid (PbB (w.alloc (.cells #[.int .i64 P.users, .slice ow P.who.length cw, .slice of P.fixed.length cf, .slice or P.rules.length cr] 26)) w.heap.size P (.slice ow P.who.length cw) (.slice of P.fixed.length cf) (.slice or P.rules.length cr)) := heap_new w _
  obtain ⟨U, hUe⟩ : ∃ U : Nat, P.users = (U : Int) := ⟨P.users.toNat, by omega⟩
  have hU0 : ¬ (P.users : Int) < 0 := by omega
  unfold pbV
  have hwB : Hid (whoB P = P.who.all (outU U)) := by show _ = _; unfold whoB; rw [hUe, Int.toNat_natCast]
  rw [hwB.out]
  rw [hUe] at hB0 hb0 ⊢
  unfold PbB at hb0
  rw [hUe] at hb0
  clear h hc e2 hw hwB hU hU0
  go_enter Tryz.func30, Tryz.ntmps30
  go_wp2
  go_loopw [4, 8] (fun _ p wr => ∃ j : Nat, j ≤ P.who.length ∧ p = .int .i64 (j : Int) ∧ Hid ((P.who.take j).all (outU U) = true) ∧ Hid (Below w.heap.size w wr) ∧ Hid (wr.heap[w.heap.size]? = some (.cells #[.int .i64 (U : Int), .slice ow P.who.length cw, .slice of P.fixed.length cf, .slice or P.rules.length cr] 26 (0, 0)))) (fun _ p _ => ((P.who.length : Int) - intOf p).toNat)
  case atStart => exact ⟨0, Nat.zero_le _, rfl, rfl, hB0, hb0⟩
  case round =>
    clear hB0 hb0
    obtain ⟨j, hj, rfl, hE, hB, hb⟩ := hrel
    have q0 : wr.cell? ⟨w.heap.size, 0, none⟩ = some (.int .i64 (U : Int)) := by have := hb.out; simp [World.cell?, this]
    by_cases hlt : j < P.who.length
    · have hlt' : (j : Int) < (P.who.length : Int) := by omega
      obtain ⟨z, hx⟩ : ∃ z, P.who[j]? = some z := ⟨_, List.getElem?_eq_getElem hlt⟩
      obtain ⟨g, o, rfl, d1⟩ := hc'.out j z hx
      have d2 := M.cell_over d1 hB.out
      have hsn := hide' (all_take (outU U) hx)
      have hno := hide' (fun h => all_no (outU U) hx h)
      have hsh := shr_zero z U (hw'.out z (List.mem_of_getElem? hx))
      have hU0 : ¬ (U : Int) < 0 := by omega
      clear d1 hx
      by_cases he : z / 2 ^ U = 0
      · rw [he] at hsh
        have hE2 : Hid ((P.who.take (j + 1)).all (outU U) = true) := by show _ = _; rw [hsn.out, hE.out]; simp [outU, he]
        clear hsn hno hE he
        go_wp2
        exact ⟨⟨j + 1, by omega, by go_num, hE2, hB, hb⟩, by simp [intOf]; omega⟩
      · have hE2 := hide' (hno.out (by simp only [outU, he]; rfl))
        have hne : (((z / 2 ^ U : Nat) : Int) != 0) = true := by rw [bne_iff_ne]; omega
        generalize z / 2 ^ U = y at *
        clear hsn hno hE he
        go_wp2
        go_ret
        exact ⟨ret_bool hE2.out.symm, hB.out⟩
    · obtain rfl : j = P.who.length := by omega
      rw [List.take_length] at hE
      clear hc'
      go_wp2
      go_ret
      exact ⟨ret_bool hE.out.symm, hB.out⟩
set_option maxRecDepth 100000 in
set_option maxHeartbeats 2000000 in
theorem rulesFitF (P : Pb) (wv fv rv : Value) (w : World) (h : PbV w P wv fv rv) (hl : P.rules.length ≤ 1000) (hm : ∀ r ∈ P.rules, r.steps.length ≤ 1000) :
    Calls Tryz.prog 31 #[pbV P wv fv rv] w fun e w' => e = .returned (.bool (rulB P)) ∧ Below w.heap.size w w' := by
  have hs := h.shape
  have hf := h.rules
  obtain ⟨ow, cw, of, cf, or, cr, rfl, rfl, rfl⟩ := hs
  obtain ⟨oa, cap, e, _, hc⟩ := hf
  injection e with e1 e2 e3
  subst e1
  subst e3
  have hc' := hide' hc
  have hm' := hide' hm
  have hB0 : Hid (Below w.heap.size w (w.alloc (.cells #[.int .i64 P.users, .slice ow P.who.length cw, .slice of P.fixed.length cf, .slice or P.rules.length cr] 26))) := (Below.refl _ w).alloc (Nat.le_refl _) _
  have hb0 : Hid (PbB (w.alloc (.cells #[.int .i64 P.users, .slice ow P.who.length cw, .slice of P.fixed.length cf, .slice or P.rules.length cr] 26)) w.heap.size P (.slice ow P.who.length cw) (.slice of P.fixed.length cf) (.slice or P.rules.length cr)) := heap_new w _
  unfold pbV rulB
  clear h hc e2 hm
  go_enter Tryz.func31, Tryz.ntmps31
  go_wp2
  go_loopw [4, 8] (fun _ p wr => ∃ j : Nat, j ≤ P.rules.length ∧ p = .int .i64 (j : Int) ∧ Hid ((P.rules.take j).all (fun r => chk (P.who.length : Int) r) = true) ∧ Hid (Below w.heap.size w wr) ∧ Hid (PbB wr w.heap.size P (.slice ow P.who.length cw) (.slice of P.fixed.length cf) (.slice or P.rules.length cr))) (fun _ p _ => ((P.rules.length : Int) - intOf p).toNat)
  case atStart => exact ⟨0, Nat.zero_le _, rfl, rfl, hB0, hb0⟩
  case round =>
    clear hB0 hb0
    obtain ⟨j, hj, rfl, hE, hB, hb⟩ := hrel
    by_cases hlt : j < P.rules.length
    · have hlt' : (j : Int) < (P.rules.length : Int) := by omega
      obtain ⟨r, hx⟩ : ∃ r, P.rules[j]? = some r := ⟨_, List.getElem?_eq_getElem hlt⟩
      obtain ⟨g, o, sv, rfl, d1, d2, d3, d4⟩ := hc'.out j r hx
      have e1 := M.cell_over d1 hB.out
      have e2 := M.cell_over d2 hB.out
      have e3 := M.cell_over d3 hB.out
      have hsn := hide' (all_take (fun r => chk (P.who.length : Int) r) hx)
      have hno := hide' (fun h => all_no (fun r => chk (P.who.length : Int) r) hx h)
      have hB1 : Hid (Below w.heap.size w (wr.alloc (.cells #[.int .i64 r.kind, .int .i64 r.k, sv] 44))) := hB.out.alloc hB.out.size _
      have hb1 : Hid (PbB (wr.alloc (.cells #[.int .i64 r.kind, .int .i64 r.k, sv] 44)) w.heap.size P (.slice ow P.who.length cw) (.slice of P.fixed.length cf) (.slice (some ⟨g, o, none⟩) P.rules.length cr)) := hb.out.below ((Below.refl _ _).alloc (Nat.le_refl _) _)
      have q1 := hb1.out.c1
      have KE : Hid (Calls Tryz.prog 65 #[.int .i64 (P.who.length : Int), .agg #[.int .i64 r.kind, .int .i64 r.k, sv]] (wr.alloc (.cells #[.int .i64 r.kind, .int .i64 r.k, sv] 44)) fun e w' => e = .returned (.int .i64 (erC (chk (P.who.length : Int) r))) ∧ Below (wr.alloc (.cells #[.int .i64 r.kind, .int .i64 r.k, sv] 44)).heap.size (wr.alloc (.cells #[.int .i64 r.kind, .int .i64 r.k, sv] 44)) w') := checkF (P.who.length : Int) r sv _ (d4.below hB1.out (Nat.le_refl _)) (by have := hm'.out r (List.mem_of_getElem? hx); omega)
      obtain ⟨osv, nsv, csv, rfl⟩ : ∃ a b c, sv = .slice a b c := by obtain ⟨a, c, e, _⟩ := d4; exact ⟨a, _, c, e⟩
      clear d1 d2 d3 d4 hx hb
      cases hk : chk (P.who.length : Int) r with
      | true =>
        rw [hk] at KE
        have hE2 : Hid ((P.rules.take (j + 1)).all (fun r => chk (P.who.length : Int) r) = true) := by show _ = _; rw [hsn.out, hE.out, hk]; rfl
        clear hsn hno hE hk
        go_wp2_with fail
        refine KE.out.mono ?_
        rintro e w5 ⟨rfl, hb5⟩
        have hB5 : Hid (Below w.heap.size w w5) := hB1.out.trans (hb5.mono hB1.out.size)
        have hb6 := hide' (hb1.out.below hb5)
        clear hb5 hb1 hB1 KE q1
        unfold erC
        go_wp2
        exact ⟨⟨j + 1, by omega, by go_num, hE2, hB5, hb6⟩, by simp [intOf]; omega⟩
      | false =>
        rw [hk] at KE
        have hE2 := hide' (hno.out hk)
        clear hsn hno hE hk
        go_wp2_with fail
        refine KE.out.mono ?_
        rintro e w5 ⟨rfl, hb5⟩
        have hB5 : Hid (Below w.heap.size w w5) := hB1.out.trans (hb5.mono hB1.out.size)
        clear hb5 hb1 hB1 KE q1
        unfold erC
        go_wp2
        go_ret
        exact ⟨ret_bool hE2.out.symm, hB5.out⟩
    · obtain rfl : j = P.rules.length := by omega
      rw [List.take_length] at hE
      clear hc'
      go_wp2
      go_ret
      exact ⟨ret_bool hE.out.symm, hB.out⟩
end Go.Proofs.YtlijlelejobchaaGreatDoor.S
namespace Go.Proofs.YtlijlelejobchaaGreatDoor.S
open Go.RowKit Go.Shelf
theorem chkN_big {P : Pb} (h : 12 < P.who.length ∨ 64 < P.users ∨ 32 < P.rules.length) : chkN P = 2 := by unfold chkN; rw [if_pos h]
theorem chkN_bad {P : Pb} (h : ¬ (12 < P.who.length ∨ 64 < P.users ∨ 32 < P.rules.length)) (h2 : P.users < 0 ∨ fixB P = false ∨ whoB P = false ∨ rulB P = false) : chkN P = 1 := by unfold chkN; rw [if_neg h, if_pos h2]
theorem chkN_ok {P : Pb} (h : ¬ (12 < P.who.length ∨ 64 < P.users ∨ 32 < P.rules.length)) (h2 : ¬ (P.users < 0 ∨ fixB P = false ∨ whoB P = false ∨ rulB P = false)) : chkN P = 0 := by unfold chkN; rw [if_neg h, if_neg h2]
set_option maxRecDepth 100000 in
set_option maxHeartbeats 4000000 in
theorem checkPF (P : Pb) (wv fv rv : Value) (w : World) (h : PbV w P wv fv rv) (hlw : P.who.length ≤ 1000) (hlf : P.fixed.length ≤ 1000) (hlr : P.rules.length ≤ 1000) (hm : ∀ r ∈ P.rules, r.steps.length ≤ 1000) (hw : ∀ z ∈ P.who, z < 18446744073709551616) :
    Calls Tryz.prog 13 #[pbV P wv fv rv] w fun e w' => e = .returned (.int .i64 (chkN P : Int)) ∧ Below w.heap.size w w' := by
  have hs := h.shape
  have hB0 : Hid (Below w.heap.size w (w.alloc (.cells #[.int .i64 P.users, wv, fv, rv] 26))) := (Below.refl _ w).alloc (Nat.le_refl _) _
  have hb0 : Hid (PbB (w.alloc (.cells #[.int .i64 P.users, wv, fv, rv] 26)) w.heap.size P wv fv rv) := heap_new w _
  have K1 : Hid (∀ V, Below w.heap.size w V → Calls Tryz.prog 29 #[pbV P wv fv rv] V fun e w' => e = .returned (.bool (fixB P)) ∧ Below V.heap.size V w') := fun V hV => fixedFitF P wv fv rv V (h.below hV) hlf
  have K2 : Hid (0 ≤ P.users → ∀ V, Below w.heap.size w V → Calls Tryz.prog 30 #[pbV P wv fv rv] V fun e w' => e = .returned (.bool (whoB P)) ∧ Below V.heap.size V w') := fun h0 V hV => whoFitF P wv fv rv V (h.below hV) hlw h0 hw
  have K3 : Hid (∀ V, Below w.heap.size w V → Calls Tryz.prog 31 #[pbV P wv fv rv] V fun e w' => e = .returned (.bool (rulB P)) ∧ Below V.heap.size V w') := fun V hV => rulesFitF P wv fv rv V (h.below hV) hlr hm
  obtain ⟨ow, cw, of, cf, or, cr, rfl, rfl, rfl⟩ := hs
  unfold pbV at K1 K2 K3 ⊢
  clear h hm hw
  by_cases hA : 12 < P.who.length
  · rw [chkN_big (.inl hA)]
    have hA' : (12 : Int) < (P.who.length : Int) := by omega
    clear K1 K2 K3
    go_enter Tryz.func13, Tryz.ntmps13
    go_wp2
    go_ret
    exact ⟨rfl, hB0.out⟩
  have hA' : ¬ (12 : Int) < (P.who.length : Int) := by omega
  have hAd : decide ((12 : Int) < (P.who.length : Int)) = false := decide_eq_false hA'
  by_cases hB : 64 < P.users
  · rw [chkN_big (.inr (.inl hB))]
    clear K1 K2 K3
    go_enter Tryz.func13, Tryz.ntmps13
    go_wp2
    go_ret
    exact ⟨rfl, hB0.out⟩
  have hBd : decide ((64 : Int) < P.users) = false := decide_eq_false hB
  by_cases hC : 32 < P.rules.length
  · rw [chkN_big (.inr (.inr hC))]
    have hC' : (32 : Int) < (P.rules.length : Int) := by omega
    clear K1 K2 K3
    go_enter Tryz.func13, Tryz.ntmps13
    go_wp2
    go_ret
    exact ⟨rfl, hB0.out⟩
  have hC' : ¬ (32 : Int) < (P.rules.length : Int) := by omega
  have hCd : decide ((32 : Int) < (P.rules.length : Int)) = false := decide_eq_false hC'
  have hbig : ¬ (12 < P.who.length ∨ 64 < P.users ∨ 32 < P.rules.length) := by rintro (q | q | q) <;> omega
  by_cases hD : P.users < 0
  · rw [chkN_bad hbig (.inl hD)]
    clear K1 K2 K3
    go_enter Tryz.func13, Tryz.ntmps13
    go_wp2
    go_ret
    exact ⟨rfl, hB0.out⟩
  have hDd : decide (P.users < 0) = false := decide_eq_false hD
  cases hF : fixB P with
  | false =>
    rw [chkN_bad hbig (.inr (.inl hF))]
    rw [hF] at K1
    clear K2 K3
    go_enter Tryz.func13, Tryz.ntmps13
    go_wp2_with fail
    refine (K1.out _ hB0.out).mono ?_
    rintro e w1 ⟨rfl, hb1⟩
    have hB1 : Hid (Below w.heap.size w w1) := hB0.out.trans (hb1.mono hB0.out.size)
    clear hb1 K1
    go_wp2
    go_ret
    exact ⟨rfl, hB1.out⟩
  | true =>
    rw [hF] at K1
    cases hW : whoB P with
    | false =>
      rw [chkN_bad hbig (.inr (.inr (.inl hW)))]
      rw [hW] at K2
      go_enter Tryz.func13, Tryz.ntmps13
      go_wp2_with fail
      refine (K1.out _ hB0.out).mono ?_
      rintro e w1 ⟨rfl, hb1⟩
      have hB1 : Hid (Below w.heap.size w w1) := hB0.out.trans (hb1.mono hB0.out.size)
      have hp := hide' (hb0.out.below hb1)
      have q0 := hp.out.c0
      have q1 := hp.out.c1
      have q2 := hp.out.c2
      have q3 := hp.out.c3
      clear hb1
      go_wp2_with fail
      refine (K2.out (by omega) _ hB1.out).mono ?_
      rintro e w2 ⟨rfl, hb2⟩
      have hB2 : Hid (Below w.heap.size w w2) := hB1.out.trans (hb2.mono hB1.out.size)
      clear hb2 K1 K2 K3 q0 q1 q2 q3
      go_wp2
      go_ret
      exact ⟨rfl, hB2.out⟩
    | true =>
      rw [hW] at K2
      have hfin : Hid ((chkN P : Int) = if rulB P then 0 else 1) := by
        show _ = _
        cases hR : rulB P with
        | false => rw [chkN_bad hbig (.inr (.inr (.inr hR)))]; rfl
        | true => rw [chkN_ok hbig (by rintro (q | q | q | q) <;> simp_all)]; rfl
      rw [hfin.out]
      cases hR : rulB P with
      | false =>
        rw [hR] at K3
        go_enter Tryz.func13, Tryz.ntmps13
        go_wp2_with fail
        refine (K1.out _ hB0.out).mono ?_
        rintro e w1 ⟨rfl, hb1⟩
        have hB1 : Hid (Below w.heap.size w w1) := hB0.out.trans (hb1.mono hB0.out.size)
        have hp := hide' (hb0.out.below hb1)
        have q0 := hp.out.c0
        have q1 := hp.out.c1
        have q2 := hp.out.c2
        have q3 := hp.out.c3
        clear hb1
        go_wp2_with fail
        refine (K2.out (by omega) _ hB1.out).mono ?_
        rintro e w2 ⟨rfl, hb2⟩
        have hB2 : Hid (Below w.heap.size w w2) := hB1.out.trans (hb2.mono hB1.out.size)
        have hp2 := hide' (hp.out.below hb2)
        have r0 := hp2.out.c0
        have r1 := hp2.out.c1
        have r2 := hp2.out.c2
        have r3 := hp2.out.c3
        clear hb2 q0 q1 q2 q3
        go_wp2_with fail
        refine (K3.out _ hB2.out).mono ?_
        rintro e w3 ⟨rfl, hb3⟩
        have hB3 : Hid (Below w.heap.size w w3) := hB2.out.trans (hb3.mono hB2.out.size)
        clear hb3 K1 K2 K3 r0 r1 r2 r3
        go_wp2
        go_ret
        exact ⟨rfl, hB3.out⟩
      | true =>
        rw [hR] at K3
        go_enter Tryz.func13, Tryz.ntmps13
        go_wp2_with fail
        refine (K1.out _ hB0.out).mono ?_
        rintro e w1 ⟨rfl, hb1⟩
        have hB1 : Hid (Below w.heap.size w w1) := hB0.out.trans (hb1.mono hB0.out.size)
        have hp := hide' (hb0.out.below hb1)
        have q0 := hp.out.c0
        have q1 := hp.out.c1
        have q2 := hp.out.c2
        have q3 := hp.out.c3
        clear hb1
        go_wp2_with fail
        refine (K2.out (by omega) _ hB1.out).mono ?_
        rintro e w2 ⟨rfl, hb2⟩
        have hB2 : Hid (Below w.heap.size w w2) := hB1.out.trans (hb2.mono hB1.out.size)
        have hp2 := hide' (hp.out.below hb2)
        have r0 := hp2.out.c0
        have r1 := hp2.out.c1
        have r2 := hp2.out.c2
        have r3 := hp2.out.c3
        clear hb2 q0 q1 q2 q3
        go_wp2_with fail
        refine (K3.out _ hB2.out).mono ?_
        rintro e w3 ⟨rfl, hb3⟩
        have hB3 : Hid (Below w.heap.size w w3) := hB2.out.trans (hb3.mono hB2.out.size)
        clear hb3 K1 K2 K3 r0 r1 r2 r3
        go_wp2
        go_ret
        exact ⟨rfl, hB3.out⟩
end Go.Proofs.YtlijlelejobchaaGreatDoor.S
namespace Go.Proofs.YtlijlelejobchaaGreatDoor.S
open Go.RowKit Go.Shelf
/-- May that user do that step? -/
def okU (P : Pb) (t : Nat) (x : Int) : Bool := isU P x && (mayP P t).testBit x.toNat
def okA (P : Pb) (L : List Int) (j : Nat) : Bool := (List.range j).all fun t => okU P t (L.getD t 0)
theorem okA_succ (P : Pb) {L : List Int} {j : Nat} {x : Int} (h : L[j]? = some x) : okA P L (j + 1) = (okA P L j && okU P j x) := by
  unfold okA
  rw [List.range_succ]
  simp [h]
theorem okA_no (P : Pb) {L : List Int} {j : Nat} {x : Int} (h : L[j]? = some x) (he : okU P j x = false) : okA P L L.length = false := by
  unfold okA
  rw [List.all_eq_false]
  refine ⟨j, List.mem_range.2 (List.getElem?_eq_some_iff.1 h).1, ?_⟩
  simp [h, he]
theorem nat_beq0 (n : Nat) : ((n : Int) == 0) = decide (n = 0) := by
  rw [Bool.eq_iff_iff, beq_iff_eq, decide_eq_true_iff]
  omega
/-- A plan of the problem. -/
def holP (P : Pb) (L : List Int) : Bool := decide (chkN P = 0) && decide (L.length = P.who.length) && okA P L L.length && decide ((broken P.rules L).length = 0)
theorem mayP_lt {P : Pb} (hw : ∀ z ∈ P.who, z < 18446744073709551616) (hx : ∀ x ∈ P.fixed, x = -1 ∨ (0 ≤ x ∧ x < 64)) (t : Nat) : mayP P t < 18446744073709551616 := by
  unfold mayP
  split
  · cases e : P.who[t]? with
    | none => simp [List.getD_eq_getElem?_getD, e]
    | some z => simp [List.getD_eq_getElem?_getD, e]; exact hw z (List.mem_of_getElem? e)
  · rename_i hne
    have : (P.fixed.getD t 0).toNat < 64 := by
      cases e : P.fixed[t]? with
      | none => simp [List.getD_eq_getElem?_getD, e]
      | some x =>
        have h1 := hx x (List.mem_of_getElem? e)
        simp [List.getD_eq_getElem?_getD, e] at hne ⊢
        omega
    exact Nat.pow_lt_pow_right (a := 2) (n := 64) (by decide) this
theorem chkN_zero {P : Pb} (h : chkN P = 0) : P.who.length ≤ 12 ∧ 0 ≤ P.users ∧ P.users ≤ 64 ∧ P.rules.length ≤ 32 ∧ fixB P = true ∧ whoB P = true ∧ rulB P = true := by
  unfold chkN at h
  split at h
  · cases h
  · rename_i h1
    split at h
    · cases h
    · rename_i h2
      refine ⟨by omega, by omega, by omega, by omega, ?_, ?_, ?_⟩
      · cases e : fixB P
        · exact absurd (.inr (.inl e)) h2
        · rfl
      · cases e : whoB P
        · exact absurd (.inr (.inr (.inl e))) h2
        · rfl
      · cases e : rulB P
        · exact absurd (.inr (.inr (.inr e))) h2
        · rfl
theorem fixB_of {P : Pb} (h : fixB P = true) (hU : P.users ≤ 64) : P.fixed.length = P.who.length ∧ ∀ x ∈ P.fixed, x = -1 ∨ (0 ≤ x ∧ x < 64) := by
  unfold fixB at h
  rw [Bool.and_eq_true] at h
  refine ⟨of_decide_eq_true h.2, fun x hx => ?_⟩
  have := List.all_eq_true.1 h.1 x hx
  rw [Bool.or_eq_true] at this
  rcases this with q | q
  · exact .inl (of_decide_eq_true q)
  · unfold isU at q
    rw [Bool.and_eq_true] at q
    have h1 := of_decide_eq_true q.1
    have h2 := of_decide_eq_true q.2
    exact .inr ⟨h1, by omega⟩
set_option maxRecDepth 100000 in
set_option maxHeartbeats 4000000 in
theorem holdsPF (P : Pb) (wv fv rv : Value) (L : List Int) (lv : Value) (w : World) (h : PbV w P wv fv rv) (hL : RowI w lv L) (_ : L.length ≤ 1000) (hlw : P.who.length ≤ 1000) (hlf : P.fixed.length ≤ 1000) (hlr : P.rules.length ≤ 1000) (hm : ∀ r ∈ P.rules, r.steps.length ≤ 1000) (hw : ∀ z ∈ P.who, z < 18446744073709551616) :
    Calls Tryz.prog 14 #[pbV P wv fv rv, lv] w fun e w' => e = .returned (.bool (holP P L)) ∧ Below w.heap.size w w' := by
  have hs := h.shape
  have hB0 : Hid (Below w.heap.size w (w.alloc (.cells #[.int .i64 P.users, wv, fv, rv] 26))) := (Below.refl _ w).alloc (Nat.le_refl _) _
  have hb0 : Hid (PbB (w.alloc (.cells #[.int .i64 P.users, wv, fv, rv] 26)) w.heap.size P wv fv rv) := heap_new w _
  have h' := hide' h
  have hL' := hide' hL
  have K1 : Hid (∀ V, Below w.heap.size w V → Calls Tryz.prog 13 #[pbV P wv fv rv] V fun e w' => e = .returned (.int .i64 (chkN P : Int)) ∧ Below V.heap.size V w') := fun V hV => checkPF P wv fv rv V (h.below hV) hlw hlf hlr hm hw
  have K2 : Hid (∀ V x, Calls Tryz.prog 32 #[pbV P wv fv rv, .int .i64 x] V fun e w' => e = .returned (.bool (isU P x)) ∧ Below V.heap.size V w') := fun V x => isUserF P wv fv rv x V hs
  have K4 : Hid (∀ V, Below w.heap.size w V → Calls Tryz.prog 34 #[rv, lv] V fun e w' => ∃ oa cap, e = .returned (.slice oa (broken P.rules L).length cap) ∧ Below V.heap.size V w') := fun V hV => by
    refine (brokenF P.rules rv lv L V (h.rules.below hV (Nat.le_refl _)) (hL.below hV (Nat.le_refl _)) hlr hm).mono ?_
    rintro e w' ⟨v', rfl, ho, hb⟩
    obtain ⟨oa, cap, rfl⟩ := own_shp ho
    exact ⟨oa, cap, rfl, hb⟩
  obtain ⟨ow, cw, of, cf, or, cr, rfl, rfl, rfl⟩ := hs
  obtain ⟨ol, cl, rfl, _, hcl⟩ := hL
  have hcl' := hide' hcl
  clear hcl h
  by_cases hC : chkN P = 0
  case neg =>
    have hfin : holP P L = false := by unfold holP; rw [decide_eq_false hC]; rfl
    rw [hfin]
    have hne : (((chkN P : Nat) : Int) != 0) = true := by rw [bne_iff_ne]; omega
    generalize chkN P = c at *
    unfold pbV at K1 ⊢
    clear K2 K4 hC hfin
    go_enter Tryz.func14, Tryz.ntmps14
    go_wp2_with fail
    refine (K1.out _ hB0.out).mono ?_
    rintro e w1 ⟨rfl, hb1⟩
    have hB1 : Hid (Below w.heap.size w w1) := hB0.out.trans (hb1.mono hB0.out.size)
    clear hb1 K1
    go_wp2
    go_ret
    exact ⟨rfl, hB1.out⟩
  obtain ⟨g12, g0, g64, g32, gF, gW, gR⟩ := chkN_zero hC
  obtain ⟨gl, gx⟩ := fixB_of gF g64
  have K3 : Hid (∀ V, Below w.heap.size w V → ∀ t : Nat, t < P.who.length → Calls Tryz.prog 33 #[pbV P (.slice ow P.who.length cw) (.slice of P.fixed.length cf) (.slice or P.rules.length cr), .int .i64 (t : Int)] V fun e w' => e = .returned (.int .u64 (mayP P t : Int)) ∧ Below V.heap.size V w') := fun V hV t ht => mayF P _ _ _ t V (h'.out.below hV) ht (by omega) gx
  have hmb : Hid (∀ t, mayP P t < 18446744073709551616) := fun t => mayP_lt hw gx t
  have hhol : Hid (L.length = P.who.length → holP P L = (okA P L L.length && decide ((broken P.rules L).length = 0))) := fun hl => by unfold holP; rw [decide_eq_true hC, decide_eq_true hl]; rfl
  have hhn : Hid (L.length ≠ P.who.length → holP P L = false) := fun hl => by unfold holP; rw [decide_eq_true hC, decide_eq_false hl]; rfl
  have hiu : Hid (∀ x, isU P x = true → 0 ≤ x ∧ x < 64) := fun x hx => by
    unfold isU at hx
    rw [Bool.and_eq_true] at hx
    have h1 := of_decide_eq_true hx.1
    have h2 := of_decide_eq_true hx.2
    omega
  rw [hC] at K1
  clear hw gx gF gW gR hm h' hL' hC g64 g0 g32 gl
  unfold pbV at K1 K2 K3 ⊢
  by_cases hl : L.length = P.who.length
  case neg =>
    rw [hhn.out hl]
    have hl' : (L.length : Int) ≠ (P.who.length : Int) := by omega
    clear K2 K3 K4 hhol hhn hcl' hl
    go_enter Tryz.func14, Tryz.ntmps14
    go_wp2_with fail
    refine (K1.out _ hB0.out).mono ?_
    rintro e w1 ⟨rfl, hb1⟩
    have hB1 : Hid (Below w.heap.size w w1) := hB0.out.trans (hb1.mono hB0.out.size)
    have hp := hide' (hb0.out.below hb1)
    have q1 := hp.out.c1
    clear hb1 K1
    go_wp2
    go_ret
    exact ⟨rfl, hB1.out⟩
  have hno : Hid (∀ j x, L[j]? = some x → okU P j x = false → okA P L P.who.length = false) := fun j x h1 h2 => hl ▸ okA_no P h1 h2
  have hgl : Hid (∀ j, j < P.who.length → ∃ x, L[j]? = some x) := fun j hj => ⟨_, List.getElem?_eq_getElem (hl ▸ hj)⟩
  rw [hhol.out hl]
  rw [hl] at K4 ⊢
  clear hhol hhn hl
  go_enter Tryz.func14, Tryz.ntmps14
  go_wp2_with fail
  refine (K1.out _ hB0.out).mono ?_
  rintro e w1 ⟨rfl, hb1⟩
  have hB1 : Hid (Below w.heap.size w w1) := hB0.out.trans (hb1.mono hB0.out.size)
  have hp := hide' (hb0.out.below hb1)
  have q1 := hp.out.c1
  clear hb1 K1 hB0 hb0
  go_wp2
  go_loopw [4, 20] (fun _ p wr => ∃ j : Nat, j ≤ P.who.length ∧ p = .int .i64 (j : Int) ∧ Hid (okA P L j = true) ∧ Hid (Below w.heap.size w wr) ∧ Hid (PbB wr w.heap.size P (.slice ow P.who.length cw) (.slice of P.fixed.length cf) (.slice or P.rules.length cr))) (fun _ p _ => ((P.who.length : Int) - intOf p).toNat)
  case atStart => exact ⟨0, Nat.zero_le _, rfl, rfl, hB1, hp⟩
  case round =>
    clear hB1 hp q1
    obtain ⟨j, hj, rfl, hE, hB, hb⟩ := hrel
    by_cases hlt : j < P.who.length
    · have hlt' : (j : Int) < (P.who.length : Int) := by omega
      obtain ⟨x, hx⟩ := hgl.out j hlt
      obtain ⟨g, o, rfl, d1⟩ := hcl'.out j x hx
      have d2 := M.cell_over d1 hB.out
      have hsn := hide' (okA_succ P hx)
      have hn := hide' (hno.out j x hx)
      have q0 := hb.out.c0
      have q1 := hb.out.c1
      have q2 := hb.out.c2
      have q3 := hb.out.c3
      clear d1 hx hno hgl
      cases hu : isU P x with
      | false =>
        have hE2 := hide' (hn.out (by unfold okU; rw [hu]; rfl))
        have KU := hide' (K2.out wr x)
        rw [hu] at KU
        clear hn hsn hE K3 K4 hu
        go_wp2_with fail
        refine KU.out.mono ?_
        rintro e w5 ⟨rfl, hb5⟩
        have hB5 : Hid (Below w.heap.size w w5) := hB.out.trans (hb5.mono hB.out.size)
        clear hb5 hB KU
        go_wp2
        go_ret
        exact ⟨ret_bool (by rw [hE2.out]; rfl), hB5.out⟩
      | true =>
        obtain ⟨hx0, hx64⟩ := hiu.out x hu
        obtain ⟨y, rfl⟩ : ∃ y : Nat, x = (y : Int) := ⟨x.toNat, by omega⟩
        have hy64 : y < 64 := by omega
        have hneg : ¬ ((y : Int) < 0) := by omega
        have KU := hide' (K2.out wr (y : Int))
        rw [hu] at KU
        have hok : Hid (okU P j (y : Int) = (mayP P j).testBit y) := by show _ = _; unfold okU; rw [hu, Int.toNat_natCast]; rfl
        have hmj := hmb.out j
        cases hbit : (mayP P j).testBit y with
        | true =>
          have hsb := M.shr_bitT hmj hbit
          have hE2 : Hid (okA P L (j + 1) = true) := by show _ = _; rw [hsn.out, hE.out, hok.out, hbit]; rfl
          have KM := hide' (fun V hV => K3.out V hV j hlt)
          generalize mayP P j = m at *
          clear hn hsn hE hu hok hbit hx0 hx64
          go_wp2_with fail
          refine KU.out.mono ?_
          rintro e w5 ⟨rfl, hb5⟩
          have hB5 : Hid (Below w.heap.size w w5) := hB.out.trans (hb5.mono hB.out.size)
          have hp5 := hide' (hb.out.below hb5)
          have r0 := hp5.out.c0
          have r1 := hp5.out.c1
          have r2 := hp5.out.c2
          have r3 := hp5.out.c3
          clear hb5 hB hb KU q0 q1 q2 q3 d2
          go_wp2_with fail
          refine (KM.out _ hB5.out).mono ?_
          rintro e w6 ⟨rfl, hb6⟩
          have hB6 : Hid (Below w.heap.size w w6) := hB5.out.trans (hb6.mono hB5.out.size)
          have hp6 := hide' (hp5.out.below hb6)
          clear hb6 hB5 hp5 KM r0 r1 r2 r3
          go_wp2
          exact ⟨⟨j + 1, by omega, by go_num, hE2, hB6, hp6⟩, by simp [intOf]; omega⟩
        | false =>
          have hsb := M.shr_bitF hmj hbit
          have hE2 := hide' (hn.out (by rw [hok.out, hbit]))
          have KM := hide' (fun V hV => K3.out V hV j hlt)
          generalize mayP P j = m at *
          clear hn hsn hE hu hok hbit hx0 hx64
          go_wp2_with fail
          refine KU.out.mono ?_
          rintro e w5 ⟨rfl, hb5⟩
          have hB5 : Hid (Below w.heap.size w w5) := hB.out.trans (hb5.mono hB.out.size)
          have hp5 := hide' (hb.out.below hb5)
          have r0 := hp5.out.c0
          have r1 := hp5.out.c1
          have r2 := hp5.out.c2
          have r3 := hp5.out.c3
          clear hb5 hB hb KU q0 q1 q2 q3 d2
          go_wp2_with fail
          refine (KM.out _ hB5.out).mono ?_
          rintro e w6 ⟨rfl, hb6⟩
          have hB6 : Hid (Below w.heap.size w w6) := hB5.out.trans (hb6.mono hB5.out.size)
          clear hb6 hB5 hp5 KM r0 r1 r2 r3
          go_wp2
          go_ret
          exact ⟨ret_bool (by rw [hE2.out]; rfl), hB6.out⟩
    · obtain rfl : j = P.who.length := by omega
      have q3 := hb.out.c3
      clear hcl' K2 K3 hno hgl
      generalize hnb : (broken P.rules L).length = nb at K4
      have hnb' := hide' hnb
      clear hnb
      go_wp2_with fail
      refine (K4.out _ hB.out).mono ?_
      rintro e w5 ⟨oa, cap, rfl, hb5⟩
      have hB5 : Hid (Below w.heap.size w w5) := hB.out.trans (hb5.mono hB.out.size)
      clear hb5 hB K4 q3
      go_wp2
      go_ret
      exact ⟨ret_bool (by rw [hE.out, hnb'.out, Bool.true_and]; exact nat_beq0 nb), hB5.out⟩
end Go.Proofs.YtlijlelejobchaaGreatDoor.S
namespace Go.Proofs.YtlijlelejobchaaGreatDoor.S
open Go.RowKit Go.Shelf
set_option maxRecDepth 100000 in
set_option maxHeartbeats 2000000 in
theorem indexI (L : List Int) (v : Value) (x : Int) (w : World) (h : RowI w v L) (hl : L.length ≤ 1000000) :
    Calls Tryz.prog 93 #[v, .int .i64 x] w fun e w' => ∃ r : Int, e = .returned (.int .i64 r) ∧ decide (0 ≤ r) = decide (x ∈ L) ∧ Below w.heap.size w w' := by
  obtain ⟨oa, cap, rfl, _, hc⟩ := h
  have hc' := hide' hc
  clear hc
  go_enter Tryz.func93, Tryz.ntmps93
  go_wp2
  go_loopw [4, 8] (fun _ p wr => ∃ j : Nat, j ≤ L.length ∧ p = .int .i64 (j : Int) ∧ Hid (x ∉ L.take j) ∧ Hid (Below w.heap.size w wr)) (fun _ p _ => ((L.length : Int) - intOf p).toNat)
  case atStart => exact ⟨0, Nat.zero_le _, rfl, by show _ ∉ _; simp, Below.refl _ _⟩
  case round =>
    obtain ⟨j, hj, rfl, hE, hB⟩ := hrel
    by_cases hlt : j < L.length
    · have hlt' : (j : Int) < (L.length : Int) := by omega
      obtain ⟨y, hx⟩ : ∃ y, L[j]? = some y := ⟨_, List.getElem?_eq_getElem hlt⟩
      obtain ⟨g, o, rfl, d1⟩ := hc'.out j y hx
      have d2 := M.cell_over d1 hB.out
      have hx' := hide' hx
      clear d1 hx
      by_cases he : x = y
      · subst he
        have hin : Hid (x ∈ L) := List.mem_of_getElem? hx'.out
        clear hE hc'
        go_wp2
        go_ret
        exact ⟨(j : Int), rfl, by rw [decide_eq_true hin.out, decide_eq_true (by omega)], hB.out⟩
      · have hE2 : Hid (x ∉ L.take (j + 1)) := by
          show _ ∉ _
          rw [List.take_add_one, hx'.out]
          simp only [Option.toList_some, List.mem_append, List.mem_singleton]
          rintro (q | q)
          · exact hE.out q
          · exact he q
        clear hE
        go_wp2
        exact ⟨⟨j + 1, by omega, by go_num, hE2, hB⟩, by simp [intOf]; omega⟩
    · obtain rfl : j = L.length := by omega
      rw [List.take_length] at hE
      clear hc'
      go_wp2
      go_ret
      exact ⟨-1, rfl, by rw [decide_eq_false hE.out]; rfl, hB.out⟩
set_option maxRecDepth 100000 in
theorem containsI (L : List Int) (v : Value) (x : Int) (w : World) (h : RowI w v L) (hl : L.length ≤ 1000000) :
    Calls Tryz.prog 75 #[v, .int .i64 x] w fun e w' => e = .returned (.bool (decide (x ∈ L))) ∧ Below w.heap.size w w' := by
  have K := hide' (indexI L v x w h hl)
  obtain ⟨oa, cap, rfl, _, _⟩ := h
  go_enter Tryz.func75, Tryz.ntmps75
  go_wp2_with fail
  refine K.out.mono ?_
  rintro e w1 ⟨r, rfl, hr, hb⟩
  have hr' := hide' hr
  have hb' := hide' hb
  clear hr hb K
  go_wp2
  go_ret
  exact ⟨ret_bool hr'.out, hb'.out⟩
/-- A row of rules in memory of its own, whose steps lie where they lay. -/
structure TwO (w0 : World) (B : Nat) (w : World) (v : Value) (P : List (Rl × Value)) : Prop where
  row : w.ownsRow B 44 3 v P.length (cellsR P)
  inner : ∀ p ∈ P, RowI w0 p.2 p.1.steps
theorem TwO.rowR {w0 w : World} {B : Nat} {v : Value} {P : List (Rl × Value)} (h : TwO w0 B w v P) (hb : Below w0.heap.size w0 w) : RowR w v (P.map Prod.fst) := by
  have hr := h.row
  unfold RowR
  rw [List.length_map]
  rcases hr.2 with ⟨rfl, h0⟩ | ⟨g, cap, cur, rfl, _, _, hcap, _⟩
  · refine ⟨none, 0, by rw [h0], ⟨by omega, fun _ => rfl⟩, fun i z hz => ?_⟩
    have := (List.getElem?_eq_some_iff.1 hz).1
    simp at this; omega
  · refine ⟨_, cap, rfl, ⟨hcap, fun e => by cases e⟩, fun i z hz => ?_⟩
    rw [List.getElem?_map] at hz
    cases hp : P[i]? with
    | none => rw [hp] at hz; cases hz
    | some p =>
      rw [hp] at hz
      cases hz
      have hi := (List.getElem?_eq_some_iff.1 hp).1
      have a0 := hr.cellAt (i * 3 + 0) (by omega)
      have a1 := hr.cellAt (i * 3 + 1) (by omega)
      have a2 := hr.cellAt (i * 3 + 2) (by omega)
      rw [cellsR_at P i 0 (by decide), hp] at a0
      rw [cellsR_at P i 1 (by decide), hp] at a1
      rw [cellsR_at P i 2 (by decide), hp] at a2
      exact ⟨g, 0, p.2, rfl, by rw [Nat.zero_add]; exact a0, by rw [Nat.zero_add]; exact a1, by rw [Nat.zero_add]; exact a2, (h.inner p (List.mem_of_getElem? hp)).below hb (Nat.le_refl _)⟩
theorem TwO.nil (w0 : World) (B : Nat) (w : World) : TwO w0 B w (.slice none 0 0) [] := ⟨World.ownsRow_nil w _ _ _, fun p h => by cases h⟩
theorem app_ruleO {o : Oper} {a : Act} {K : Act → World → Prop} {Q : Exit → Act → World → Prop} (s x : Operand) (w0 : World) (B : Nat) (W : World) (v : Value) (P : List (Rl × Value)) (p : Rl × Value) (ho : o.op = .call { callee := .builtin .append, args := #[s, x], argTypes := #[24, 24] })
    (es : a.eval s = v) (ex : a.eval x = .slice (some ⟨W.heap.size, 0, none⟩) 1 1) (hT : TwO w0 B W v P) (hp : RowI w0 p.2 p.1.steps) (hB : B ≤ W.heap.size) (hn : P.length ≤ 1000000)
    (hK : ∀ v2 w2, TwO w0 B w2 v2 (P ++ [p]) → Below B W w2 → K (a.put o.dst v2) w2) : o.wp Tryz.prog a (W.alloc (.cells #[.int .i64 p.1.kind, .int .i64 p.1.k, p.2] 44)) K Q := by
  obtain ⟨i0, hi, hz0, hz1, hz2⟩ := info_parts infoR
  have hT1 : (W.alloc (.cells #[.int .i64 p.1.kind, .int .i64 p.1.k, p.2] 44)).ownsRow B 44 3 v P.length (cellsR P) := hT.row.alloc _
  have h1 : p.2.oneCell' = true := by obtain ⟨_, _, e, _⟩ := hp; rw [e]; rfl
  refine wp_append_own _ s x 24 ho B 44 i0 (.agg #[.int .i64 0, .int .i64 0, .slice none 0 0]) 3 40 Tryz.underlying24 hi hz0 hz1 hz2 rfl (by decide) v P.length (cellsR P) es hT1 ⟨W.heap.size, 0, none⟩ 1 1 (rcells p) ex rfl (World.news_of_block (cs := #[.int .i64 p.1.kind, .int .i64 p.1.k, p.2]) (heap_new _ _)) (rcells_one p h1) (by unfold maxLen; omega) (by omega) (by simp; omega) ?_
  intro v2 w2 hown hgrow _
  refine hK _ _ ⟨?_, fun q hq => ?_⟩ (((Below.refl B W).alloc hB _).grown hgrow (by simp; omega) (fun j ej => own_ge' hT.row ej))
  · rw [cellsR_app, List.length_append]
    simpa [cellsR] using hown
  · rcases List.mem_append.1 hq with q1 | q1
    · exact hT.inner q q1
    · rw [List.mem_singleton.1 q1]; exact hp
theorem app_ruleL {ops : Array Oper} {rest : List Oper} {o : Oper} {a : Act} {Q : Exit → Act → World → Prop} (hgd : o.guard = none) (s x : Operand) (w0 : World) (B : Nat) (W : World) (v : Value) (P : List (Rl × Value)) (p : Rl × Value) (ho : o.op = .call { callee := .builtin .append, args := #[s, x], argTypes := #[24, 24] })
    (es : a.eval s = v) (ex : a.eval x = .slice (some ⟨W.heap.size, 0, none⟩) 1 1) (hT : TwO w0 B W v P) (hp : RowI w0 p.2 p.1.steps) (hB : B ≤ W.heap.size) (hn : P.length ≤ 1000000)
    (h : ∀ v2 w2, TwO w0 B w2 v2 (P ++ [p]) → Below B W w2 → wpList Tryz.prog ops Q rest (a.put o.dst v2) w2) : wpList Tryz.prog ops Q (o :: rest) a (W.alloc (.cells #[.int .i64 p.1.kind, .int .i64 p.1.k, p.2] 44)) :=
  wpList_plain hgd fun _ hK => app_ruleO s x w0 B W v P p ho es ex hT hp hB hn fun v2 w2 h1 h2 => hK _ _ (h v2 w2 h1 h2)
theorem TwO.below {w0 w w' : World} {B m : Nat} {v : Value} {P : List (Rl × Value)} (h : TwO w0 B w v P) (hb : Below m w w') (hm : w.heap.size ≤ m) : TwO w0 B w' v P := ⟨own_below h.row hb hm, h.inner⟩
/-- The rules that a step stands in. -/
def rulN (L : List Rl) (x : Int) : List Rl := L.filter fun r => decide (x ∈ r.steps)
theorem rulN_take {L : List Rl} {x : Int} {j : Nat} {r : Rl} (h : L[j]? = some r) : rulN (L.take (j + 1)) x = rulN (L.take j) x ++ (if x ∈ r.steps then [r] else []) := by
  unfold rulN
  rw [List.take_add_one, h, List.filter_append]
  congr 1
  by_cases q : x ∈ r.steps <;> simp [q]
set_option maxRecDepth 100000 in
set_option maxHeartbeats 4000000 in
theorem rulesOfF0 (P : Pb) (wv fv rv : Value) (x : Int) (w0 w : World) (h : PbV w0 P wv fv rv) (hb0 : Below w0.heap.size w0 w) (hl : P.rules.length ≤ 1000) (hm : ∀ r ∈ P.rules, r.steps.length ≤ 1000) :
    Calls Tryz.prog 61 #[pbV P wv fv rv, .int .i64 x] w fun e w' => ∃ v E, e = .returned v ∧ E.map Prod.fst = rulN P.rules x ∧ TwO w0 w.heap.size w' v E ∧ Below w.heap.size w w' := by
  have hs := h.shape
  have hf := h.rules
  obtain ⟨ow, cw, of, cf, or, cr, rfl, rfl, rfl⟩ := hs
  obtain ⟨oa, cap, e, _, hc⟩ := hf
  injection e with e1 e2 e3
  subst e1
  subst e3
  have hc' := hide' hc
  have hm' := hide' hm
  have hb0' := hide' hb0
  have hB0 : Hid (Below w.heap.size w (w.alloc (.cells #[.int .i64 P.users, .slice ow P.who.length cw, .slice of P.fixed.length cf, .slice or P.rules.length cr] 26))) := (Below.refl _ w).alloc (Nat.le_refl _) _
  unfold pbV
  clear h hc e2 hm hb0
  go_enter Tryz.func61, Tryz.ntmps61
  go_wp2
  go_loopw [5, 11] (fun m p wr => ∃ (j : Nat) (E : List (Rl × Value)), j ≤ P.rules.length ∧ p = .int .i64 (j : Int) ∧ Hid (E.map Prod.fst = rulN (P.rules.take j) x) ∧ Hid (TwO w0 w.heap.size wr m E) ∧ Hid (Below w.heap.size w wr)) (fun _ p _ => ((P.rules.length : Int) - intOf p).toNat)
  case atStart => exact ⟨0, [], Nat.zero_le _, rfl, rfl, TwO.nil _ _ _, hB0⟩
  case round =>
    clear hB0
    obtain ⟨j, E, hj, rfl, hE, hT, hB⟩ := hrel
    by_cases hlt : j < P.rules.length
    · have hlt' : (j : Int) < (P.rules.length : Int) := by omega
      obtain ⟨r, hx⟩ : ∃ r, P.rules[j]? = some r := ⟨_, List.getElem?_eq_getElem hlt⟩
      obtain ⟨g, o, sv, rfl, d1, d2, d3, d4⟩ := hc'.out j r hx
      have e1 := M.cell_over (M.cell_over d1 hb0'.out) hB.out
      have e2 := M.cell_over (M.cell_over d2 hb0'.out) hB.out
      have e3 := M.cell_over (M.cell_over d3 hb0'.out) hB.out
      have hsn := hide' (rulN_take (x := x) hx)
      have hB1 : Hid (Below w.heap.size w (wr.alloc (.cells #[.int .i64 r.kind, .int .i64 r.k, sv] 44))) := hB.out.alloc hB.out.size _
      have KC : Hid (∀ V, Below w.heap.size w V → Calls Tryz.prog 75 #[sv, .int .i64 x] V fun e w' => e = .returned (.bool (decide (x ∈ r.steps))) ∧ Below V.heap.size V w') := fun V hV => containsI r.steps sv x V ((d4.below hb0'.out (Nat.le_refl _)).below hV (Nat.le_refl _)) (by have := hm'.out r (List.mem_of_getElem? hx); omega)
      have hq : Hid (RowI w0 ((r, sv) : Rl × Value).2 ((r, sv) : Rl × Value).1.steps) := d4
      have hEl : E.length ≤ 1000 := by
        have := congrArg List.length hE.out
        rw [List.length_map] at this
        have h2 : (rulN (P.rules.take j) x).length ≤ (P.rules.take j).length := List.length_filter_le _ _
        rw [List.length_take] at h2
        omega
      obtain ⟨osv, nsv, csv, rfl⟩ : ∃ a b c, sv = .slice a b c := by obtain ⟨a, c, e, _⟩ := d4; exact ⟨a, _, c, e⟩
      clear d1 d2 d3 d4 hx
      by_cases hk : x ∈ r.steps
      · rw [decide_eq_true hk] at KC
        rw [if_pos hk] at hsn
        have hE2 : Hid ((E ++ [(r, Value.slice osv nsv csv)]).map Prod.fst = rulN (P.rules.take (j + 1)) x) := by show _ = _; rw [hsn.out, List.map_append, hE.out]; rfl
        clear hsn hE hk
        go_wp2_with fail
        refine (KC.out _ hB1.out).mono ?_
        rintro e w5 ⟨rfl, hb5⟩
        have hB5 : Hid (Below w.heap.size w w5) := hB1.out.trans (hb5.mono hB1.out.size)
        have hT5 := hide' ((hT.out.below ((Below.refl wr.heap.size wr).alloc (Nat.le_refl _) _) (Nat.le_refl _)).below hb5 (Nat.le_refl _))
        have hbox : w5.heap[wr.heap.size]? = some (.cells #[.int .i64 r.kind, .int .i64 r.k, .slice osv nsv csv] 44 (0, 0)) := (hb5.block _ (by simp)).trans (heap_new wr _)
        have k0 : w5.cell? ⟨wr.heap.size, 0, none⟩ = some (.int .i64 r.kind) := by simp [World.cell?, hbox]
        have k1 : w5.cell? ⟨wr.heap.size, 1, none⟩ = some (.int .i64 r.k) := by simp [World.cell?, hbox]
        have k2 : w5.cell? ⟨wr.heap.size, 2, none⟩ = some (.slice osv nsv csv) := by simp [World.cell?, hbox]
        clear hb5 hB1 KC hbox hT hB e1 e2 e3
        go_wp2_with (at_builtin; refine app_ruleL rfl (.tmp 19) (.tmp 21) w0 w.heap.size w5 u5 E (r, .slice osv nsv csv) rfl rfl rfl hT5.out hq.out hB5.out.size (by omega) ?_; intro v2 w2 hT2 hb2; have hT3 := hide' hT2; have hB3 : Hid (Below w.heap.size w w2) := hB5.out.trans hb2; clear hT2 hb2)
        exact ⟨⟨j + 1, _, by omega, by go_num, hE2, hT3, hB3⟩, by simp [intOf]; omega⟩
      · rw [decide_eq_false hk] at KC
        rw [if_neg hk, List.append_nil] at hsn
        have hE2 : Hid (E.map Prod.fst = rulN (P.rules.take (j + 1)) x) := by show _ = _; rw [hsn.out, hE.out]
        clear hsn hE hk
        go_wp2_with fail
        refine (KC.out _ hB1.out).mono ?_
        rintro e w5 ⟨rfl, hb5⟩
        have hB5 : Hid (Below w.heap.size w w5) := hB1.out.trans (hb5.mono hB1.out.size)
        have hT5 := hide' ((hT.out.below ((Below.refl wr.heap.size wr).alloc (Nat.le_refl _) _) (Nat.le_refl _)).below hb5 (Nat.le_refl _))
        clear hb5 hB1 KC hT hB e1 e2 e3
        go_wp2
        exact ⟨⟨j + 1, E, by omega, by go_num, hE2, hT5, hB5⟩, by simp [intOf]; omega⟩
    · obtain rfl : j = P.rules.length := by omega
      rw [List.take_length] at hE
      clear hc'
      go_wp2
      go_ret
      exact ⟨_, E, rfl, hE.out, hT.out, hB.out⟩
theorem rulesOfF (P : Pb) (wv fv rv : Value) (x : Int) (w : World) (h : PbV w P wv fv rv) (hl : P.rules.length ≤ 1000) (hm : ∀ r ∈ P.rules, r.steps.length ≤ 1000) :
    Calls Tryz.prog 61 #[pbV P wv fv rv, .int .i64 x] w fun e w' => ∃ v E, e = .returned v ∧ E.map Prod.fst = rulN P.rules x ∧ TwO w w.heap.size w' v E ∧ Below w.heap.size w w' := rulesOfF0 P wv fv rv x w w h (Below.refl _ _) hl hm
end Go.Proofs.YtlijlelejobchaaGreatDoor.S
namespace Go.Proofs.YtlijlelejobchaaGreatDoor.S
open Go.RowKit Go.Shelf
theorem app_intL {ops : Array Oper} {rest : List Oper} {o : Oper} {a : Act} {Q : Exit → Act → World → Prop} (hgd : o.guard = none) (s x : Operand) (B : Nat) (W : World) (v : Value) (L : List Int) (z : Int) (ho : o.op = .call { callee := .builtin .append, args := #[s, x], argTypes := #[23, 23] })
    (es : a.eval s = v) (ex : a.eval x = .slice (some ⟨W.heap.size, 0, none⟩) 1 1) (hT : W.ownsRow B 3 1 v L.length (cellsI L)) (hB : B ≤ W.heap.size) (hn : L.length ≤ 1000000)
    (h : ∀ v2 w2, w2.ownsRow B 3 1 v2 (L ++ [z]).length (cellsI (L ++ [z])) → Below B W w2 → wpList Tryz.prog ops Q rest (a.put o.dst v2) w2) : wpList Tryz.prog ops Q (o :: rest) a (W.alloc (.cells #[.int .i64 z] 3)) := by
  obtain ⟨i0, hi, hz0, hz1, hz2⟩ := info_parts info3
  refine wpList_append_own _ hgd s x 23 ho B 3 i0 (.int .i64 0) 1 8 Tryz.underlying23 hi hz0 hz1 hz2 rfl (by decide) v L.length (cellsI L) es (hT.alloc _) ⟨W.heap.size, 0, none⟩ 1 1 [.int .i64 z] ex rfl (World.news_of_block (cs := #[.int .i64 z]) (heap_new _ _)) (by simp [Value.oneCell']) (by unfold maxLen; omega) (by omega) (by simp; omega) ?_
  intro v2 w2 hown hgrow _
  refine h v2 w2 ?_ (((Below.refl B W).alloc hB _).grown hgrow (by simp; omega) (fun j ej => own_ge' hT ej))
  have e : cellsI (L ++ [z]) = cellsI L ++ [.int .i64 z] := by simp [cellsI]
  rw [e, List.length_append]
  exact hown
/-- The places below j at which the order has one of the steps. -/
def movJ (S O : List Int) (j : Nat) : List Int := ((List.range j).filter fun i => decide (O.getD i 0 ∈ S)).map fun i : Nat => (i : Int)
def movN (S O : List Int) : List Int := movJ S O O.length
theorem movJ_succ {S O : List Int} {j : Nat} {x : Int} (h : O[j]? = some x) : movJ S O (j + 1) = movJ S O j ++ (if x ∈ S then [(j : Int)] else []) := by
  unfold movJ
  rw [List.range_succ, List.filter_append, List.map_append]
  congr 1
  have e : O.getD j 0 = x := by simp [h]
  rw [List.filter_cons, e]
  by_cases q : x ∈ S
  · rw [if_pos q, decide_eq_true q]; rfl
  · rw [if_neg q, decide_eq_false q]; rfl
theorem movJ_len (S O : List Int) (j : Nat) : (movJ S O j).length ≤ j := by
  unfold movJ
  rw [List.length_map]
  refine Nat.le_trans (List.length_filter_le _ _) ?_
  simp
set_option maxRecDepth 100000 in
set_option maxHeartbeats 4000000 in
theorem movedF (S O : List Int) (sv ov : Value) (w : World) (hS : RowI w sv S) (hO : RowI w ov O) (hl : O.length ≤ 1000) (hs : S.length ≤ 1000) :
    Calls Tryz.prog 59 #[sv, ov] w fun e w' => ∃ v, e = .returned v ∧ w'.ownsRow w.heap.size 3 1 v (movN S O).length (cellsI (movN S O)) ∧ Below w.heap.size w w' := by
  have KC : Hid (∀ V x, Below w.heap.size w V → Calls Tryz.prog 75 #[sv, .int .i64 x] V fun e w' => e = .returned (.bool (decide (x ∈ S))) ∧ Below V.heap.size V w') := fun V x hV => containsI S sv x V (hS.below hV (Nat.le_refl _)) (by omega)
  obtain ⟨os, cs, rfl, _, _⟩ := hS
  obtain ⟨oo, co, rfl, _, hc⟩ := hO
  have hc' := hide' hc
  clear hc
  unfold movN
  go_enter Tryz.func59, Tryz.ntmps59
  go_wp2
  go_loopw [5, 10] (fun m p wr => ∃ j : Nat, j ≤ O.length ∧ p = .int .i64 (j : Int) ∧ Hid (wr.ownsRow w.heap.size 3 1 m (movJ S O j).length (cellsI (movJ S O j))) ∧ Hid (Below w.heap.size w wr)) (fun _ p _ => ((O.length : Int) - intOf p).toNat)
  case atStart => exact ⟨0, Nat.zero_le _, rfl, World.ownsRow_nil w _ _ _, Below.refl _ _⟩
  case round =>
    obtain ⟨j, hj, rfl, hT, hB⟩ := hrel
    by_cases hlt : j < O.length
    · have hlt' : (j : Int) < (O.length : Int) := by omega
      obtain ⟨x, hx⟩ : ∃ x, O[j]? = some x := ⟨_, List.getElem?_eq_getElem hlt⟩
      obtain ⟨g, o, rfl, d1⟩ := hc'.out j x hx
      have e1 := M.cell_over d1 hB.out
      have hsn := hide' (movJ_succ (S := S) hx)
      have hml := movJ_len S O j
      have KX := hide' (KC.out wr x hB.out)
      clear d1 hx
      by_cases hk : x ∈ S
      · rw [decide_eq_true hk] at KX
        rw [if_pos hk] at hsn
        clear hk
        go_wp2_with fail
        refine KX.out.mono ?_
        rintro e w5 ⟨rfl, hb5⟩
        have hB5 : Hid (Below w.heap.size w w5) := hB.out.trans (hb5.mono hB.out.size)
        have hT5 := hide' (own_below hT.out hb5 (Nat.le_refl _))
        clear hb5 KX KC hT hB e1
        go_wp2_with (at_builtin; refine app_intL rfl (.tmp 18) (.tmp 20) w.heap.size w5 u5 (movJ S O j) (j : Int) rfl rfl rfl hT5.out hB5.out.size (by omega) ?_; intro v2 w2 hT2 hb2; have hT3 := hide' hT2; have hB3 : Hid (Below w.heap.size w w2) := hB5.out.trans hb2; clear hT2 hb2)
        exact ⟨⟨j + 1, by omega, by go_num, by rw [hsn.out]; exact hT3, hB3⟩, by simp [intOf]; omega⟩
      · rw [decide_eq_false hk] at KX
        rw [if_neg hk, List.append_nil] at hsn
        clear hk
        go_wp2_with fail
        refine KX.out.mono ?_
        rintro e w5 ⟨rfl, hb5⟩
        have hB5 : Hid (Below w.heap.size w w5) := hB.out.trans (hb5.mono hB.out.size)
        have hT5 := hide' (own_below hT.out hb5 (Nat.le_refl _))
        clear hb5 KX KC hT hB e1
        go_wp2
        exact ⟨⟨j + 1, by omega, by go_num, by rw [hsn.out]; exact hT5, hB5⟩, by simp [intOf]; omega⟩
    · obtain rfl : j = O.length := by omega
      clear hc'
      go_wp2
      go_ret
      exact ⟨_, rfl, hT.out, hB.out⟩
end Go.Proofs.YtlijlelejobchaaGreatDoor.S
namespace Go.Proofs.YtlijlelejobchaaGreatDoor.S
theorem means_back {kind k : Int} {P : List Int} {x : Int} {left : Nat} (h : means kind k (P ++ [x]) left = true) : means kind k P (left + 1) = true := by
  have h1 := unl_mono P x
  have h2 := mst_mono P x
  unfold means at h ⊢
  by_cases a1 : kind = 1
  · rw [if_pos a1] at h ⊢; simp at h ⊢; omega
  rw [if_neg a1] at h ⊢
  by_cases a2 : kind = 2
  · rw [if_pos a2] at h ⊢; simp at h ⊢; omega
  rw [if_neg a2] at h ⊢
  by_cases a3 : kind = 3
  · rw [if_pos a3] at h ⊢; simp at h ⊢; omega
  rw [if_neg a3] at h ⊢
  by_cases a4 : kind = 4
  · rw [if_pos a4] at h ⊢; simp at h ⊢; omega
  rw [if_neg a4] at h ⊢
  simp at h ⊢; omega
theorem chk_ris {n : Int} {r : Rl} (h : chk n r = true) : ris n 0 r.steps = true := by
  unfold chk at h
  simp only [Bool.and_eq_true] at h
  exact h.1.2
theorem chk_num {n : Int} {r : Rl} (h : chk n r = true) : numF r.kind r.k r.steps.length = true := by
  unfold chk at h
  simp only [Bool.and_eq_true] at h
  exact h.2
theorem early_nil {r : Rl} {n : Int} (hc : chk n r = true) : early r n [] = true := by
  have h0 : 0 ≤ n := by
    unfold chk at hc
    simp only [Bool.and_eq_true, decide_eq_true_eq] at hc
    exact hc.1.1.1
  have hn := chk_num hc
  have hl : labs [] r.steps = [] := by unfold labs; rw [List.filterMap_eq_nil_iff]; intro s _; simp
  unfold early
  rw [hc, hl]
  simp only [List.length_nil, Bool.true_and, Bool.and_eq_true, decide_eq_true_eq]
  refine ⟨by simpa using h0, ?_⟩
  unfold means
  unfold numF at hn
  have e1 : mst [] = 0 := rfl
  have e2 : unl [] = 0 := rfl
  rw [e1, e2]
  by_cases a1 : r.kind = 1
  · rw [if_pos a1]; rfl
  rw [if_neg a1]
  by_cases a2 : r.kind = 2
  · rw [if_pos a2]; rfl
  rw [if_neg a2]
  rw [if_neg (by rintro (q | q) <;> contradiction)] at hn
  by_cases a3 : r.kind = 3
  · rw [if_pos a3]
    rw [if_pos (.inl a3)] at hn
    simp at hn ⊢; omega
  rw [if_neg a3]
  by_cases a4 : r.kind = 4
  · rw [if_pos a4]
    rw [if_pos (.inr a4)] at hn
    simp at hn ⊢; omega
  rw [if_neg a4]
  rw [if_neg (by rintro (q | q) <;> contradiction)] at hn
  by_cases a5 : r.kind = 5
  · rw [if_pos a5] at hn
    simp at hn ⊢; omega
  · rw [if_neg a5] at hn; cases hn
theorem early_ext {r : Rl} {n : Int} {B : List Int} (x : Int) (hc : chk n r = true) (hB : (B.length : Int) < n) : (early r n (B ++ [x]) = true → early r n B = true) ∧ ((B.length : Int) ∉ r.steps → early r n (B ++ [x]) = early r n B) := by
  have hl := labs_ext (B := B) x (fun s hs => (ris_mem (chk_ris hc) s hs).1) (ris_pw (chk_ris hc))
  have hle := labs_len (B ++ [x]) r.steps
  have hd1 : decide (((B ++ [x]).length : Int) ≤ n) = true := decide_eq_true (by simp; omega)
  have hd2 : decide ((B.length : Int) ≤ n) = true := decide_eq_true (by omega)
  unfold early
  rw [hc, hd1, hd2]
  simp only [Bool.true_and]
  by_cases hm : (B.length : Int) ∈ r.steps
  · rw [if_pos hm] at hl
    refine ⟨fun h => ?_, fun q => absurd hm q⟩
    rw [hl] at h hle
    have := means_back h
    rw [List.length_append, List.length_singleton] at this hle
    rwa [show r.steps.length - ((labs B r.steps).length + 1) + 1 = r.steps.length - (labs B r.steps).length by omega] at this
  · rw [if_neg hm, List.append_nil] at hl
    rw [hl]
    exact ⟨fun h => h, fun _ => rfl⟩
theorem take_step {α : Type} {q : List α} {j : Nat} (hj : j < q.length) : q.take (j + 1) = q.take j ++ [q[j]] := by
  rw [List.take_add_one, List.getElem?_eq_getElem hj]; rfl
/-- A rule that can be kept by all can be kept by each beginning. -/
theorem early_take {r : Rl} {q : List Int} (hc : chk (q.length : Int) r = true) (h : early r q.length q = true) : ∀ k j, j + k = q.length → early r q.length (q.take j) = true := by
  intro k
  induction k with
  | zero => intro j hj; rw [List.take_of_length_le (by omega)]; exact h
  | succ k ih =>
    intro j hj
    have h1 := ih (j + 1) (by omega)
    have hj' : j < q.length := by omega
    rw [take_step hj'] at h1
    exact (early_ext _ hc (by rw [List.length_take]; omega)).1 h1
/-- A rule that can be kept behind each of its steps can be kept. -/
theorem early_up {r : Rl} {q : List Int} (hc : chk (q.length : Int) r = true) (hk : ∀ j, j < q.length → (j : Int) ∈ r.steps → early r q.length (q.take (j + 1)) = true) : ∀ j, j ≤ q.length → early r q.length (q.take j) = true := by
  intro j
  induction j with
  | zero => intro _; rw [List.take_zero]; exact early_nil hc
  | succ j ih =>
    intro hj
    by_cases hm : (j : Int) ∈ r.steps
    · exact hk j (by omega) hm
    · have hlen : (q.take j).length = j := by rw [List.length_take]; omega
      rw [take_step (by omega), (early_ext _ hc (by rw [hlen]; omega)).2 (by rw [hlen]; exact hm)]
      exact ih (by omega)
/-- The rules that each step stands in can be kept behind it: all hold. -/
theorem rules_iff {R : List Rl} {q : List Int} (hc : ∀ r ∈ R, chk (q.length : Int) r = true) : (∀ j, j < q.length → earL (rulN R (j : Int)) (q.length : Int) (q.take (j + 1)) = true) ↔ ∀ r ∈ R, holds r q = true := by
  constructor
  · intro h r hr
    have := early_up (hc r hr) (fun j hj hm => by
      have h1 := h j hj
      unfold earL rulN at h1
      rw [List.all_eq_true] at h1
      exact h1 r (by rw [List.mem_filter]; exact ⟨hr, by simpa using hm⟩)) q.length (Nat.le_refl _)
    rw [List.take_length] at this
    exact this
  · intro h j hj
    unfold earL rulN
    rw [List.all_eq_true]
    intro r hr
    rw [List.mem_filter] at hr
    exact early_take (hc r hr.1) (h r hr.1) (q.length - (j + 1)) (j + 1) (by omega)
end Go.Proofs.YtlijlelejobchaaGreatDoor.S
