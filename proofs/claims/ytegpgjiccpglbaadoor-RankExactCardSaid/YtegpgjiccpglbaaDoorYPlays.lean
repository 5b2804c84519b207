/- One call of both hierarchies: like answers. -/
import Derived.Test.YtegpgjiccpglbaaDoorYRef4
import Derived.Test.YtegpgjiccpglbaaDoorYOps
import Derived.Test.YtegpgjiccpglbaaDoorYLinks
import Derived.Test.YtegpgjiccpglbaaDoorYWake
namespace Go.Proofs.YtegpgjiccpglbaaDoor
open Go.RowKit
/-- The program's hierarchy and the document's, with the same links. -/
structure SdAt (W : World) (b r : Nat) (v : Value) (J : Nat → Nat) (D : List (Int × Int)) : Prop where
  rk : RkAt W b J
  rf : RfAt W r v 0 D
  sm : Sm J D
section
variable {W W' : World} {b r : Nat} {v v' : Value} {J J' : Nat → Nat} {D D' : List (Int × Int)}
theorem SdAt.over (h : SdAt W b r v J D) (hb : Below W.heap.size W W') : SdAt W' b r v J D := ⟨h.rk.over hb, h.rf.over hb, h.sm⟩
theorem SdAt.bne (h : SdAt W b r v J D) : b ≠ r := fun e => by
  subst e
  obtain ⟨c, hc, _⟩ := h.rk.row
  rw [h.rf.bx] at hc
  cases hc
theorem SdAt.vne (h : SdAt W b r v J D) : v.ownBlock ≠ some b := by
  obtain ⟨c, hc, _⟩ := h.rk.row
  exact owns_ne h.rf.row hc (by decide)
theorem RfAt.keep {S : Nat → Prop} (h : RfAt W r v 0 D) (hf : Fr S W W') (hr : ¬ S r) (hv : ∀ g, v.ownBlock = some g → ¬ S g) : RfAt W' r v 0 D := by
  refine ⟨(hf.block r h.lt hr).trans h.bx, h.row.1, ?_⟩
  rcases h.row.2 with h' | ⟨g, cap, cur, e1, hb, hg, rest⟩
  · exact .inl h'
  · exact .inr ⟨g, cap, cur, e1, hb, (hf.block g (Array.getElem?_eq_some_iff.1 hg).1 (hv g (by rw [e1]; rfl))).trans hg, rest⟩
theorem RkAt.keep {S : Nat → Prop} (h : RkAt W b J) (hf : Fr S W W') (hb : ¬ S b) (hG : ∀ k, S k → 1 ≤ k) : RkAt W' b J := by
  refine ⟨h.row.of_block (hf.block b h.lt hb), h.wf, h.acy, h.tab.below (Nat.le_refl _) (hf.below h.tab.2 hG), h.far⟩
/-- What a call of one side leaves. -/
def Ny (b r : Nat) (v v' : Value) (W W' : World) : Prop := Fr (fun k => k = b ∨ k = r ∨ v.ownBlock = some k) W W' ∧ ∀ g, v'.ownBlock = some g → v.ownBlock = some g ∨ W.heap.size ≤ g
theorem Ny.of_below (h : Below W.heap.size W W') : Ny b r v v W W' := ⟨Fr.of_below h, fun _ e => .inl e⟩
theorem Ny.after {W0 : World} (hb : Below W.heap.size W W0) (h : Ny b r v v' W0 W') : Ny b r v v' W W' :=
  ⟨(Fr.of_below hb).trans h.1 (fun _ _ e => e), fun g e => by
    rcases h.2 g e with h' | h'
    · exact .inl h'
    · exact .inr (Nat.le_trans hb.size h')⟩
/-- The program's change, then the document's. -/
theorem Ny.both {w3 w4 : World} (h1 : W.grownBy w3 (some b)) (h2 : Nx r v v' w3 w4) : Ny b r v v' W w4 :=
  ⟨(Fr.of_grown (S := fun k => k = b ∨ k = r ∨ v.ownBlock = some k) h1 (fun g e => by cases e; exact .inl rfl)).trans h2.1 (fun _ _ e => .inr e), fun g e => by
    rcases h2.2 g e with h' | h'
    · exact .inl h'
    · exact .inr (Nat.le_trans h1.size h')⟩
theorem SdAt.grown {w3 : World} (h : SdAt W b r v J D) (h1 : W.grownBy w3 (some b)) : RfAt w3 r v 0 D :=
  h.rf.keep (Fr.of_grown (S := fun k => k = b) h1 (fun g e => by cases e; rfl)) (fun e => h.bne e.symm) (fun g e e2 => h.vne (by rw [e, e2]))
theorem SdAt.next {w3 w4 : World} (hR : RkAt w3 b J') (hb : b ≠ r) (hvb : v.ownBlock ≠ some b) (hrf : RfAt w4 r v' 0 D') (hs : Sm J' D') (h2 : Nx r v v' w3 w4) (hG : 1 ≤ r) (hGv : ∀ g, v.ownBlock = some g → 1 ≤ g) : SdAt w4 b r v' J' D' :=
  ⟨hR.keep h2.1 (fun e => by rcases e with e | e; exact hb e; exact hvb e) (fun k e => by rcases e with rfl | e; exact hG; exact hGv k e), hrf, hs⟩
end
/-- The row lies behind the library's table. -/
def FarV (v : Value) : Prop := ∀ g, v.ownBlock = some g → 1 ≤ g
theorem keepB {S : Nat → Prop} {W W' : World} {n0 n1 i j k l : Nat} {u0 u1 u2 u3 : Value} (h : W.cell? ⟨n0, i, none⟩ = some u0 ∧ W.cell? ⟨n0, j, none⟩ = some u1 ∧ W.cell? ⟨n1, k, none⟩ = some u2 ∧ W.cell? ⟨n1, l, none⟩ = some u3) (hf : Fr S W W') (h0 : ¬ S n0) (h1 : ¬ S n1) :
    W'.cell? ⟨n0, i, none⟩ = some u0 ∧ W'.cell? ⟨n0, j, none⟩ = some u1 ∧ W'.cell? ⟨n1, k, none⟩ = some u2 ∧ W'.cell? ⟨n1, l, none⟩ = some u3 := ⟨hf.cell h.1 h0, hf.cell h.2.1 h0, hf.cell h.2.2.1 h1, hf.cell h.2.2.2 h1⟩
set_option maxRecDepth 100000 in
set_option maxHeartbeats 8000000 in
theorem playsR {W : World} {b r : Nat} {v : Value} {J : Nat → Nat} {D : List (Int × Int)} (h : SdAt W b r v J D) (hG : 1 ≤ r) (hGv : FarV v) (on d x y : Int) (s : Nat) (hsl : s < 18446744073709551616) :
    Calls Tryd.prog 9 #[.agg #[.pointer (some ⟨b, 0, none⟩), .pointer (some ⟨r, 0, none⟩)], .agg #[.int .i64 on, .int .i64 d, .int .i64 x, .int .i64 y, .int .u64 (s : Int)]] W fun e w' => e = .returned (.bool true) ∧ ∃ v' J' D', SdAt w' b r v' J' D' ∧ Ny b r v v' W w' := by
  have hB0 : Below W.heap.size W ((W.alloc (.cells #[.pointer (some ⟨b, 0, none⟩), .pointer (some ⟨r, 0, none⟩)] 26)).alloc (.cells #[.int .i64 on, .int .i64 d, .int .i64 x, .int .i64 y, .int .u64 (s : Int)] 35)) := ((Below.refl _ W).alloc (Nat.le_refl _) _).alloc (by simp) _
  have hS0 := hide' (h.over hB0)
  have hbl := h.rk.lt
  have hrl := h.rf.lt
  have hvl := hide' (owns_lt h.rf.row)
  have hB0' := hide' hB0
  clear hB0 h
  go_enter Tryd.func9, Tryd.ntmps9
  go_upto_region 1 with fail
  have k0 : ((W.alloc (.cells #[.pointer (some ⟨b, 0, none⟩), .pointer (some ⟨r, 0, none⟩)] 26)).alloc (.cells #[.int .i64 on, .int .i64 d, .int .i64 x, .int .i64 y, .int .u64 (s : Int)] 35)).cell? ⟨W.heap.size, 0, none⟩ = some (.pointer (some ⟨b, 0, none⟩)) := by simp
  have k1 : ((W.alloc (.cells #[.pointer (some ⟨b, 0, none⟩), .pointer (some ⟨r, 0, none⟩)] 26)).alloc (.cells #[.int .i64 on, .int .i64 d, .int .i64 x, .int .i64 y, .int .u64 (s : Int)] 35)).cell? ⟨W.heap.size, 1, none⟩ = some (.pointer (some ⟨r, 0, none⟩)) := by simp
  have o1 : ((W.alloc (.cells #[.pointer (some ⟨b, 0, none⟩), .pointer (some ⟨r, 0, none⟩)] 26)).alloc (.cells #[.int .i64 on, .int .i64 d, .int .i64 x, .int .i64 y, .int .u64 (s : Int)] 35)).cell? ⟨W.heap.size + 1, 1, none⟩ = some (.int .i64 d) := by simp
  have o2 : ((W.alloc (.cells #[.pointer (some ⟨b, 0, none⟩), .pointer (some ⟨r, 0, none⟩)] 26)).alloc (.cells #[.int .i64 on, .int .i64 d, .int .i64 x, .int .i64 y, .int .u64 (s : Int)] 35)).cell? ⟨W.heap.size + 1, 2, none⟩ = some (.int .i64 x) := by simp
  have o3 : ((W.alloc (.cells #[.pointer (some ⟨b, 0, none⟩), .pointer (some ⟨r, 0, none⟩)] 26)).alloc (.cells #[.int .i64 on, .int .i64 d, .int .i64 x, .int .i64 y, .int .u64 (s : Int)] 35)).cell? ⟨W.heap.size + 1, 3, none⟩ = some (.int .i64 y) := by simp
  have o4 : ((W.alloc (.cells #[.pointer (some ⟨b, 0, none⟩), .pointer (some ⟨r, 0, none⟩)] 26)).alloc (.cells #[.int .i64 on, .int .i64 d, .int .i64 x, .int .i64 y, .int .u64 (s : Int)] 35)).cell? ⟨W.heap.size + 1, 4, none⟩ = some (.int .u64 (s : Int)) := by simp
  generalize hW0 : ((W.alloc (.cells #[.pointer (some ⟨b, 0, none⟩), .pointer (some ⟨r, 0, none⟩)] 26)).alloc (.cells #[.int .i64 on, .int .i64 d, .int .i64 x, .int .i64 y, .int .u64 (s : Int)] 35)) = W0 at *
  clear hW0
  have hn0 : ¬ (W.heap.size = b ∨ W.heap.size = r ∨ v.ownBlock = some W.heap.size) := by
    rintro (e | e | e)
    · omega
    · omega
    · have := hvl.out _ e; omega
  have hn1 : ¬ (W.heap.size + 1 = b ∨ W.heap.size + 1 = r ∨ v.ownBlock = some (W.heap.size + 1)) := by
    rintro (e | e | e)
    · omega
    · omega
    · have := hvl.out _ e; omega
  have hn0' := hide' hn0
  have hn1' := hide' hn1
  have hfin : Hid (∀ V, Qt W0 V → ∃ v' J' D', SdAt V b r v' J' D' ∧ Ny b r v v' W V) := fun V hV => ⟨v, J, D, hS0.out.over hV.below, Ny.of_below (hB0'.out.trans (hV.below.mono hB0'.out.size))⟩
  clear hn0 hn1
  by_cases d1 : d = 1
  · subst d1
    have KP : Hid (Calls Tryd.prog 10 #[.pointer (some ⟨b, 0, none⟩), .int .i64 x, .int .i64 y] W0.drew fun e w' => e = .returned (.int .i64 (ovC J x y)) ∧ RkAt w' b (ovJ J x y) ∧ W0.grownBy w' (some b)) := (over hS0.out.rk.drew x y).mono fun _ _ ⟨h1, h2, h3⟩ => ⟨h1, h2, grown_trans (grown_below _ (Below.refl _ _).drew) h3⟩
    have KR : Hid (∀ V, W0.grownBy V (some b) → Calls Tryd.prog 20 #[.pointer (some ⟨r, 0, none⟩), .int .i64 x, .int .i64 y] V fun e w' => e = .returned (.int .i64 (ovC J x y)) ∧ ∃ v', RfAt w' r v' 0 (ovD J D x y) ∧ Nx r v v' V w') := fun V hV => overRR (hS0.out.grown hV) hS0.out.rk.wf hS0.out.rk.acy hS0.out.sm x y
    have hnx : Hid (∀ V V' v', RkAt V b (ovJ J x y) → W0.grownBy V (some b) → RfAt V' r v' 0 (ovD J D x y) → Nx r v v' V V' → ∃ v' J' D', SdAt V' b r v' J' D' ∧ Ny b r v v' W V') := fun V V' v' h1 h2 h3 h4 => ⟨v', _, _, SdAt.next h1 hS0.out.bne hS0.out.vne h3 (ovD_sm hS0.out.rk.wf hS0.out.sm x y) h4 hG hGv, Ny.after hB0'.out (Ny.both h2 h4)⟩
    have hi0 : Hid (W0.drew.cell? ⟨W.heap.size, 0, none⟩ = some (.pointer (some ⟨b, 0, none⟩)) ∧ W0.drew.cell? ⟨W.heap.size, 1, none⟩ = some (.pointer (some ⟨r, 0, none⟩)) ∧ W0.drew.cell? ⟨W.heap.size + 1, 2, none⟩ = some (.int .i64 x) ∧ W0.drew.cell? ⟨W.heap.size + 1, 3, none⟩ = some (.int .i64 y)) := ⟨k0, k1, o2, o3⟩
    have hk1 : Hid (∀ V, W0.grownBy V (some b) → V.cell? ⟨W.heap.size, 0, none⟩ = some (.pointer (some ⟨b, 0, none⟩)) ∧ V.cell? ⟨W.heap.size, 1, none⟩ = some (.pointer (some ⟨r, 0, none⟩)) ∧ V.cell? ⟨W.heap.size + 1, 2, none⟩ = some (.int .i64 x) ∧ V.cell? ⟨W.heap.size + 1, 3, none⟩ = some (.int .i64 y)) := fun V hV => keepB (W := W0) hi0.out (Fr.of_grown (S := fun k => k = b ∨ k = r ∨ v.ownBlock = some k) hV (fun g e => by cases e; exact .inl rfl)) hn0'.out hn1'.out
    have hk2 : Hid (∀ V V' v', W0.grownBy V (some b) → Nx r v v' V V' → V'.cell? ⟨W.heap.size, 0, none⟩ = some (.pointer (some ⟨b, 0, none⟩)) ∧ V'.cell? ⟨W.heap.size, 1, none⟩ = some (.pointer (some ⟨r, 0, none⟩)) ∧ V'.cell? ⟨W.heap.size + 1, 2, none⟩ = some (.int .i64 x) ∧ V'.cell? ⟨W.heap.size + 1, 3, none⟩ = some (.int .i64 y)) := fun V V' v' hV hN => keepB (hk1.out V hV) hN.1 (fun e => hn0'.out (.inr e)) (fun e => hn1'.out (.inr e))
    generalize ovC J x y = cc at *
    clear hfin hS0 o4
    as_aux_lemma =>
    go_wp2
    go_region_held3 (fun V => V.cell? ⟨W.heap.size, 0, none⟩ = some (.pointer (some ⟨b, 0, none⟩)) ∧ V.cell? ⟨W.heap.size, 1, none⟩ = some (.pointer (some ⟨r, 0, none⟩)) ∧ V.cell? ⟨W.heap.size + 1, 2, none⟩ = some (.int .i64 x) ∧ V.cell? ⟨W.heap.size + 1, 3, none⟩ = some (.int .i64 y)) (first | assumption | (exact hi0.out) | (exact hk2.out _ _ _ hg3'.out hN4'.out) | (exact hk1.out _ hg3'.out)) (first | (go_at_call 10; refine KP.out.mono ?_; rintro e w3 ⟨rfl, hr3, hg3⟩; have hr3' := hide' hr3; have hg3' := hide' hg3; clear hr3 hg3) | (go_at_call 20; refine (KR.out _ hg3'.out).mono ?_; rintro e w4 ⟨rfl, v4, hf4, hN4⟩; have hf4' := hide' hf4; have hN4' := hide' hN4; clear hf4 hN4))
    go_wp2
    go_ret
    exact ⟨by simp, hnx.out _ _ _ hr3'.out hg3'.out hf4'.out hN4'.out⟩
  by_cases d2 : d = 2
  · subst d2
    have KP : Hid (Calls Tryd.prog 11 #[.pointer (some ⟨b, 0, none⟩), .int .i64 x, .int .i64 y] W0.drew fun e w' => e = .returned (.int .i64 (cuC J x y)) ∧ RkAt w' b (cuJ J x y) ∧ W0.grownBy w' (some b)) := (cutR hS0.out.rk.drew x y).mono fun _ _ ⟨h1, h2, h3⟩ => ⟨h1, h2, grown_trans (grown_below _ (Below.refl _ _).drew) h3⟩
    have KR : Hid (∀ V, W0.grownBy V (some b) → Calls Tryd.prog 21 #[.pointer (some ⟨r, 0, none⟩), .int .i64 x, .int .i64 y] V fun e w' => e = .returned (.int .i64 (cuC J x y)) ∧ ∃ v', RfAt w' r v' 0 (cuD J D x y) ∧ Nx r v v' V w') := fun V hV => cutRR (hS0.out.grown hV) hS0.out.rk.wf hS0.out.sm x y
    have hnx : Hid (∀ V V' v', RkAt V b (cuJ J x y) → W0.grownBy V (some b) → RfAt V' r v' 0 (cuD J D x y) → Nx r v v' V V' → ∃ v' J' D', SdAt V' b r v' J' D' ∧ Ny b r v v' W V') := fun V V' v' h1 h2 h3 h4 => ⟨v', _, _, SdAt.next h1 hS0.out.bne hS0.out.vne h3 (cuD_sm hS0.out.rk.wf hS0.out.sm x y) h4 hG hGv, Ny.after hB0'.out (Ny.both h2 h4)⟩
    have hi0 : Hid (W0.drew.cell? ⟨W.heap.size, 0, none⟩ = some (.pointer (some ⟨b, 0, none⟩)) ∧ W0.drew.cell? ⟨W.heap.size, 1, none⟩ = some (.pointer (some ⟨r, 0, none⟩)) ∧ W0.drew.cell? ⟨W.heap.size + 1, 2, none⟩ = some (.int .i64 x) ∧ W0.drew.cell? ⟨W.heap.size + 1, 3, none⟩ = some (.int .i64 y)) := ⟨k0, k1, o2, o3⟩
    have hk1 : Hid (∀ V, W0.grownBy V (some b) → V.cell? ⟨W.heap.size, 0, none⟩ = some (.pointer (some ⟨b, 0, none⟩)) ∧ V.cell? ⟨W.heap.size, 1, none⟩ = some (.pointer (some ⟨r, 0, none⟩)) ∧ V.cell? ⟨W.heap.size + 1, 2, none⟩ = some (.int .i64 x) ∧ V.cell? ⟨W.heap.size + 1, 3, none⟩ = some (.int .i64 y)) := fun V hV => keepB (W := W0) hi0.out (Fr.of_grown (S := fun k => k = b ∨ k = r ∨ v.ownBlock = some k) hV (fun g e => by cases e; exact .inl rfl)) hn0'.out hn1'.out
    have hk2 : Hid (∀ V V' v', W0.grownBy V (some b) → Nx r v v' V V' → V'.cell? ⟨W.heap.size, 0, none⟩ = some (.pointer (some ⟨b, 0, none⟩)) ∧ V'.cell? ⟨W.heap.size, 1, none⟩ = some (.pointer (some ⟨r, 0, none⟩)) ∧ V'.cell? ⟨W.heap.size + 1, 2, none⟩ = some (.int .i64 x) ∧ V'.cell? ⟨W.heap.size + 1, 3, none⟩ = some (.int .i64 y)) := fun V V' v' hV hN => keepB (hk1.out V hV) hN.1 (fun e => hn0'.out (.inr e)) (fun e => hn1'.out (.inr e))
    generalize cuC J x y = cc at *
    clear hfin hS0 o4
    as_aux_lemma =>
    go_wp2
    go_region_held3 (fun V => V.cell? ⟨W.heap.size, 0, none⟩ = some (.pointer (some ⟨b, 0, none⟩)) ∧ V.cell? ⟨W.heap.size, 1, none⟩ = some (.pointer (some ⟨r, 0, none⟩)) ∧ V.cell? ⟨W.heap.size + 1, 2, none⟩ = some (.int .i64 x) ∧ V.cell? ⟨W.heap.size + 1, 3, none⟩ = some (.int .i64 y)) (first | assumption | (exact hi0.out) | (exact hk2.out _ _ _ hg3'.out hN4'.out) | (exact hk1.out _ hg3'.out)) (first | (go_at_call 11; refine KP.out.mono ?_; rintro e w3 ⟨rfl, hr3, hg3⟩; have hr3' := hide' hr3; have hg3' := hide' hg3; clear hr3 hg3) | (go_at_call 21; refine (KR.out _ hg3'.out).mono ?_; rintro e w4 ⟨rfl, v4, hf4, hN4⟩; have hf4' := hide' hf4; have hN4' := hide' hN4; clear hf4 hN4))
    go_wp2
    go_ret
    exact ⟨by simp, hnx.out _ _ _ hr3'.out hg3'.out hf4'.out hN4'.out⟩
  by_cases d3 : d = 3
  · subst d3
    have KP : Hid (Calls Tryd.prog 12 #[.pointer (some ⟨b, 0, none⟩), .int .i64 x] W0.drew fun e w' => e = .returned (.int .i64 ((drCI J x : Int))) ∧ RkAt w' b (drJI J x) ∧ W0.grownBy w' (some b)) := (dropR hS0.out.rk.drew x).mono fun _ _ ⟨h1, h2, h3⟩ => ⟨h1, h2, grown_trans (grown_below _ (Below.refl _ _).drew) h3⟩
    have KR : Hid (∀ V, W0.grownBy V (some b) → Calls Tryd.prog 22 #[.pointer (some ⟨r, 0, none⟩), .int .i64 x] V fun e w' => e = .returned (.int .i64 ((drCI J x : Int))) ∧ ∃ v', RfAt w' r v' 0 (D.filter (fun p => !tch x p)) ∧ Nx r v v' V w') := fun V hV => dropRR (hS0.out.grown hV) hS0.out.rk.wf hS0.out.sm x
    have hnx : Hid (∀ V V' v', RkAt V b (drJI J x) → W0.grownBy V (some b) → RfAt V' r v' 0 (D.filter (fun p => !tch x p)) → Nx r v v' V V' → ∃ v' J' D', SdAt V' b r v' J' D' ∧ Ny b r v v' W V') := fun V V' v' h1 h2 h3 h4 => ⟨v', _, _, SdAt.next h1 hS0.out.bne hS0.out.vne h3 (hS0.out.sm.drop hS0.out.rk.wf x) h4 hG hGv, Ny.after hB0'.out (Ny.both h2 h4)⟩
    have hi0 : Hid (W0.drew.cell? ⟨W.heap.size, 0, none⟩ = some (.pointer (some ⟨b, 0, none⟩)) ∧ W0.drew.cell? ⟨W.heap.size, 1, none⟩ = some (.pointer (some ⟨r, 0, none⟩)) ∧ W0.drew.cell? ⟨W.heap.size + 1, 2, none⟩ = some (.int .i64 x) ∧ W0.drew.cell? ⟨W.heap.size + 1, 2, none⟩ = some (.int .i64 x)) := ⟨k0, k1, o2, o2⟩
    have hk1 : Hid (∀ V, W0.grownBy V (some b) → V.cell? ⟨W.heap.size, 0, none⟩ = some (.pointer (some ⟨b, 0, none⟩)) ∧ V.cell? ⟨W.heap.size, 1, none⟩ = some (.pointer (some ⟨r, 0, none⟩)) ∧ V.cell? ⟨W.heap.size + 1, 2, none⟩ = some (.int .i64 x) ∧ V.cell? ⟨W.heap.size + 1, 2, none⟩ = some (.int .i64 x)) := fun V hV => keepB (W := W0) hi0.out (Fr.of_grown (S := fun k => k = b ∨ k = r ∨ v.ownBlock = some k) hV (fun g e => by cases e; exact .inl rfl)) hn0'.out hn1'.out
    have hk2 : Hid (∀ V V' v', W0.grownBy V (some b) → Nx r v v' V V' → V'.cell? ⟨W.heap.size, 0, none⟩ = some (.pointer (some ⟨b, 0, none⟩)) ∧ V'.cell? ⟨W.heap.size, 1, none⟩ = some (.pointer (some ⟨r, 0, none⟩)) ∧ V'.cell? ⟨W.heap.size + 1, 2, none⟩ = some (.int .i64 x) ∧ V'.cell? ⟨W.heap.size + 1, 2, none⟩ = some (.int .i64 x)) := fun V V' v' hV hN => keepB (hk1.out V hV) hN.1 (fun e => hn0'.out (.inr e)) (fun e => hn1'.out (.inr e))
    generalize (drCI J x : Int) = cc at *
    clear hfin hS0 o4
    as_aux_lemma =>
    go_wp2
    go_region_held3 (fun V => V.cell? ⟨W.heap.size, 0, none⟩ = some (.pointer (some ⟨b, 0, none⟩)) ∧ V.cell? ⟨W.heap.size, 1, none⟩ = some (.pointer (some ⟨r, 0, none⟩)) ∧ V.cell? ⟨W.heap.size + 1, 2, none⟩ = some (.int .i64 x) ∧ V.cell? ⟨W.heap.size + 1, 2, none⟩ = some (.int .i64 x)) (first | assumption | (exact hi0.out) | (exact hk2.out _ _ _ hg3'.out hN4'.out) | (exact hk1.out _ hg3'.out)) (first | (go_at_call 12; refine KP.out.mono ?_; rintro e w3 ⟨rfl, hr3, hg3⟩; have hr3' := hide' hr3; have hg3' := hide' hg3; clear hr3 hg3) | (go_at_call 22; refine (KR.out _ hg3'.out).mono ?_; rintro e w4 ⟨rfl, v4, hf4, hN4⟩; have hf4' := hide' hf4; have hN4' := hide' hN4; clear hf4 hN4))
    go_wp2
    go_ret
    exact ⟨by simp, hnx.out _ _ _ hr3'.out hg3'.out hf4'.out hN4'.out⟩
  by_cases d4 : d = 4
  · subst d4
    have KP : Hid (∀ n, Calls Tryd.prog 15 #[.pointer (some ⟨b, 0, none⟩), .int .i64 x] (W0.drewN n) fun e w' => e = .returned (.int .u64 (belI J x : Int)) ∧ ∃ m, w' = (W0.drewN n).drewN m) := fun n => belowR (hS0.out.rk.over (Qt.below ⟨n, rfl⟩)) x
    have KR : Hid (∀ n, Calls Tryd.prog 23 #[.pointer (some ⟨r, 0, none⟩), .int .i64 x] (W0.drewN n) fun e w' => e = .returned (.int .u64 (belI J x : Int)) ∧ w' = W0.drewN n) := fun n => belR (hS0.out.rf.over (Qt.below ⟨n, rfl⟩)) hS0.out.rk.wf hS0.out.rk.acy hS0.out.sm x
    clear hS0 hn0' hn1' hvl hB0'
    generalize belI J x = q at *
    as_aux_lemma =>
    go_upto_region 9 with fail
    go_quiet ((first | (go_at_call 15; exact Calls.quiet_of (KP.out _)) | (go_at_call 23; exact Calls.quiet_of_same (KR.out _))))
    go_wp2
    go_ret
    exact ⟨by simp, hfin.out _ ⟨nq, rfl⟩⟩
  by_cases d5 : d = 5
  · subst d5
    have KP : Hid (∀ n, Calls Tryd.prog 17 #[.pointer (some ⟨b, 0, none⟩), .int .i64 x] (W0.drewN n) fun e w' => e = .returned (.int .u64 (abvI J x : Int)) ∧ ∃ m, w' = (W0.drewN n).drewN m) := fun n => above (hS0.out.rk.over (Qt.below ⟨n, rfl⟩)) x
    have KR : Hid (∀ n, Calls Tryd.prog 24 #[.pointer (some ⟨r, 0, none⟩), .int .i64 x] (W0.drewN n) fun e w' => e = .returned (.int .u64 (abvI J x : Int)) ∧ w' = W0.drewN n) := fun n => abvR (hS0.out.rf.over (Qt.below ⟨n, rfl⟩)) hS0.out.rk.wf hS0.out.rk.acy hS0.out.sm x
    clear hS0 hn0' hn1' hvl hB0'
    generalize abvI J x = q at *
    as_aux_lemma =>
    go_upto_region 11 with fail
    go_quiet ((first | (go_at_call 17; exact Calls.quiet_of (KP.out _)) | (go_at_call 24; exact Calls.quiet_of_same (KR.out _))))
    go_wp2
    go_ret
    exact ⟨by simp, hfin.out _ ⟨nq, rfl⟩⟩
  by_cases d6 : d = 6
  · subst d6
    have KP : Hid (∀ n, Calls Tryd.prog 16 #[.pointer (some ⟨b, 0, none⟩), .int .u64 (s : Int)] (W0.drewN n) fun e w' => e = .returned (.int .u64 (spr J s : Int)) ∧ ∃ m, w' = (W0.drewN n).drewN m) := fun n => spread (hS0.out.rk.over (Qt.below ⟨n, rfl⟩)) s hsl
    have KR : Hid (∀ n, Calls Tryd.prog 25 #[.pointer (some ⟨r, 0, none⟩), .int .u64 (s : Int)] (W0.drewN n) fun e w' => e = .returned (.int .u64 (spr J s : Int)) ∧ w' = W0.drewN n) := fun n => sprRR (hS0.out.rf.over (Qt.below ⟨n, rfl⟩)) hS0.out.rk.wf hS0.out.rk.acy hS0.out.sm s hsl
    clear hS0 hn0' hn1' hvl hB0'
    generalize spr J s = q at *
    as_aux_lemma =>
    go_upto_region 13 with fail
    go_quiet ((first | (go_at_call 16; exact Calls.quiet_of (KP.out _)) | (go_at_call 25; exact Calls.quiet_of_same (KR.out _))))
    go_wp2
    go_ret
    exact ⟨by simp, hfin.out _ ⟨nq, rfl⟩⟩
  by_cases d8 : d = 8
  · subst d8
    have KP : Hid (∀ n, Calls Tryd.prog 14 #[.pointer (some ⟨b, 0, none⟩), .int .i64 x, .int .i64 y] (W0.drewN n) fun e w' => e = .returned (.bool (hasJ J x y)) ∧ ∃ m, w' = (W0.drewN n).drewN m) := fun n => (has (hS0.out.rk.over (Qt.below ⟨n, rfl⟩)) x y).mono fun _ _ ⟨h1, h2⟩ => ⟨h1, 0, h2⟩
    have KR : Hid (∀ n, Calls Tryd.prog 27 #[.pointer (some ⟨r, 0, none⟩), .int .i64 x, .int .i64 y] (W0.drewN n) fun e w' => e = .returned (.bool (hasJ J x y)) ∧ w' = W0.drewN n) := fun n => by have := hasR (hS0.out.rf.over (Qt.below ⟨n, rfl⟩)) hS0.out.sm.len x y; rwa [hS0.out.sm.has hS0.out.rk.wf] at this
    clear hS0 hn0' hn1' hvl hB0'
    generalize hasJ J x y = q at *
    as_aux_lemma =>
    go_upto_region 17 with fail
    go_quiet ((first | (go_at_call 14; exact Calls.quiet_of (KP.out _)) | (go_at_call 27; exact Calls.quiet_of_same (KR.out _))))
    go_wp2
    go_ret
    exact ⟨by simp, hfin.out _ ⟨nq, rfl⟩⟩
  have hfin2 : Hid (∀ V, Below W0.heap.size W0 V → ∃ v' J' D', SdAt V b r v' J' D' ∧ Ny b r v v' W V) := fun V hV => ⟨v, J, D, hS0.out.over hV, Ny.of_below (hB0'.out.trans (hV.mono hB0'.out.size))⟩
  by_cases d7 : d = 7
  · subst d7
    have KP : Hid (Calls Tryd.prog 18 #[.pointer (some ⟨b, 0, none⟩), .int .i64 x] W0.drew fun e w' => e = .returned (.int .i64 (depI J x : Int)) ∧ Below W0.heap.size W0 w') := (depth hS0.out.rk.drew x).mono fun _ _ ⟨h1, h2⟩ => ⟨h1, ((Below.refl _ W0).drew).trans h2.below⟩
    have KR : Hid (∀ V, Below W0.heap.size W0 V → Calls Tryd.prog 26 #[.pointer (some ⟨r, 0, none⟩), .int .i64 x] V fun e w' => e = .returned (.int .i64 (depI J x : Int)) ∧ Below W0.heap.size W0 w') := fun V hV => (depRR (hS0.out.rf.over hV) hS0.out.rk.wf hS0.out.rk.acy hS0.out.sm x).mono fun _ _ ⟨h1, h2⟩ => ⟨h1, hV.trans (h2.mono hV.size)⟩
    have hi0 : Hid (W0.drew.cell? ⟨W.heap.size, 0, none⟩ = some (.pointer (some ⟨b, 0, none⟩)) ∧ W0.drew.cell? ⟨W.heap.size, 1, none⟩ = some (.pointer (some ⟨r, 0, none⟩)) ∧ W0.drew.cell? ⟨W.heap.size + 1, 2, none⟩ = some (.int .i64 x) ∧ W0.drew.cell? ⟨W.heap.size + 1, 2, none⟩ = some (.int .i64 x)) := ⟨k0, k1, o2, o2⟩
    have hk1 : Hid (∀ V, Below W0.heap.size W0 V → V.cell? ⟨W.heap.size, 0, none⟩ = some (.pointer (some ⟨b, 0, none⟩)) ∧ V.cell? ⟨W.heap.size, 1, none⟩ = some (.pointer (some ⟨r, 0, none⟩)) ∧ V.cell? ⟨W.heap.size + 1, 2, none⟩ = some (.int .i64 x) ∧ V.cell? ⟨W.heap.size + 1, 2, none⟩ = some (.int .i64 x)) := fun V hV => ⟨cell_over k0 hV, cell_over k1 hV, cell_over o2 hV, cell_over o2 hV⟩
    generalize depI J x = cc at *
    clear hfin hS0 o4
    as_aux_lemma =>
    go_wp2
    go_region_held3 (fun V => V.cell? ⟨W.heap.size, 0, none⟩ = some (.pointer (some ⟨b, 0, none⟩)) ∧ V.cell? ⟨W.heap.size, 1, none⟩ = some (.pointer (some ⟨r, 0, none⟩)) ∧ V.cell? ⟨W.heap.size + 1, 2, none⟩ = some (.int .i64 x) ∧ V.cell? ⟨W.heap.size + 1, 2, none⟩ = some (.int .i64 x)) (first | assumption | (exact hi0.out) | (exact hk1.out _ hb4'.out) | (exact hk1.out _ hb3'.out)) (first | (go_at_call 18; refine KP.out.mono ?_; rintro e w3 ⟨rfl, hb3⟩; have hb3' := hide' hb3; clear hb3) | (go_at_call 26; refine (KR.out _ hb3'.out).mono ?_; rintro e w4 ⟨rfl, hb4⟩; have hb4' := hide' hb4; clear hb4))
    go_wp2
    go_ret
    exact ⟨by simp, hfin2.out _ hb4'.out⟩
  by_cases d9 : d = 9
  · subst d9
    have KP : Hid (Calls Tryd.prog 13 #[.pointer (some ⟨b, 0, none⟩)] W0.drew fun e w' => ∃ v', e = .returned v' ∧ PairsAt w' v' (lks J) ∧ Below W0.heap.size W0 w') := (linksR hS0.out.rk.drew).mono fun _ _ ⟨v', h1, h2, h3⟩ => ⟨v', h1, PairsAt.of_owns h2, ((Below.refl _ W0).drew).trans h3⟩
    have KR : Hid (∀ V, Below W0.heap.size W0 V → Calls Tryd.prog 28 #[.pointer (some ⟨r, 0, none⟩)] V fun e w' => ∃ v', e = .returned v' ∧ PairsAt w' v' (lks J) ∧ Below W0.heap.size W0 w' ∧ Below V.heap.size V w') := fun V hV => (linksRR (hS0.out.rf.over hV) hS0.out.rk.wf hS0.out.sm).mono fun _ _ ⟨v', h1, h2, h3⟩ => ⟨v', h1, PairsAt.of_owns h2, hV.trans (h3.mono hV.size), h3⟩
    have KE : Hid (∀ V va vb, PairsAt V va (lks J) → PairsAt V vb (lks J) → Below W0.heap.size W0 V → Calls Tryd.prog 19 #[va, vb] V fun e w' => e = .returned (.bool true) ∧ Below W0.heap.size W0 w') := fun V va vb h1 h2 hV => (keepPairsT _ va vb V h1 h2 (Nat.le_trans (lks_len J) (by decide))).mono fun _ _ ⟨h3, h4⟩ => ⟨h3, hV.trans (h4.mono hV.size)⟩
    have hi0 : Hid (W0.drew.cell? ⟨W.heap.size, 0, none⟩ = some (.pointer (some ⟨b, 0, none⟩)) ∧ W0.drew.cell? ⟨W.heap.size, 1, none⟩ = some (.pointer (some ⟨r, 0, none⟩))) := ⟨k0, k1⟩
    have hk1 : Hid (∀ V, Below W0.heap.size W0 V → V.cell? ⟨W.heap.size, 0, none⟩ = some (.pointer (some ⟨b, 0, none⟩)) ∧ V.cell? ⟨W.heap.size, 1, none⟩ = some (.pointer (some ⟨r, 0, none⟩))) := fun V hV => ⟨cell_over k0 hV, cell_over k1 hV⟩
    generalize lks J = M at *
    clear hfin hS0 o2 o3 o4
    as_aux_lemma =>
    go_wp2
    go_region_held3 (fun V => V.cell? ⟨W.heap.size, 0, none⟩ = some (.pointer (some ⟨b, 0, none⟩)) ∧ V.cell? ⟨W.heap.size, 1, none⟩ = some (.pointer (some ⟨r, 0, none⟩))) (first | assumption | (exact hi0.out) | (exact hk1.out _ hb5'.out) | (exact hk1.out _ hb4'.out) | (exact hk1.out _ hb3'.out)) (first | (go_at_call 13; refine KP.out.mono ?_; rintro e w3 ⟨v3, rfl, hp3, hb3⟩; have hb3' := hide' hb3; have hp3' := hide' hp3; clear hb3 hp3) | (go_at_call 28; refine (KR.out _ hb3'.out).mono ?_; rintro e w4 ⟨v4, rfl, hp4, hb4, hb34⟩; have hb4' := hide' hb4; have hp4' := hide' hp4; have hp34' := hide' (hp3'.out.over hb34); clear hb4 hp4 hb34) | (go_at_call 19; refine (KE.out _ _ _ hp34'.out hp4'.out hb4'.out).mono ?_; rintro e w5 ⟨rfl, hb5⟩; have hb5' := hide' hb5; clear hb5))
    go_wp2
    go_ret
    exact ⟨rfl, hfin2.out _ hb5'.out⟩
  have e1 : (d == 1) = false := by simpa using d1
  have e2 : (d == 2) = false := by simpa using d2
  have e3 : (d == 3) = false := by simpa using d3
  have e4 : (d == 4) = false := by simpa using d4
  have e5 : (d == 5) = false := by simpa using d5
  have e6 : (d == 6) = false := by simpa using d6
  have e7 : (d == 7) = false := by simpa using d7
  have e8 : (d == 8) = false := by simpa using d8
  have e9 : (d == 9) = false := by simpa using d9
  clear d1 d2 d3 d4 d5 d6 d7 d8 d9 hS0 hn0' hn1' hvl hB0' hfin2
  as_aux_lemma =>
  go_wp2
  go_ret
  exact ⟨rfl, hfin.out _ (Qt.refl _)⟩
end Go.Proofs.YtegpgjiccpglbaaDoor
