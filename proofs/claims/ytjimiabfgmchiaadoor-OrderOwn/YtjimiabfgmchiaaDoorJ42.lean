/- order's Least: the walk. -/
import Derived.Test.YtjimiabfgmchiaaDoorJ41
namespace Go.Proofs.YtjimiabfgmchiaaDoor
open Go.RowKit Go.Shelf
theorem fieldT (a b : Value) (w : World) : (Instr.field 84 (.agg #[a, b]) 1).run Tryd.prog w = .ok b w := by kernel_rfl
def slLen : Value → Nat
  | .slice _ n _ => n
  | _ => 0
theorem own_formT {w : World} {n : Nat} {f : Nat → Ent} {v : Value} (h : TH w n f v) : ∃ oa cap, v = .slice oa n cap := by
  rcases h.2 with ⟨rfl, rfl⟩ | ⟨g, cap, cur, rfl, _⟩
  · exact ⟨_, _, rfl⟩
  · exact ⟨_, _, rfl⟩
theorem LRd.start {n : Nat} {R : Nat → Nat → Bool} {Pf Sf : Nat → Nat} (h : Ord n R Pf Sf) : LRd n R 0 (nums (rdW n Pf 0)) := ⟨NoD.nums _, fun a => by rw [mem_nums, h.rdW_bits (by omega)]⟩
theorem LRd.done {n : Nat} {R : Nat → Nat → Bool} {Pf Sf : Nat → Nat} (h : Ord n R Pf Sf) {D : Nat} {l : List (Fin 64)} (hl : LRd n R D l) (h0 : l.length = 0) : cnt n D = n := by
  rcases Nat.lt_or_ge (cnt n D) n with hc | hc
  · obtain ⟨a, ha, hda⟩ := cnt_some hc
    obtain ⟨b, hb⟩ := h.some_ready (Pf a) a (Nat.le_refl _) ha hda
    have hn := h.n64
    have := (hl.2 ⟨b, Nat.lt_of_lt_of_le hb.1 hn⟩).2 hb
    rw [List.eq_nil_of_length_eq_zero h0] at this
    cases this
  · have := cnt_le n D; omega
/-- What Least holds within a turn. -/
structure Mid (p : Nat → Int) (w : World) (q rb pb dn : Nat) (vP : Value) (D : Nat) (rv : Value) (c : Nat) (xs : List Value) (l : List (Fin 64)) (W : World) : Prop where
  old : Below w.heap.size w W
  br : Boxed W rb 79 (.pointer (some ⟨q, 0, none⟩))
  bp : Boxed W pb 24 vP
  bd : Boxed W dn 65 (.int .u64 (D : Int))
  dB : w.heap.size ≤ dn
  row : W.ownsRow w.heap.size 3 1 rv c xs
  hp : HpV w.heap.size q W l.length (lst p l)
section
variable {p : Nat → Int} {w W W' : World} {q rb pb dn D c : Nat} {vP rv : Value} {xs : List Value} {l : List (Fin 64)}
theorem Mid.fz (h : Mid p w q rb pb dn vP D rv c xs l W) (hF : FzT W W') (hB : Below w.heap.size W W') {l' : List (Fin 64)} (hH : HpV w.heap.size q W' l'.length (lst p l')) : Mid p w q rb pb dn vP D rv c xs l' W' :=
  ⟨h.old.trans hB, boxed_fz h.br hF (by decide) (by decide), boxed_fz h.bp hF (by decide) (by decide), boxed_fz h.bd hF (by decide) (by decide), h.dB, owns_fz h.row hF, hH⟩
theorem Mid.below (h : Mid p w q rb pb dn vP D rv c xs l W) (hb : Below W.heap.size W W') : Mid p w q rb pb dn vP D rv c xs l W' :=
  h.fz (FzT.below hb) (hb.mono h.old.size) (h.hp.below hb)
theorem Mid.one (h : Mid p w q rb pb dn vP D rv c xs l W) {b : Option Nat} {t : TypeId} (ho : OneB W W' b t) (h1 : 81 ≠ t) (h2 : 84 ≠ t) : HpV w.heap.size q W' l.length (lst p l) := ho.hpv h.hp h1 h2
theorem Mid.set (h : Mid p w q rb pb dn vP D rv c xs l W) (D' : Nat) : Mid p w q rb pb dn vP D' rv c xs l (W.setCell ⟨dn, 0, none⟩ (.int .u64 (D' : Int))) := by
  have ho := OneB.set h.bd (.int .u64 (D' : Int))
  exact ⟨h.old.setCell h.dB _, ho.boxed h.br (by decide), ho.boxed h.bp (by decide), h.bd.set _, h.dB, ho.owns h.row (by decide), ho.hpv h.hp (by decide) (by decide)⟩
theorem Mid.app (h : Mid p w q rb pb dn vP D rv c xs l W) {o : Obj} {u : Value} {ys : List Value} (hown : W'.ownsRow w.heap.size 3 1 u (c + 1) ys) (hg : (W.alloc o).grownBy W' rv.ownBlock) : Mid p w q rb pb dn vP D u (c + 1) ys l W' := by
  have ho := OneB.grown h.row hg
  refine ⟨?_, ho.boxed h.br (by decide), ho.boxed h.bp (by decide), ho.boxed h.bd (by decide), h.dB, hown, ho.hpv h.hp (by decide) (by decide)⟩
  refine (h.old.alloc h.old.size o).grown hg (by have := h.old.size; simp; omega) (fun j ej => ?_)
  rcases h.row.2 with ⟨rfl, _⟩ | ⟨g, cap, cur, rfl, hb, _⟩
  · cases ej
  · cases ej; exact hb
end
/-- An empty heap, laid. -/
theorem heap0 (W : World) (B : Nat) (hB : B ≤ W.heap.size) (g : Nat → Ent) (W1 : World) (hW : W1 = (((W.alloc (.cells #[] 84)).alloc (.cells #[.slice (some ⟨W.heap.size, 0, none⟩) 0 0] 81)).alloc (.cells #[.pointer (some ⟨W.heap.size + 1, 0, none⟩)] 79)).drew) :
    HpV B (W.heap.size + 1) W1 0 g ∧ Boxed W1 (W.heap.size + 2) 79 (.pointer (some ⟨W.heap.size + 1, 0, none⟩)) ∧ Below W.heap.size W W1 ∧ W1.heap.size = W.heap.size + 3 := by
  obtain ⟨Wa, ha⟩ : ∃ X, X = W.alloc (.cells #[] 84) := ⟨_, rfl⟩
  have h0 : Wa.heap[W.heap.size]? = some (.cells #[] 84 (0, 0)) := by
    rw [ha]
    show (W.heap.push _)[W.heap.size]? = some _
    simp
  have z0 : Wa.heap.size = W.heap.size + 1 := by rw [ha]; simp
  have b0 : Below W.heap.size W Wa := by rw [ha]; exact (Below.refl _ W).alloc (Nat.le_refl _) _
  rw [← ha, ← z0] at hW
  have h1 := Boxed.new Wa 81 (.slice (some ⟨W.heap.size, 0, none⟩) 0 0)
  obtain ⟨Wb, hb⟩ : ∃ X, X = Wa.alloc (.cells #[.slice (some ⟨W.heap.size, 0, none⟩) 0 0] 81) := ⟨_, rfl⟩
  have z1 : Wb.heap.size = W.heap.size + 2 := by rw [hb]; simp [z0]
  have b1 : Below Wa.heap.size Wa Wb := by rw [hb]; exact (Below.refl _ Wa).alloc (Nat.le_refl _) _
  rw [← hb] at hW h1
  have h2 := Boxed.new Wb 79 (.pointer (some ⟨Wa.heap.size, 0, none⟩))
  have b2 : Below Wb.heap.size Wb W1 := by rw [hW]; exact ((Below.refl _ Wb).alloc (Nat.le_refl _) _).drew
  have z2 : W1.heap.size = W.heap.size + 3 := by rw [hW]; simp [z1]
  have h2' : Boxed W1 Wb.heap.size 79 (.pointer (some ⟨Wa.heap.size, 0, none⟩)) := by
    rw [hW]
    exact bxb h2 (Below.refl _ _).drew h2.lt
  clear hW ha hb
  rw [z0] at h1 h2'
  rw [z1] at h2'
  refine ⟨⟨by omega, .slice (some ⟨W.heap.size, 0, none⟩) 0 0, g, (b2.block _ (by omega)).trans h1, ⟨rfl, .inr ⟨W.heap.size, 0, #[], rfl, Nat.zero_le _, ((b2.block _ (by omega)).trans (b1.block _ (by omega))).trans h0, Nat.le_refl _, by unfold maxLen; omega, rfl, rfl⟩⟩, fun k h1 h2 => by omega, ⟨id, id, fun k hk => by omega, fun k hk => by omega⟩, fun b hb => by cases hb; exact hB⟩, h2', b0.trans ((b1.mono (by omega)).trans (b2.mono (by omega))), z2⟩
section
variable {go gp gs n : Nat} {R : Nat → Nat → Bool} {Pf Sf : Nat → Nat} {w : World} {p : Nat → Int}
set_option maxRecDepth 100000 in
set_option maxHeartbeats 4000000 in
theorem leastG (hO : Ord n R Pf Sf) (ho : OrdAt w go gp gs n Pf Sf) (ht : Tab w) (oP : Option Addr) (cP : Nat) (hP : PrA w oP n p) :
    Calls Tryd.prog 9 #[.pointer (some ⟨go, 0, none⟩), .slice oP n cP] w fun e w' => ∃ oa cap, e = .returned (.tuple #[.slice oa n cap, .int .i64 0]) ∧ Hid (w'.ownsRow w.heap.size 3 1 (.slice oa n cap) n (cellsN (lK n R p n))) ∧ Below w.heap.size w w' := by
  obtain ⟨i0, hi, hz0, hz1, hz2⟩ := info_parts infoIV
  have hn := hO.n64
  have h3 := ht.2
  have hPl : Hid (∀ a, a < n → Pf a < 18446744073709551616) := fun a ha => hO.pre_lt ha
  have hSl : Hid (∀ a, a < n → Sf a < 18446744073709551616) := fun a ha => hO.suc_lt ha
  have hO' := hide' hO
  have hxx : ((n : Int) != (n : Int)) = false := by simp
  have KL : Hid (∀ W, Below w.heap.size w W → Calls Tryd.prog 25 #[.pointer (some ⟨go, 0, none⟩)] W fun e w' => e = .returned (.int .i64 n) ∧ w' = W) := fun W hW => lenO (ho.over hW)
  have KR : Hid (∀ W d, Below w.heap.size w W → d < 18446744073709551616 → Calls Tryd.prog 28 #[.pointer (some ⟨go, 0, none⟩), .int .u64 (d : Nat)] W fun e w' => e = .returned (.int .u64 (rdW n Pf d : Int)) ∧ Below W.heap.size W w') := fun W d hW hd => readyO (ho.over hW) hn hPl.out d hd (ht.over hW)
  have hpr : Hid (∀ W x, Below w.heap.size w W → (∀ b, x.testBit b = true → b < n) → ∀ k ∈ nums x, k.val < n ∧ ∃ gP o, oP = some ⟨gP, o, none⟩ ∧ W.cell? ⟨gP, o + k.val, none⟩ = some (.int .i64 (p k.val)) ∧ gP < w.heap.size) := fun W x hW hy k hk => by
    have hkn := hy k.val ((mem_nums _ _).1 hk)
    obtain ⟨gP, o, e, hc⟩ := hP k.val hkn
    exact ⟨hkn, gP, o, e, (hW.cell (p := ⟨gP, o + k.val, none⟩) (cell_lt hc)).trans hc, cell_lt hc⟩
  have hoV : Hid (∀ W, Below w.heap.size w W → OrdAt W go gp gs n Pf Sf) := fun W hW => ho.over hW
  clear ho hO hP
  go_enter Tryd.func9, Tryd.ntmps9
  go_wp2
  have bp0 : Boxed (w.alloc (.cells #[.slice oP n cP] 24)) w.heap.size 24 (.slice oP n cP) := Boxed.new w _ _
  have hB0 : Below w.heap.size w (w.alloc (.cells #[.slice oP n cP] 24)) := (Below.refl _ w).alloc (Nat.le_refl _) _
  have hz0' : (w.alloc (.cells #[.slice oP n cP] 24)).heap.size = w.heap.size + 1 := by simp
  generalize w.alloc (.cells #[.slice oP n cP] 24) = W0 at *
  have bp1 := hide' (bxb bp0 (Below.refl _ W0).drew bp0.lt)
  have hB1 := hide' hB0.drew
  have KL1 := hide' (KL.out W0.drew hB1.out)
  have c0 := bp1.out.cell
  have hS0 := hide' c0
  go_region_held3 (fun V => V.cell? ⟨w.heap.size, 0, none⟩ = some (.slice oP n cP)) (first | (exact hS0.out)) (first | (go_at_call 25; refine KL1.out.mono ?_; rintro e w1 ⟨rfl, hw1⟩; obtain rfl : W0.drew = w1 := hw1.symm))
  go_wp2_with fail
  obtain ⟨hH1, br1, hbb, hz1'⟩ := heap0 W0 w.heap.size (by omega) (lst p []) _ rfl
  rw [hz0'] at hH1 br1 hz1' hbb
  have bp2 := bxb bp0 hbb (by omega)
  have hB2 := hB0.trans (hbb.mono (by omega))
  clear hbb hS0 bp1 KL1 c0 hB1
  generalize (((W0.alloc (.cells #[] 84)).alloc (.cells #[.slice (some ⟨w.heap.size + 1, 0, none⟩) 0 0] 81)).alloc (.cells #[.pointer (some ⟨w.heap.size + 1 + 1, 0, none⟩)] 79)).drew = W1 at *
  refine (KL.out _ hB2).mono ?_
  rintro e w1 ⟨rfl, hw1⟩
  obtain rfl : W1 = w1 := hw1.symm
  obtain ⟨W2, hmk, hown2, hgr2⟩ := run_make_own (P := Tryd.prog) W1 w.heap.size 24 3 i0 (.int .i64 0) 1 Tryd.underlying24 hi hz0 hz1 .i64 .i64 n (by rw [hz2]; omega) (by unfold maxLen; omega) (by omega)
  have hz2' := hgr2.size
  have hb2 : Below W1.heap.size W1 W2 := (Below.refl _ W1).grown hgr2 (Nat.le_refl _) (fun j ej => by cases ej)
  clear hgr2
  have hz3' : (W2.alloc (.cells #[.int .u64 0] 65)).heap.size = W2.heap.size + 1 := by simp
  have bd3 := Boxed.new W2 65 (.int .u64 0)
  have hb3 : Below W2.heap.size W2 (W2.alloc (.cells #[.int .u64 0] 65)) := (Below.refl _ W2).alloc (Nat.le_refl _) _
  have hb13 := hb2.trans (hb3.mono hz2')
  have hx0 : Hid (∀ b, (rdW n Pf 0).testBit b = true → b < n) := fun b hb => ((hO'.out.rdW_bits (by omega) b).1 hb).1
  have hlt0 : Hid (rdW n Pf 0 < 18446744073709551616) := small64 hn hx0.out
  obtain ⟨W3, hW3⟩ : ∃ X, X = W2.alloc (.cells #[.int .u64 0] 65) := ⟨_, rfl⟩
  rw [← hW3] at hz3' bd3 hb3 hb13
  have hS3 : Hid (∀ V, Below W3.heap.size W3 V → Below w.heap.size w V ∧ Boxed V (w.heap.size + 1 + 1 + 1) 79 (.pointer (some ⟨w.heap.size + 1 + 1, 0, none⟩)) ∧ Boxed V w.heap.size 24 (.slice oP n cP) ∧ Boxed V W2.heap.size 65 (.int .u64 0) ∧ V.ownsRow w.heap.size 3 1 (.slice (some ⟨W1.heap.size, 0, none⟩) 0 n) 0 [] ∧ HpV w.heap.size (w.heap.size + 1 + 1) V 0 (lst p [])) := fun V hV => by
    have h13 := hb13.trans (hV.mono (by omega))
    refine ⟨hB2.trans (h13.mono (by omega)), bxb br1 h13 br1.lt, bxb bp2 h13 bp2.lt, bxb bd3 hV bd3.lt, ?_, hH1.below h13⟩
    exact owns_fz hown2 (FzT.below (hb3.trans (hV.mono (by omega))))
  have hB3' := hide' ((hS3.out W3 (Below.refl _ _)).1)
  clear bd3 hb3 hb13 hb2 hown2 br1 bp2 hH1 bp0 hB0 hB2
  go_wp2_with fail
  rw [← hW3]
  clear hW3 hmk
  refine (KR.out _ 0 hB3'.out (by omega)).mono ?_
  rintro e w4 ⟨rfl, hb4⟩
  go_wp2_with fail
  refine (ofO _ _).mono ?_
  rintro e w5 ⟨rfl, hb5⟩
  have hb45 := hb4.trans (hb5.mono hb4.size)
  obtain ⟨e1, e2, e3, e4, e5, e6⟩ := hS3.out _ hb45
  have KE := hide' (enterO w.heap.size (w.heap.size + 1 + 1) (w.heap.size + 1 + 1 + 1) w.heap.size w5 n oP cP p [] (rdW n Pf 0) hlt0.out (ht.over e1) (Nat.le_trans (by omega) hb45.size) (by simpa using h3) e2 e3 e6 (by simp) (hpr.out _ _ e1 hx0.out))
  have e4' := hide' e4
  have e5' := hide' e5
  have e1' := hide' e1
  have e2' := hide' e2
  have e3' := hide' e3
  clear e1 e2 e3 e4 e5 e6 hb4 hb5 hb45 hS3
  go_wp2_with fail
  refine KE.out.mono ?_
  rintro e w6 ⟨rfl, hH6, hF6, hB6⟩
  have hL0 : Hid (LsS n R p w (w.heap.size + 1 + 1) (w.heap.size + 1 + 1 + 1) w.heap.size W2.heap.size (.slice oP n cP) 0 (.slice (some ⟨w.heap.size + 1 + 3, 0, none⟩) 0 n) w6) := by
    refine ⟨e1'.out.trans hB6.out, boxed_fz e2'.out hF6.out (by decide) (by decide), boxed_fz e3'.out hF6.out (by decide) (by decide), boxed_fz e4'.out hF6.out (by decide) (by decide), ?_, ⟨_, LRd.start hO'.out, hH6.out⟩, down_zero, cnt_zero n⟩
    have := owns_fz e5'.out hF6.out
    rw [hz1'] at this
    exact this
  clear e1' e2' e3' e4' e5' hH6 hF6 hB6 KE hB3' hx0 hlt0
  have hdB : w.heap.size ≤ W2.heap.size := by omega
  clear hz3' hz2' hz1' hz0'
  generalize w.heap.size + 1 + 3 = g0 at *
  generalize W2.heap.size = dn at *
  go_wp2
  go_loopw [8, 10] (fun rv _ wr => ∃ c oa cap, c ≤ n ∧ rv = .slice oa c cap ∧ Hid (LsS n R p w (w.heap.size + 1 + 1) (w.heap.size + 1 + 1 + 1) w.heap.size dn (.slice oP n cP) c (.slice oa c cap) wr)) (fun rv _ _ => n - slLen rv)
  case atStart => exact ⟨0, _, n, Nat.zero_le _, rfl, hL0⟩
  case round =>
    clear hL0
    obtain ⟨c, oa, cap, hc, rfl, hL⟩ := hrel
    obtain ⟨l, hRl, hH⟩ := hL.out.hp
    obtain ⟨o1, c1, cq⟩ : ∃ o1 c1, wr.cell? ⟨w.heap.size + 1 + 1, 0, none⟩ = some (.slice o1 l.length c1) := by
      obtain ⟨_, rv1, f1, t1, t2, _⟩ := hH
      obtain ⟨o1, c1, rfl⟩ := own_formT t2
      exact ⟨o1, c1, t1.c0⟩
    have cr := hL.out.br.cell
    by_cases hl0 : l.length = 0
    · have hcn : c = n := by
        have h1 := hRl.done hO'.out hl0
        rw [hL.out.cn] at h1
        exact h1
      subst hcn
      have hL' := hL
      clear hRl hH hL
      go_wp2_with fail
      refine (lenT _ _ _ _).mono ?_
      rintro e w7 ⟨rfl, hw7⟩
      obtain rfl : wr = w7 := hw7.symm
      go_wp2
      go_ret2
      exact ⟨_, _, rfl, hL'.out.row, hL'.out.old⟩
    · obtain ⟨m, hm⟩ : ∃ m, l.length = m + 1 := ⟨l.length - 1, by omega⟩
      have hl64 := LRd_len hRl
      rw [hm] at cq hH
      have KP := hide' (hpvPop hH (by omega) (Nat.le_trans (Nat.le_refl _) hL.out.old.size))
      have hRl' := hide' hRl
      clear hRl hH hl0
      have hml : Hid (l.length = m + 1) := hm
      have hm64 : m < 64 := by omega
      clear hm hl64
      go_wp2_with fail
      refine (lenT _ _ _ _).mono ?_
      rintro e w7 ⟨rfl, hw7⟩
      obtain rfl : wr = w7 := hw7.symm
      go_wp2_with fail
      refine KP.out.mono ?_
      rintro e w7 ⟨x, g', rfl, hH7, hSM, hF7, hB7⟩
      obtain ⟨a, l', hxa, hpk, hl', hse, hND, hmem⟩ := pop_list hn hRl'.out hml.out hSM.out.1 hSM.out.2
      rw [hxa]
      have hdlt : dK n R p c < 18446744073709551616 := down_lt hn hL.out.dw
      have hra : rdy n R (dK n R p c) a.val := hpk.1
      have hpw : (2 ^ a.val : Nat) < 18446744073709551616 := Nat.lt_of_lt_of_le (Nat.pow_lt_pow_right (by decide) a.isLt) (by decide)
      have hdn' : isDown n R (dK n R p c ||| 2 ^ a.val) := down_add hL.out.dw hra
      have hdlt' : Hid (dK n R p c ||| 2 ^ a.val < 18446744073709551616) := down_lt hn hdn'
      have hcn' : cnt n (dK n R p c ||| 2 ^ a.val) = c + 1 := by rw [cnt_add n _ _ hra.2.1, if_pos hra.1, hL.out.cn]
      have hc1 : c + 1 ≤ n := by rw [← hcn']; exact cnt_le n _
      have M7 : Hid (Mid p w (w.heap.size + 1 + 1) (w.heap.size + 1 + 1 + 1) w.heap.size dn (.slice oP n cP) (dK n R p c) (.slice oa c cap) c (cellsN (lK n R p c)) l' w7) := by
        obtain ⟨l0, _, hH0⟩ := hL.out.hp
        exact Mid.fz ⟨hL.out.old, hL.out.br, hL.out.bp, hL.out.bd, hdB, hL.out.row, hH0⟩ hF7.out hB7.out (by rw [hl']; exact hH7.out.re hse)
      have hDs : Hid (dK n R p (c + 1) = dK n R p c ||| 2 ^ a.val) := by show dK n R p c ||| 2 ^ (pkF n R p (dK n R p c)) = _; rw [pkF_eq n R p hpk]
      have hLs : Hid (lK n R p (c + 1) = lK n R p c ++ [a.val]) := by show lK n R p c ++ [pkF n R p (dK n R p c)] = _; rw [pkF_eq n R p hpk]
      have hRn := hide' (ready_next hO'.out hra hRl'.out hND hmem hdlt'.out)
      have hSa : Sf a.val < 18446744073709551616 := hSl.out _ hra.1
      have hrl : rdW n Pf (dK n R p c ||| 2 ^ a.val) < 18446744073709551616 := small64 hn fun b hb => ((hO'.out.rdW_bits hdlt'.out b).1 hb).1
      have hxl : Hid (Sf a.val &&& rdW n Pf (dK n R p c ||| 2 ^ a.val) < 18446744073709551616) := Nat.lt_of_le_of_lt Nat.and_le_left hSa
      have hxb : Hid (∀ b, (Sf a.val &&& rdW n Pf (dK n R p c ||| 2 ^ a.val)).testBit b = true → b < n) := fun b hb => by
        rw [Nat.testBit_and, Bool.and_eq_true] at hb
        exact ((hO'.out.rdW_bits hdlt'.out b).1 hb.2).1
      have hfL : Hid (∀ rv W, Mid p w (w.heap.size + 1 + 1) (w.heap.size + 1 + 1 + 1) w.heap.size dn (.slice oP n cP) (dK n R p c ||| 2 ^ a.val) rv (c + 1) (cellsN (lK n R p (c + 1))) (l' ++ nums (Sf a.val &&& rdW n Pf (dK n R p c ||| 2 ^ a.val))) W → LsS n R p w (w.heap.size + 1 + 1) (w.heap.size + 1 + 1 + 1) w.heap.size dn (.slice oP n cP) (c + 1) rv W) := fun rv W h =>
        ⟨h.old, h.br, h.bp, by rw [hDs.out]; exact h.bd, h.row, ⟨_, by rw [hDs.out]; exact hRn.out, h.hp⟩, by rw [hDs.out]; exact hdn', by rw [hDs.out]; exact hcn'⟩
      have hle : Hid (l'.length ≤ 800) := by show _ ≤ _; omega
      have KY := hide' (onlyO a.val a.isLt)
      have KO := hide' (or64 (dK n R p c) (2 ^ a.val) hdlt hpw)
      have KA := hide' (and64 (Sf a.val) (rdW n Pf (dK n R p c ||| 2 ^ a.val)) hSa hrl)
      have han : a.val < n := hra.1
      have hM1 : Hid (∀ u w8, w8.ownsRow w.heap.size 3 1 u (c + 1) (cellsN (lK n R p c) ++ [.int .i64 (a.val : Int)]) → (w7.alloc (.cells #[.int .i64 (a.val : Int)] 3)).grownBy w8 (Value.slice oa c cap).ownBlock → ∃ oa2 cap2, u = .slice oa2 (c + 1) cap2 ∧ Hid (Mid p w (w.heap.size + 1 + 1) (w.heap.size + 1 + 1 + 1) w.heap.size dn (.slice oP n cP) (dK n R p c) (.slice oa2 (c + 1) cap2) (c + 1) (cellsN (lK n R p (c + 1))) l' w8)) := fun u w8 h1 h2 => by
        obtain ⟨oa2, cap2, rfl⟩ := own_formI h1
        refine ⟨oa2, cap2, rfl, ?_⟩
        rw [hLs.out, cellsN_snoc]
        exact M7.out.app h1 h2
      have hO7 : Hid (∀ o, (w7.alloc o).ownsRow w.heap.size 3 1 (.slice oa c cap) c (cellsN (lK n R p c))) := fun o => M7.out.row.alloc o
      have hs7 := M7.out.old.size
      clear hL hRl' hml hH7 hSM hF7 hB7 hxa hpk hl' hse hND hmem hra hdn' hcn' KP cr cq M7 hLs hRn hDs
      generalize hDD : dK n R p c = D at *
      generalize hPA : 2 ^ a.val = pa at *
      generalize hAV : a.val = av at *
      clear hDD hPA hAV
      have hta := fun v => assertT v w7
      have hfd := fun a b => fieldT a b w7
      go_wp2_with (first | (at_builtin; refine wpList_append_own _ rfl _ _ 24 rfl w.heap.size 3 i0 (.int .i64 0) 1 8 Tryd.underlying24 hi hz0 hz1 hz2 rfl (by decide) (.slice oa c cap) c (cellsN (lK n R p c)) rfl (hO7.out _) ⟨w7.heap.size, 0, none⟩ 1 1 [.int .i64 (av : Int)] rfl rfl (cell_one_new _ _ _) (by simp [Value.oneCell']) (by unfold maxLen; omega) (by omega) (by simp; omega) ?_; intro u w8 hown8 hgrow8 hnil8; clear hnil8; obtain ⟨oa2, cap2, rfl, M8⟩ := hM1.out u w8 hown8 hgrow8; clear hown8 hgrow8))
      have cd8 := M8.out.bd.cell
      refine wp_region_held_drew (S := (fun _ => True)) (by kernel_rfl) ?_ (fun hHeld => ?_)
      · trivial
      refine wpAnyH_take (i := 1) (oi := { dst := some 42, op := Op.move (Operand.tmp 10), type := 3, pos := "rows.go:54", after := #[], guard := none }) (v := ?_) rfl (by kernel_rfl) (by kernel_rfl) (by kernel_rfl) (fun _ _ _ h => h) (Or.inl ⟨by rfl, ?_⟩) (by assumption) ?_
      rotate_left
      · intro w hSw; (try dsimp only at hSw); go_simp <;> with_reducible rfl
      simp only [Act.put, List.setIfInBounds_toArray, List.set_cons_zero, List.set_cons_succ]
      refine wpAnyH_ready (rs := [0, 2]) (by kernel_rfl) (by simp) ?_
      refine AllReadyH.cons (o := { dst := some 41, op := Op.load 65 (Operand.tmp 9), type := 65, pos := "rows.go:54", after := #[], guard := none }) rfl (fun K hK => ?_) ?_
      · skip
        go_simp
        refine hK.out _ _ ?_ (fun hHeld => ?_)
        · trivial
        clear hK K
        try simp only [Act.put, List.setIfInBounds_toArray, List.set_cons_zero, List.set_cons_succ]
        refine wpAnyH_ready (rs := [2]) (by kernel_rfl) (by simp) ?_
        refine AllReadyH.cons (o := { dst := some 43, op := Op.call { callee := Callee.value (Operand.func 21), args := #[Operand.tmp 42], argTypes := #[3] }, type := 65, pos := "rows.go:54", after := #[{ on := 1, ground := Ground.data }], guard := none }) rfl (fun K hK => ?_) AllReadyH.nil
        go_simp
        refine (KY.out _).mono ?_; rintro e w9 ⟨rfl, hb9⟩; (try dsimp only); have hB9 : Below w8.heap.size w8 w9 := ((Below.refl _ w8).drew).trans hb9; have M9 := hide' (M8.out.below hB9); have cd9 := M9.out.bd.cell
        refine hK.out _ _ ?_ (fun hHeld => ?_)
        · trivial
        clear hK K
        try simp only [Act.put, List.setIfInBounds_toArray, List.set_cons_zero, List.set_cons_succ]
        refine wpAnyH_ready (rs := [3]) (by kernel_rfl) (by simp) ?_
        refine AllReadyH.cons (o := { dst := some 44, op := Op.call { callee := Callee.value (Operand.func 20), args := #[Operand.tmp 41, Operand.tmp 43], argTypes := #[65, 65] }, type := 65, pos := "rows.go:54", after := #[{ on := 0, ground := Ground.data }, { on := 2, ground := Ground.data }, { on := 2, ground := Ground.chain }], guard := none }) rfl (fun K hK => ?_) AllReadyH.nil
        go_simp
        refine (KO.out _).mono ?_; rintro e wa ⟨rfl, hba⟩; (try dsimp only); have Ma := hide' (M9.out.below hba); have cda := Ma.out.bd.cell; have fda := Ma.out.bd.frozen
        refine hK.out _ _ ?_ (fun hHeld => ?_)
        · trivial
        clear hK K
        try simp only [Act.put, List.setIfInBounds_toArray, List.set_cons_zero, List.set_cons_succ]
        refine wpAnyH_ready (rs := [4]) (by kernel_rfl) (by simp) ?_
        refine AllReadyH.cons (o := { dst := none, op := Op.store 65 (Operand.tmp 9) (Operand.tmp 44), type := 0, pos := "rows.go:54", after := #[{ on := 3, ground := Ground.data }, { on := 3, ground := Ground.chain }, { on := 0, ground := Ground.phase }, { on := 1, ground := Ground.phase }, { on := 2, ground := Ground.phase }, { on := 3, ground := Ground.phase }], guard := none }) rfl (fun K hK => ?_) AllReadyH.nil
        go_simp
        refine hK.out _ _ ?_ (fun hHeld => ?_)
        · trivial
        clear hK K
        try simp only [Act.put, List.setIfInBounds_toArray, List.set_cons_zero, List.set_cons_succ]
        refine wpAnyH_done (by kernel_rfl) ?_ _
        skip
        have Mb := hide' (Ma.out.set (D ||| pa))
        clear Ma M9 cda fda cd9 cd8 M8 hb9 hB9 hba
        go_wp2
        generalize wa.setCell ⟨dn, 0, none⟩ (.int .u64 ((D ||| pa : Nat) : Int)) = Wb at Mb ⊢
        have Mc := hide' (Mb.out.below (Below.refl _ Wb).drew)
        have hcS : Hid (∀ V, Below w.heap.size w V → Boxed V dn 65 (.int .u64 ((D ||| pa : Nat) : Int)) → V.cell? ⟨go, 1, none⟩ = some (.slice (some ⟨gs, 0, none⟩) n n) ∧ V.cell? ⟨gs, av, none⟩ = some (.int .u64 (Sf av : Int)) ∧ V.cell? ⟨dn, 0, none⟩ = some (.int .u64 ((D ||| pa : Nat) : Int))) := fun V h1 h2 => ⟨(hoV.out V h1).o1, (hoV.out V h1).sc av han, h2.cell⟩
        have hS0 := hide' (hcS.out _ Mc.out.old Mc.out.bd)
        go_region_held3 (fun V => V.cell? ⟨go, 1, none⟩ = some (.slice (some ⟨gs, 0, none⟩) n n) ∧ V.cell? ⟨gs, av, none⟩ = some (.int .u64 (Sf av : Int)) ∧ V.cell? ⟨dn, 0, none⟩ = some (.int .u64 ((D ||| pa : Nat) : Int))) (first | (exact hS0.out) | (exact hS1.out) | (exact hS2.out) | (exact hS3.out) | (exact hS4.out) | (exact hS5.out)) (first | (go_at_call 31; refine (word64 _ _).mono ?_; rintro e v1 ⟨rfl, hb1⟩; have N1 := hide' (Mc.out.below hb1); have hS1 := hide' (hcS.out _ N1.out.old N1.out.bd)) | (go_at_call 28; refine (KR.out _ (D ||| pa) N1.out.old hdlt'.out).mono ?_; rintro e v2 ⟨rfl, hb2⟩; have N2 := hide' (N1.out.below hb2); have hS2 := hide' (hcS.out _ N2.out.old N2.out.bd)) | (go_at_call 30; refine (ofO _ _).mono ?_; rintro e v3 ⟨rfl, hb3⟩; have N3 := hide' (N2.out.below hb3); have hS3 := hide' (hcS.out _ N3.out.old N3.out.bd)) | (go_at_call 37; refine (KA.out _).mono ?_; rintro e v4 ⟨rfl, hb4⟩; have N4 := hide' (N3.out.below hb4); have hS4 := hide' (hcS.out _ N4.out.old N4.out.bd)) | (go_at_call 33; refine (enterO w.heap.size (w.heap.size + 1 + 1) (w.heap.size + 1 + 1 + 1) w.heap.size _ n oP cP p l' (Sf av &&& rdW n Pf (D ||| pa)) hxl.out (ht.over N4.out.old) N4.out.old.size (by simpa using h3) N4.out.br N4.out.bp N4.out.hp hle.out (hpr.out _ _ N4.out.old hxb.out)).mono ?_; rintro e v5 ⟨rfl, hH5, hF5, hB5⟩; have N5 := hide' (N4.out.fz hF5.out hB5.out hH5.out); have hS5 := hide' (hcS.out _ N5.out.old N5.out.bd)))
        go_wp2
        exact ⟨⟨c + 1, oa2, cap2, hc1, rfl, hfL.out _ _ N5.out⟩, by simp [slLen]; omega⟩
      refine AllReadyH.cons (o := { dst := some 43, op := Op.call { callee := Callee.value (Operand.func 21), args := #[Operand.tmp 42], argTypes := #[3] }, type := 65, pos := "rows.go:54", after := #[{ on := 1, ground := Ground.data }], guard := none }) rfl (fun K hK => ?_) AllReadyH.nil
      go_simp
      refine (KY.out _).mono ?_; rintro e w9 ⟨rfl, hb9⟩; (try dsimp only); have hB9 : Below w8.heap.size w8 w9 := ((Below.refl _ w8).drew).trans hb9; have M9 := hide' (M8.out.below hB9); have cd9 := M9.out.bd.cell
      refine hK.out _ _ ?_ (fun hHeld => ?_)
      · trivial
      clear hK K
      try simp only [Act.put, List.setIfInBounds_toArray, List.set_cons_zero, List.set_cons_succ]
      refine wpAnyH_ready (rs := [0]) (by kernel_rfl) (by simp) ?_
      refine AllReadyH.cons (o := { dst := some 41, op := Op.load 65 (Operand.tmp 9), type := 65, pos := "rows.go:54", after := #[], guard := none }) rfl (fun K hK => ?_) AllReadyH.nil
      go_simp
      refine hK.out _ _ ?_ (fun hHeld => ?_)
      · trivial
      clear hK K
      try simp only [Act.put, List.setIfInBounds_toArray, List.set_cons_zero, List.set_cons_succ]
      refine wpAnyH_ready (rs := [3]) (by kernel_rfl) (by simp) ?_
      refine AllReadyH.cons (o := { dst := some 44, op := Op.call { callee := Callee.value (Operand.func 20), args := #[Operand.tmp 41, Operand.tmp 43], argTypes := #[65, 65] }, type := 65, pos := "rows.go:54", after := #[{ on := 0, ground := Ground.data }, { on := 2, ground := Ground.data }, { on := 2, ground := Ground.chain }], guard := none }) rfl (fun K hK => ?_) AllReadyH.nil
      go_simp
      refine (KO.out _).mono ?_; rintro e wa ⟨rfl, hba⟩; (try dsimp only); have Ma := hide' (M9.out.below hba); have cda := Ma.out.bd.cell; have fda := Ma.out.bd.frozen
      refine hK.out _ _ ?_ (fun hHeld => ?_)
      · trivial
      clear hK K
      try simp only [Act.put, List.setIfInBounds_toArray, List.set_cons_zero, List.set_cons_succ]
      refine wpAnyH_ready (rs := [4]) (by kernel_rfl) (by simp) ?_
      refine AllReadyH.cons (o := { dst := none, op := Op.store 65 (Operand.tmp 9) (Operand.tmp 44), type := 0, pos := "rows.go:54", after := #[{ on := 3, ground := Ground.data }, { on := 3, ground := Ground.chain }, { on := 0, ground := Ground.phase }, { on := 1, ground := Ground.phase }, { on := 2, ground := Ground.phase }, { on := 3, ground := Ground.phase }], guard := none }) rfl (fun K hK => ?_) AllReadyH.nil
      go_simp
      refine hK.out _ _ ?_ (fun hHeld => ?_)
      · trivial
      clear hK K
      try simp only [Act.put, List.setIfInBounds_toArray, List.set_cons_zero, List.set_cons_succ]
      refine wpAnyH_done (by kernel_rfl) ?_ _
      skip
      have Mb := hide' (Ma.out.set (D ||| pa))
      clear Ma M9 cda fda cd9 cd8 M8 hb9 hB9 hba
      go_wp2
      generalize wa.setCell ⟨dn, 0, none⟩ (.int .u64 ((D ||| pa : Nat) : Int)) = Wb at Mb ⊢
      have Mc := hide' (Mb.out.below (Below.refl _ Wb).drew)
      have hcS : Hid (∀ V, Below w.heap.size w V → Boxed V dn 65 (.int .u64 ((D ||| pa : Nat) : Int)) → V.cell? ⟨go, 1, none⟩ = some (.slice (some ⟨gs, 0, none⟩) n n) ∧ V.cell? ⟨gs, av, none⟩ = some (.int .u64 (Sf av : Int)) ∧ V.cell? ⟨dn, 0, none⟩ = some (.int .u64 ((D ||| pa : Nat) : Int))) := fun V h1 h2 => ⟨(hoV.out V h1).o1, (hoV.out V h1).sc av han, h2.cell⟩
      have hS0 := hide' (hcS.out _ Mc.out.old Mc.out.bd)
      go_region_held3 (fun V => V.cell? ⟨go, 1, none⟩ = some (.slice (some ⟨gs, 0, none⟩) n n) ∧ V.cell? ⟨gs, av, none⟩ = some (.int .u64 (Sf av : Int)) ∧ V.cell? ⟨dn, 0, none⟩ = some (.int .u64 ((D ||| pa : Nat) : Int))) (first | (exact hS0.out) | (exact hS1.out) | (exact hS2.out) | (exact hS3.out) | (exact hS4.out) | (exact hS5.out)) (first | (go_at_call 31; refine (word64 _ _).mono ?_; rintro e v1 ⟨rfl, hb1⟩; have N1 := hide' (Mc.out.below hb1); have hS1 := hide' (hcS.out _ N1.out.old N1.out.bd)) | (go_at_call 28; refine (KR.out _ (D ||| pa) N1.out.old hdlt'.out).mono ?_; rintro e v2 ⟨rfl, hb2⟩; have N2 := hide' (N1.out.below hb2); have hS2 := hide' (hcS.out _ N2.out.old N2.out.bd)) | (go_at_call 30; refine (ofO _ _).mono ?_; rintro e v3 ⟨rfl, hb3⟩; have N3 := hide' (N2.out.below hb3); have hS3 := hide' (hcS.out _ N3.out.old N3.out.bd)) | (go_at_call 37; refine (KA.out _).mono ?_; rintro e v4 ⟨rfl, hb4⟩; have N4 := hide' (N3.out.below hb4); have hS4 := hide' (hcS.out _ N4.out.old N4.out.bd)) | (go_at_call 33; refine (enterO w.heap.size (w.heap.size + 1 + 1) (w.heap.size + 1 + 1 + 1) w.heap.size _ n oP cP p l' (Sf av &&& rdW n Pf (D ||| pa)) hxl.out (ht.over N4.out.old) N4.out.old.size (by simpa using h3) N4.out.br N4.out.bp N4.out.hp hle.out (hpr.out _ _ N4.out.old hxb.out)).mono ?_; rintro e v5 ⟨rfl, hH5, hF5, hB5⟩; have N5 := hide' (N4.out.fz hF5.out hB5.out hH5.out); have hS5 := hide' (hcS.out _ N5.out.old N5.out.bd)))
      go_wp2
      exact ⟨⟨c + 1, oa2, cap2, hc1, rfl, hfL.out _ _ N5.out⟩, by simp [slLen]; omega⟩
end
end Go.Proofs.YtjimiabfgmchiaaDoor
