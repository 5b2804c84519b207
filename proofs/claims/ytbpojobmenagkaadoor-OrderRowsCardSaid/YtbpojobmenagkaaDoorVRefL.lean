/- The document's Least. -/
import Derived.Test.YtbpojobmenagkaaDoorVLeastG
import Derived.Test.YtbpojobmenagkaaDoorOExactM
namespace Go.Proofs.YtbpojobmenagkaaDoor
open Go.RowKit Go.Shelf
section
variable {m : Nat} {R : Nat → Nat → Bool} {p : Nat → Int} {D i : Nat}
/-- The best one so far. -/
def Bst (m : Nat) (R : Nat → Nat → Bool) (p : Nat → Int) (D i : Nat) (z : Int) : Prop := (z = -1 ∧ ∀ j, j < i → ¬ rdy m R D j) ∨ ∃ b : Nat, z = (b : Int) ∧ b < i ∧ rdy m R D b ∧ ∀ j, j < i → rdy m R D j → ¬ (p j < p b ∨ (p j = p b ∧ j < b))
theorem Bst.start : Bst m R p D 0 (-1) := .inl ⟨rfl, fun j hj => by omega⟩
theorem Bst.skip {z : Int} (h : Bst m R p D i z) (hi : ¬ rdy m R D i) : Bst m R p D (i + 1) z := by
  rcases h with ⟨rfl, h⟩ | ⟨b, rfl, hb, hr, h⟩
  · refine .inl ⟨rfl, fun j hj => ?_⟩
    rcases Nat.lt_or_ge j i with h1 | h1
    · exact h j h1
    · obtain rfl : j = i := by omega
      exact hi
  · refine .inr ⟨b, rfl, by omega, hr, fun j hj hjr => ?_⟩
    rcases Nat.lt_or_ge j i with h1 | h1
    · exact h j h1 hjr
    · obtain rfl : j = i := by omega
      exact absurd hjr hi
theorem Bst.keep {b : Nat} (h : Bst m R p D i (b : Int)) (hp : ¬ p i < p b) : Bst m R p D (i + 1) (b : Int) := by
  rcases h with ⟨e, _⟩ | ⟨b', e, hb, hr, h⟩
  · omega
  · obtain rfl : b = b' := by omega
    refine .inr ⟨b, rfl, by omega, hr, fun j hj hjr => ?_⟩
    rcases Nat.lt_or_ge j i with h1 | h1
    · exact h j h1 hjr
    · obtain rfl : j = i := by omega
      omega
theorem Bst.turn {z : Int} (h : Bst m R p D i z) (hi : rdy m R D i) (hp : ∀ b : Nat, z = (b : Int) → p i < p b) : Bst m R p D (i + 1) (i : Int) := by
  refine .inr ⟨i, rfl, by omega, hi, fun j hj hjr => ?_⟩
  rcases h with ⟨rfl, h⟩ | ⟨b, rfl, hb, hr, h⟩
  · rcases Nat.lt_or_ge j i with h1 | h1
    · exact absurd hjr (h j h1)
    · obtain rfl : j = i := by omega
      omega
  · have h0 := hp b rfl
    rcases Nat.lt_or_ge j i with h1 | h1
    · have := h j h1 hjr
      omega
    · obtain rfl : j = i := by omega
      omega
theorem Bst.form {z : Int} (h : Bst m R p D i z) : z = -1 ∨ ∃ b : Nat, z = (b : Int) ∧ b < i := by
  rcases h with ⟨rfl, _⟩ | ⟨b, rfl, hb, _⟩
  · exact .inl rfl
  · exact .inr ⟨b, rfl, hb⟩
theorem Bst.done {z : Int} (h : Bst m R p D m z) (he : ∃ a, rdy m R D a) : z = (pkF m R p D : Int) ∧ rdy m R D (pkF m R p D) := by
  rcases h with ⟨rfl, h⟩ | ⟨b, rfl, hb, hr, h⟩
  · obtain ⟨a, ha⟩ := he
    exact absurd ha (h a ha.1)
  · have : Pk m R p D b := ⟨hr, fun j hj => h j hj.1 hj⟩
    rw [pkF_eq m R p this]
    exact ⟨rfl, hr⟩
end
section
variable {go gp gs n : Nat} {R : Nat → Nat → Bool} {Pf Sf : Nat → Nat} {w : World} {p : Nat → Int}
set_option maxRecDepth 100000 in
set_option maxHeartbeats 1000000 in
/-- A priority of another length is refused. -/
theorem leastB (ho : OrdAt w go gp gs n Pf Sf) (oP : Option Addr) (k cP : Nat) (hk : k ≠ n) :
    Calls Tryd.prog 5 #[.pointer (some ⟨go, 0, none⟩), .slice oP k cP] w fun e w' => e = .returned (.tuple #[.slice none 0 0, .int .i64 1]) ∧ Below w.heap.size w w' := by
  have hxx : ((k : Int) != (n : Int)) = true := by simp; omega
  have hxn : ¬ (k : Int) = (n : Int) := by omega
  have KL : Hid (∀ W, Below w.heap.size w W → Calls Tryd.prog 15 #[.pointer (some ⟨go, 0, none⟩)] W fun e w' => e = .returned (.int .i64 n) ∧ w' = W) := fun W hW => lenO (ho.over hW)
  go_enter Tryd.func5, Tryd.ntmps5
  go_wp2
  have bp0 : Boxed (w.alloc (.cells #[.slice oP k cP] 24)) w.heap.size 24 (.slice oP k cP) := Boxed.new w _ _
  have hB0 : Below w.heap.size w (w.alloc (.cells #[.slice oP k cP] 24)) := (Below.refl _ w).alloc (Nat.le_refl _) _
  generalize w.alloc (.cells #[.slice oP k cP] 24) = W0 at *
  have bp1 := hide' (bxb bp0 (Below.refl _ W0).drew bp0.lt)
  have hB1 := hide' hB0.drew
  have KL1 := hide' (KL.out W0.drew hB1.out)
  have c0 := bp1.out.cell
  have hS0 := hide' c0
  go_region_held3 (fun V => V.cell? ⟨w.heap.size, 0, none⟩ = some (.slice oP k cP)) (first | (exact hS0.out)) (first | (go_at_call 15; refine KL1.out.mono ?_; rintro e w1 ⟨rfl, hw1⟩; obtain rfl : W0.drew = w1 := hw1.symm))
  go_wp2
  go_ret2
  exact ⟨rfl, hB1.out⟩
end
section
variable {w0 : World} {go m : Nat} {R : Nat → Nat → Bool} {ov : Value} {gr : Nat → Nat} {w : World} {Pf Sf : Nat → Nat} {p : Nat → Int}
/-- What the document's Least holds behind so many turns. -/
structure RL (m : Nat) (R : Nat → Nat → Bool) (p : Nat → Int) (w : World) (c : Nat) (rv : Value) (W : World) : Prop where
  old : Below w.heap.size w W
  row : W.ownsRow w.heap.size 3 1 rv c (cellsN (lK m R p c))
  dw : isDown m R (dK m R p c)
  cn : cnt m (dK m R p c) = c
theorem below_drewV {B : Nat} {w W : World} (h : Below B w W) (q : Nat) : Below B w (W.drewN q) := by
  induction q with
  | zero => exact h
  | succ q iq => exact iq.drew
theorem RL.drewN {c : Nat} {rv : Value} {W : World} (h : RL m R p w c rv W) (q : Nat) : RL m R p w c rv (W.drewN q) := by
  refine ⟨below_drewV h.old q, ?_, h.dw, h.cn⟩
  induction q with
  | zero => exact h.row
  | succ q iq => exact iq.drew
theorem RL.next {c : Nat} {oa : Option Addr} {cap : Nat} {W W2 : World} {u : Value} (hL : RL m R p w c (.slice oa c cap) W) (h1 : W2.ownsRow w.heap.size 3 1 u (c + 1) (cellsN (lK m R p c) ++ [.int .i64 (pkF m R p (dK m R p c) : Int)])) (h2 : (W.alloc (.cells #[.int .i64 (pkF m R p (dK m R p c) : Int)] 3)).grownBy W2 (Value.slice oa c cap).ownBlock) (hrd : rdy m R (dK m R p c) (pkF m R p (dK m R p c))) :
    ∃ oa2 cap2, u = .slice oa2 (c + 1) cap2 ∧ Hid (RL m R p w (c + 1) (.slice oa2 (c + 1) cap2) W2) := by
  obtain ⟨oa2, cap2, rfl⟩ := own_formI h1
  refine ⟨oa2, cap2, rfl, ?_, ?_, ?_, ?_⟩
  · refine (hL.old.alloc hL.old.size _).grown h2 (by have := hL.old.size; simp; omega) (fun j ej => ?_)
    rcases hL.row.2 with ⟨e, _⟩ | ⟨g, cap, cur, e, hb, _⟩
    · rw [e] at ej; cases ej
    · rw [e] at ej; cases ej; exact hb
  · show W2.ownsRow w.heap.size 3 1 _ (c + 1) (cellsN (lK m R p c ++ [pkF m R p (dK m R p c)]))
    rw [cellsN_snoc]
    exact h1
  · exact down_add hL.dw hrd
  · show cnt m (dK m R p c ||| 2 ^ (pkF m R p (dK m R p c))) = c + 1
    rw [cnt_add m _ _ hrd.2.1, if_pos hrd.1, hL.cn]
set_option maxRecDepth 100000 in
set_option maxHeartbeats 1000000 in
theorem refLeast (hM : Mat w0 go m m R ov gr w) (hO : Ord m R Pf Sf) (oP : Option Addr) (cP : Nat) (hP : PrA w oP m p) :
    Calls Tryd.prog 7 #[.pointer (some ⟨go, 0, none⟩), .slice oP m cP] w fun e w' => ∃ oa cap, e = .returned (.slice oa m cap) ∧ Hid (w'.ownsRow w.heap.size 3 1 (.slice oa m cap) m (cellsN (lK m R p m))) ∧ Below w.heap.size w w' := by
  obtain ⟨i0, hi, hz0, hz1, hz2⟩ := info_parts infoIV
  have hm := hO.n64
  have KR : Hid (∀ W d, Below w.heap.size w W → d < 18446744073709551616 → Calls Tryd.prog 27 #[.pointer (some ⟨go, 0, none⟩), .int .u64 (d : Nat)] W fun e w' => e = .returned (.int .u64 (rdW m Pf d : Int)) ∧ w' = W) := fun W d hW hd => by
    have := refReady (hM.over hW) hm hO.inn (fun a ha => hO.accPn ha) d hd
    rwa [hO.accR hd] at this
  have cN : Hid (∀ W, Below w.heap.size w W → W.cell? ⟨go, 0, none⟩ = some (.int .i64 (m : Int))) := fun W hW => (hM.over hW).c0
  have hP' : Hid (∀ W k, Below w.heap.size w W → k < m → ∃ gP o, oP = some ⟨gP, o, none⟩ ∧ W.cell? ⟨gP, o + k, none⟩ = some (.int .i64 (p k))) := fun W k hW hk => by
    obtain ⟨gP, o, e, hc⟩ := hP k hk
    exact ⟨gP, o, e, (hW.cell (p := ⟨gP, o + k, none⟩) (cell_lt hc)).trans hc⟩
  have hO' := hide' hO
  clear hO hM hP
  go_enter Tryd.func7, Tryd.ntmps7
  go_wp2
  go_loopw [5, 6, 7, 8, 9] (fun rv pd _ _ _ wr => ∃ c oa cap, c ≤ m ∧ rv = .slice oa c cap ∧ pd = .int .u64 ((dK m R p c : Nat) : Int) ∧ Hid (RL m R p w c (.slice oa c cap) wr)) (fun rv _ _ _ _ _ => m - slLen rv)
  case atStart => exact ⟨0, _, 0, Nat.zero_le _, rfl, rfl, ⟨Below.refl _ _, World.ownsRow_nil _ _ _ _, down_zero, cnt_zero m⟩⟩
  case round =>
    obtain ⟨c, oa, cap, hc, rfl, rfl, hL⟩ := hrel
    have c0 := cN.out _ hL.out.old
    by_cases hlt : c < m
    · have hcl : (c : Int) < (m : Int) := by omega
      have hdlt : dK m R p c < 18446744073709551616 := down_lt hm hL.out.dw
      have KR1 := hide' (KR.out wr _ hL.out.old hdlt)
      have hbits : Hid (∀ a, (rdW m Pf (dK m R p c)).testBit a = true ↔ rdy m R (dK m R p c) a) := hO'.out.rdW_bits hdlt
      have hrl : rdW m Pf (dK m R p c) < 18446744073709551616 := hO'.out.rdW_lt hdlt
      have hex : Hid (∃ a, rdy m R (dK m R p c) a) := by
        obtain ⟨a, ha, hda⟩ := cnt_some (show cnt m (dK m R p c) < m by rw [hL.out.cn]; exact hlt)
        exact hO'.out.some_ready (Pf a) a (Nat.le_refl _) ha hda
      have hbt : Hid (∀ a, (bits .and .u64 (((rdW m Pf (dK m R p c) : Nat) : Int) / 2 ^ a) 1 == 1) = (rdW m Pf (dK m R p c)).testBit a) := fun a => bit_test1 hrl
      have hDs : Hid (dK m R p (c + 1) = dK m R p c ||| 2 ^ (pkF m R p (dK m R p c))) := rfl
      have hNx : Hid (∀ u W W2, RL m R p w c (.slice oa c cap) W → W2.ownsRow w.heap.size 3 1 u (c + 1) (cellsN (lK m R p c) ++ [.int .i64 (pkF m R p (dK m R p c) : Int)]) → (W.alloc (.cells #[.int .i64 (pkF m R p (dK m R p c) : Int)] 3)).grownBy W2 (Value.slice oa c cap).ownBlock → rdy m R (dK m R p c) (pkF m R p (dK m R p c)) → ∃ oa2 cap2, u = .slice oa2 (c + 1) cap2 ∧ Hid (RL m R p w (c + 1) (.slice oa2 (c + 1) cap2) W2)) := fun u W W2 h0 h1 h2 h3 => h0.next h1 h2 h3
      obtain ⟨D, hDD⟩ : ∃ D, D = dK m R p c := ⟨_, rfl⟩
      rw [← hDD] at hdlt KR1 hbits hrl hex hbt hDs hNx ⊢
      clear hDD
      generalize rdW m Pf D = x at *
      go_wp2_with fail
      refine KR1.out.mono ?_
      rintro e w1 ⟨rfl, hw1⟩
      obtain rfl : wr = w1 := hw1.symm
      go_wp2
      go_loopw [8, 9] (fun pb pi W => ∃ (z : Int) (i : Nat), i ≤ m ∧ pi = .int .i64 i ∧ pb = .int .i64 z ∧ Hid (Bst m R p D i z) ∧ Hid (RL m R p w c (.slice oa c cap) W)) (fun _ pi _ => ((m : Int) - intOf pi).toNat)
      case atStart => exact ⟨-1, 0, Nat.zero_le _, rfl, rfl, Bst.start, hL⟩
      case round =>
        clear hL c0 KR1
        obtain ⟨z, i, hi', rfl, rfl, hB, hL⟩ := hrel
        have c0 := cN.out _ hL.out.old
        by_cases hli : i < m
        · have hil : (i : Int) < (m : Int) := by omega
          have hbi := hbt.out i
          cases hb : x.testBit i with
          | false =>
            rw [hb] at hbi
            have hB2 : Hid (Bst m R p D (i + 1) z) := hB.out.skip (fun h => by rw [(hbits.out i).2 h] at hb; cases hb)
            clear hB hb
            go_wp2
            go_quiet (fail)
            go_wp2
            exact ⟨⟨z, i + 1, by omega, by go_num, rfl, hB2, hL.out.drewN _⟩, by simp [intOf]; omega⟩
          | true =>
            rw [hb] at hbi
            have hri := (hbits.out i).1 hb
            rcases hB.out.form with rfl | ⟨b, rfl, hbi2⟩
            · have hB2 : Hid (Bst m R p D (i + 1) (i : Int)) := hB.out.turn hri (fun b e => by omega)
              clear hB hb hri
              go_wp2
              go_quiet (fail)
              go_wp2
              exact ⟨⟨i, i + 1, by omega, by go_num, rfl, hB2, hL.out.drewN _⟩, by simp [intOf]; omega⟩
            · obtain ⟨gP, o, rfl, ci⟩ := hP'.out _ i hL.out.old hli
              obtain ⟨_, _, e, cb⟩ := hP'.out _ b hL.out.old (by omega)
              cases e
              have hb0 : ¬ (b : Int) < 0 := by omega
              have hbm : (b : Int) < (m : Int) := by omega
              by_cases hpl : p i < p b
              · have hB2 : Hid (Bst m R p D (i + 1) (i : Int)) := hB.out.turn hri (fun b' e => by rw [← Int.ofNat_inj.1 e]; exact hpl)
                clear hB hb hri
                go_wp2
                go_quiet (fail)
                go_wp2
                exact ⟨⟨i, i + 1, by omega, by go_num, rfl, hB2, hL.out.drewN _⟩, by simp [intOf]; omega⟩
              · have hB2 : Hid (Bst m R p D (i + 1) (b : Int)) := hB.out.keep hpl
                clear hB hb hri
                go_wp2
                go_quiet (fail)
                go_wp2
                exact ⟨⟨b, i + 1, by omega, by go_num, rfl, hB2, hL.out.drewN _⟩, by simp [intOf]; omega⟩
        · obtain rfl : i = m := by omega
          obtain ⟨rfl, hrd⟩ := hB.out.done hex.out
          have ha64 : pkF i R p D < 64 := Nat.lt_of_lt_of_le hrd.1 hm
          have hO1 : Hid (∀ o, (wr.alloc o).ownsRow w.heap.size 3 1 (.slice oa c cap) c (cellsN (lK i R p c))) := fun o => hL.out.row.alloc o
          have hsz := hL.out.old.size
          have hfin' : Hid (∀ u W2, W2.ownsRow w.heap.size 3 1 u (c + 1) (cellsN (lK i R p c) ++ [.int .i64 (pkF i R p D : Int)]) → (wr.alloc (.cells #[.int .i64 (pkF i R p D : Int)] 3)).grownBy W2 (Value.slice oa c cap).ownBlock → ∃ oa2 cap2, u = .slice oa2 (c + 1) cap2 ∧ Hid (RL i R p w (c + 1) (.slice oa2 (c + 1) cap2) W2)) := fun u W2 h1 h2 => hNx.out u _ W2 hL.out h1 h2 hrd
          have hsh := shlc (pkF i R p D) ha64
          have hpw : (2 ^ (pkF i R p D) : Nat) < 18446744073709551616 := Nat.lt_of_lt_of_le (Nat.pow_lt_pow_right (by decide) ha64) (by decide)
          have hor := u64_or_nat D (2 ^ (pkF i R p D)) hdlt hpw
          clear hB hrd hex hbt hbits hL hNx
          generalize pkF i R p D = a at *
          generalize 2 ^ a = pa at *
          go_wp2_with (first | (at_builtin; refine wpList_append_own _ rfl _ _ 24 rfl w.heap.size 3 i0 (.int .i64 0) 1 8 Tryd.underlying24 hi hz0 hz1 hz2 rfl (by decide) (.slice oa c cap) c (cellsN (lK i R p c)) rfl (hO1.out _) ⟨wr.heap.size, 0, none⟩ 1 1 [.int .i64 (a : Int)] rfl rfl (cell_one_new _ _ _) (by simp [Value.oneCell']) (by unfold maxLen; omega) (by omega) (by simp; omega) ?_; intro u w8 hown8 hgrow8 hnil8; clear hnil8; obtain ⟨oa2, cap2, rfl, M8⟩ := hfin'.out u w8 hown8 hgrow8; clear hown8 hgrow8))
          exact ⟨⟨c + 1, oa2, cap2, by omega, rfl, by rw [hDs.out], M8⟩, by simp [slLen]; omega⟩
    · obtain rfl : c = m := by omega
      have hL' := hL
      clear hL
      go_wp2
      go_ret
      exact ⟨_, _, rfl, hL'.out.row, hL'.out.old⟩
end
end Go.Proofs.YtbpojobmenagkaaDoor
