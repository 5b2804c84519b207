/- The document's turn. -/
import Derived.Test.YtbbmjfjedonfaaaDoorMTurnM
import Derived.Test.YtbbmjfjedonfaaaDoorMU
import Derived.Test.YtbbmjfjedonfaaaDoorMShr
namespace Go.Proofs.YtbbmjfjedonfaaaDoor.M
open Go.RowKit Go.Shelf
def HAt (W : World) (g n : Nat) (hs : Nat → Int) : Prop := W.rowIs g 3 n (fun k => .int .i64 (hs k))
section
variable {W W' : World} {g n : Nat} {hs : Nat → Int}
theorem HAt.cell (h : HAt W g n hs) {k : Nat} (hk : k < n) : W.cell? ⟨g, k, none⟩ = some (.int .i64 (hs k)) := World.rowIs.cell h hk
theorem HAt.frz (h : HAt W g n hs) (k : Nat) : W.frozen? ⟨g, k, none⟩ = false := World.rowIs.frozen h k
theorem HAt.lt (h : HAt W g n hs) : g < W.heap.size := World.rowIs.lt h
theorem HAt.of (h : HAt W g n hs) (e : W'.heap[g]? = W.heap[g]?) : HAt W' g n hs := World.rowIs.of_block h e
theorem HAt.below (h : HAt W g n hs) (hb : Below W.heap.size W W') : HAt W' g n hs := h.of (hb.block g h.lt)
theorem HAt.set (h : HAt W g n hs) (k : Nat) (z : Int) : HAt (W.setCell ⟨g, k, none⟩ (.int .i64 z)) g n (upd hs k z) :=
  World.rowIs.congr (World.rowIs.set h k _) fun i hi => by
    by_cases e : i = k
    · subst e; rw [if_pos rfl, upd_same]
    · rw [if_neg e, upd_ne _ _ e]
theorem HAt.setOther (h : HAt W g n hs) {a o : Nat} (ha : g ≠ a) (v : Value) : HAt (W.setCell ⟨a, o, none⟩ v) g n hs := World.rowIs.setOther h ha v
end
/-- What turn answers. -/
def TurP (W : World) (gh gb n : Nat) (R : Nat → Nat) (hs : Nat → Int) (mt : Nat) (E D : Nat → Prop) (i : Nat) (e : Ending) (w' : World) : Prop :=
  Fr2 W w' gh gb ∧ ((e = .returned (.bool true) ∧ ∃ hs' mt', HAt w' gh n hs' ∧ Boxed w' gb 23 (.int .u64 ((mt' : Nat) : Int)) ∧ mt' < 18446744073709551616 ∧ Trn n R hs mt.testBit E D i hs' mt'.testBit) ∨
    (e = .returned (.bool false) ∧ ∃ mt', HAt w' gh n hs ∧ Boxed w' gb 23 (.int .u64 ((mt' : Nat) : Int)) ∧ mt' < 18446744073709551616 ∧ NoW R (Oh hs E) mt.testBit mt'.testBit i 64))
/-- What stands in the round of turn. -/
structure TuI (W : World) (gh gb n : Nat) (R : Nat → Nat) (hs : Nat → Int) (mt : Nat) (E : Nat → Prop) (i c mt1 : Nat) (wr : World) : Prop where
  hat : HAt wr gh n hs
  box : Boxed wr gb 23 (.int .u64 (mt1 : Int))
  lt : mt1 < 18446744073709551616
  fr : Fr2 W wr gh gb
  now : NoW R (Oh hs E) mt.testBit mt1.testBit i c
set_option maxRecDepth 100000 in
set_option maxHeartbeats 2000000 in
theorem turnF (m : Nat) : ∀ (W : World) (gh gb : Nat) (oa : Option Addr) (cap n : Nat) (R : Nat → Nat) (hs : Nat → Int) (mt : Nat) (E D : Nat → Prop) (i : Nat), unm mt.testBit < m → Cxt W gh gb (.slice oa n cap) n R → HAt W gh n hs → Boxed W gb 23 (.int .u64 (mt : Int)) → mt < 18446744073709551616 → Hst n R hs E D → (∀ u, D u → mt.testBit u = true) → i < n → ¬ E i →
    Calls Tryd.prog 42 #[.slice oa n cap, .slice (some ⟨gh, 0, none⟩) n n, .pointer (some ⟨gb, 0, none⟩), .int .i64 (i : Int)] W (TurP W gh gb n R hs mt E D i) := by
  induction m with
  | zero => exact fun _ _ _ _ _ _ _ _ _ _ _ _ h => absurd h (Nat.not_lt_zero _)
  | succ m ih =>
  intro W gh gb oa cap n R hs mt E D i hm hC hH hB hmt hS hD hi hiE
  obtain ⟨oa', cap', e9, hrw⟩ := hC.rw
  cases e9
  obtain ⟨g, o, rfl, hg1, hg2, hcr⟩ := hrw i hi
  have hx := hC.word i
  have hbt := hide' hC.bit
  have hI0 : Hid (TuI W gh gb n R hs mt E i 0 mt W) := ⟨hH, hB, hmt, Fr2.refl _ _ _, NoW.start _⟩
  have hne := hC.nek
  have hn12 := hC.few
  have hC' := hide' hC
  have hS' := hide' hS
  have hD' := hide' hD
  have hm' := hide' hm
  have hiE' := hide' hiE
  have ih' := hide' ih
  have hcr' := hide' hcr
  have hin : (i : Int) < (n : Int) := by omega
  clear hC hS hD hH hB hrw hm hiE ih hcr
  go_enter Tryd.func42, Tryd.ntmps42
  go_wp2
  go_loopw [9, 10] (fun p _ wr => ∃ (c mt1 : Nat), c ≤ 64 ∧ p = .int .i64 (c : Int) ∧ Hid (TuI W gh gb n R hs mt E i c mt1 wr)) (fun p _ _ => (64 - intOf p).toNat)
  case atStart => exact ⟨0, mt, by omega, rfl, hI0⟩
  case round =>
    clear hI0
    obtain ⟨c, mt1, hc, rfl, hI⟩ := hrel
    by_cases hlt : c < 64
    · have hlt' : (c : Int) < 64 := by omega
      have cx : wr.cell? ⟨g, o + i, none⟩ = some (.int .u64 (R i : Int)) := by
        have hl := cell_lt hcr'.out
        have := hI.out.fr.block g hl hg1 hg2
        rw [← hcr'.out]
        simp only [World.cell?, this]
      have cb := hI.out.box.cell
      have fb := hI.out.box.frozen
      by_cases hbit : (R i).testBit c = true
      · have hs1 := shr_bitT hx hbit
        by_cases hmet : mt1.testBit c = true
        · have hs2 := shr_bitT hI.out.lt hmet
          have hI2 : Hid (TuI W gh gb n R hs mt E i (c + 1) mt1 wr) := by
            obtain ⟨a, b, d, e, f⟩ := hI.out
            exact ⟨a, b, d, e, f.skip (u := c) (fun v h1 h2 => by omega) hmet⟩
          clear hI
          go_wp2
          exact ⟨⟨c + 1, mt1, by omega, by go_num, hI2⟩, by simp [intOf]; omega⟩
        · have hmet0 : mt1.testBit c = false := by simpa using hmet
          have hs2 := shr_bitF hI.out.lt hmet0
          have hDu : ¬ D c := fun h => hmet (hI.out.now.grow c (hD'.out c h))
          have hsh := shlc c hlt
          have hp64 : 2 ^ c < 18446744073709551616 := Nat.pow_lt_pow_right (a := 2) (m := c) (n := 64) (by decide) hlt
          have hor := u64_or_nat mt1 (2 ^ c) hI.out.lt hp64
          have hml : mt1 ||| 2 ^ c < 18446744073709551616 := Nat.or_lt_two_pow (n := 64) hI.out.lt hp64
          have hup : Hid ((mt1 ||| 2 ^ c).testBit = upd mt1.testBit c true) := or_upd mt1 c
          generalize mt1 ||| 2 ^ c = mt2 at *
          generalize 2 ^ c = pc at *
          have hHm : Hid (HAt (wr.setCell ⟨gb, 0, none⟩ (.int .u64 (mt2 : Int))).drew gh n hs) := World.rowIs.drew (hI.out.hat.setOther hne _)
          have hBm : Hid (Boxed (wr.setCell ⟨gb, 0, none⟩ (.int .u64 (mt2 : Int))).drew gb 23 (.int .u64 (mt2 : Int))) := hI.out.box.set _
          have hFm : Hid (Fr2 W (wr.setCell ⟨gb, 0, none⟩ (.int .u64 (mt2 : Int))).drew gh gb) := hI.out.fr.trans ((Fr2.setB ..).trans (Fr2.below (Below.refl _ _).drew))
          go_wp2
          go_region
          go_wp2
          obtain ⟨V, hV⟩ : ∃ V, V = (wr.setCell ⟨gb, 0, none⟩ (.int .u64 (mt2 : Int))).drew := ⟨_, rfl⟩
          rw [← hV] at hHm hBm hFm
          rw [← hV]
          have hnow := hide' hI.out.now
          clear hV hI cx cb fb hs1 hs2 hor hsh
          as_aux_lemma =>
          go_loopw [10] (fun p wx => ∃ kk : Nat, kk ≤ n ∧ p = .int .i64 (kk : Int) ∧ V = wx ∧ Hid (∀ r, r < kk → hs r ≠ (c : Int))) (fun p _ => ((n : Int) - intOf p).toNat)
          case atStart => exact ⟨0, Nat.zero_le _, rfl, rfl, fun r h => absurd h (Nat.not_lt_zero _)⟩
          case round =>
            obtain ⟨kk, hkk, rfl, rfl, hno⟩ := hrel
            by_cases hkn : kk < n
            · have hkn' : (kk : Int) < (n : Int) := by omega
              have ck := hHm.out.cell hkn
              by_cases hku : hs kk = (c : Int)
              · rw [hku] at ck
                have hkn2 : ((kk : Int) == (n : Int)) = false := by simp; omega
                have hpre := hS'.out.leave hDu hkn hku
                have hOw : Oh hs E c kk := ⟨(hS'.out.own kk c hkn hku hDu).1, hku⟩
                have hun : unm mt2.testBit < m := by
                  rw [hup.out]
                  exact Nat.lt_of_lt_of_le (unm_lt hlt hmet0) (by have := hm'.out; have := unm_grow hnow.out.grow; omega)
                have KT := hide' (ih'.out V gh gb (some ⟨g, o, none⟩) cap n R hs mt2 _ _ kk hun (hC'.out.fr hFm.out) hHm.out hBm.out hml hpre (fun v hv => by
                  rw [hup.out]
                  by_cases e : v = c
                  · subst e; exact upd_same ..
                  · rw [upd_ne _ _ e]; exact hnow.out.grow v (hD'.out v (hv.resolve_right e))) hkn (fun x => x.2 rfl))
                clear hHm hBm
                go_wp2_with fail
                refine KT.out.mono ?_
                rintro e w3 ⟨hF3, (⟨rfl, hs', mt', hH3, hB3, hl3, hT3⟩ | ⟨rfl, mt', hH3, hB3, hl3, hN3⟩)⟩
                · have ci := hH3.cell hi
                  have fi := hH3.frz i
                  have hend : Hid (TurP W gh gb n R hs mt E D i (.returned (.bool true)) (w3.setCell ⟨gh, i, none⟩ (.int .i64 (c : Int)))) := by
                    rw [hup.out] at hT3
                    exact ⟨(hFm.out.trans hF3).trans (Fr2.setA ..), .inl ⟨rfl, _, mt', hH3.set i _, box_other hB3 hne.symm _, hl3, Trn.moved hS'.out hi hlt hDu hbit hnow.out.grow hmet0 hkn hku hT3⟩⟩
                  clear KT hH3 hB3 hT3 hF3 hFm
                  as_aux_lemma =>
                  go_wp2
                  go_ret
                  exact hend.out
                · have hI2 : Hid (TuI W gh gb n R hs mt E i (c + 1) mt' w3) := by
                    rw [hup.out] at hN3
                    exact ⟨hH3, hB3, hl3, hFm.out.trans hF3, hnow.out.step (u := c) (r := kk) (fun v h1 h2 => by omega) hbt.out hOw hN3 (fun v s hv => ⟨hv.1.1, hv.2⟩)⟩
                  clear KT hH3 hB3 hN3 hF3 hFm
                  as_aux_lemma =>
                  go_wp2
                  exact ⟨⟨c + 1, mt', by omega, by go_num, hI2⟩, by simp [intOf]; omega⟩
              · have hku' : (hs kk != (c : Int)) = true := by simpa using hku
                go_wp2
                exact ⟨⟨kk + 1, by omega, by go_num, by first | rfl | trivial, fun r hr => by
                  rcases Nat.lt_or_ge r kk with h | h
                  · exact hno.out r h
                  · obtain rfl : r = kk := by omega
                    exact hku⟩, by simp [intOf]; omega⟩
            · obtain rfl : kk = n := by omega
              have ci := hHm.out.cell hi
              have fi := hHm.out.frz i
              have hend : Hid (TurP W gh gb kk R hs mt E D i (.returned (.bool true)) (V.setCell ⟨gh, i, none⟩ (.int .i64 (c : Int)))) := by
                have hT := Trn.take (K := mt.testBit) hS'.out hi hlt hDu hbit hno.out hnow.out.grow hmet0
                rw [← hup.out] at hT
                exact ⟨hFm.out.trans (Fr2.setA ..), .inl ⟨rfl, _, mt2, hHm.out.set i _, box_other hBm.out hne.symm _, hml, hT⟩⟩
              clear hHm hBm hFm
              as_aux_lemma =>
              go_wp2
              go_ret
              exact hend.out
      · have hbit0 : (R i).testBit c = false := by simpa using hbit
        have hs1 := shr_bitF hx hbit0
        have hI2 : Hid (TuI W gh gb n R hs mt E i (c + 1) mt1 wr) := by
          obtain ⟨a, b, d, e, f⟩ := hI.out
          exact ⟨a, b, d, e, f.gap (fun v h1 h2 => (by
            have : v = c := by omega
            rw [this]; exact hbit0))⟩
        clear hI
        go_wp2
        exact ⟨⟨c + 1, mt1, by omega, by go_num, hI2⟩, by simp [intOf]; omega⟩
    · obtain rfl : c = 64 := by omega
      go_wp2
      go_ret
      exact ⟨hI.out.fr, .inr ⟨rfl, mt1, hI.out.hat, hI.out.box, hI.out.lt, hI.out.now⟩⟩
end Go.Proofs.YtbbmjfjedonfaaaDoor.M
