/- The law LexPlaces: walked. -/
import Derived.Test.YtmkiggbpbojiiaaLBtw
import Derived.Test.YtmkiggbpbojiiaaLWake
import Derived.Deep.CutBlock
import Derived.Deep.CutRange
namespace Go.Proofs.Ytmkiggbpbojiiaa
open Go.RowKit Go.Shelf
theorem infoI : (Try.prog.info? 3).map (fun i => (i.zero, i.size, i.bytes)) = some (some (.int .i64 0), 1, 8) := by kernel_rfl
def ints (l : List Nat) : List Value := l.map fun x => Value.int .i64 (Int.ofNat x)
theorem cell_one_new (w : World) (x : Value) (t : TypeId) : ∀ j u, ([x] : List Value)[j]? = some u → (w.alloc (.cells #[x] t)).cell? ((⟨w.heap.size, 0, none⟩ : Addr).add j) = some u := by
  intro j u hj
  match j, hj with
  | 0, hj => cases hj; exact cell_box w t x
  | j + 1, hj => simp at hj
/-- The lines' begins, in a row of one's own. -/
structure BgR (T : List UInt8) (W2 W : World) (n : Nat) (v : Value) : Prop where
  row : W.ownsRow W2.heap.size 3 1 v (bgs T n).length (ints (bgs T n))
  bl : Below W2.heap.size W2 W
theorem BgR.push {T : List UInt8} {W2 W w4 : World} {n : Nat} {v v' : Value} (h : BgR T W2 W n v) (hT : T[n]? = some 10) (o : Obj) (hown : w4.ownsRow W2.heap.size 3 1 v' ((bgs T n).length + 1) (ints (bgs T n) ++ [.int .i64 ((n : Int) + 1)])) (hgrow : (W.alloc o).grownBy w4 v.ownBlock) : BgR T W2 w4 (n + 1) v' := by
  refine ⟨?_, (h.bl.alloc h.bl.size o).grown hgrow (by have := h.bl.size; simp; omega) fun j ej => ?_⟩
  · rw [bgs_end hT]
    simpa [ints] using hown
  · rcases h.row.2 with ⟨rfl, _⟩ | ⟨g, cap, cur, rfl, hb, _⟩
    · cases ej
    · have : g = j := by simpa [Value.ownBlock] using ej
      omega
theorem BgR.first (T : List UInt8) {W2 w4 : World} {n g4 cap4 : Nat} (hWs : W2.heap.size = n) (h : w4.ownsRow n 3 1 (.slice (some ⟨g4, 0, none⟩) (0 + 1) cap4) (0 + 1) ([] ++ [.int .i64 0]) ∧ (W2.alloc (.cells #[.int .i64 0] 3)).grownBy w4 (Value.slice none 0 0).ownBlock) : BgR T W2 w4 0 (.slice (some ⟨g4, 0, none⟩) (0 + 1) cap4) := by
  refine ⟨?_, (((Below.refl _ W2).alloc (Nat.le_refl _) (.cells #[.int .i64 0] 3))).grown h.2 (by simp) fun j ej => by cases ej⟩
  rw [hWs]
  exact h.1
theorem BgR.same {T : List UInt8} {W2 W : World} {n : Nat} {v : Value} (h : BgR T W2 W n v) (hT : T[n]? ≠ some 10) : BgR T W2 W (n + 1) v := ⟨by rw [bgs_not hT]; exact h.row, h.bl⟩
set_option maxRecDepth 100000 in
set_option maxHeartbeats 20000000 in
theorem lexPlaces_walk (T : List UInt8) (hm : T.length ≤ 9223372036854775807) (w : World) : Calls Try.prog 5 #[.string (bs T)] w fun e w' => e = .returned (.bool true) ∧ Below w.heap.size w w' := by
  have hsz := bs_size T
  have K1 := hide' (scanF T w hm)
  have K5 : Hid (∀ W, Calls Try.prog 13 #[] W fun e w' => e = .returned (.bool true) ∧ Below W.heap.size W w') := fun W => wakesF W
  have KB : Hid (∀ (S : List UInt8) W, S.length ≤ 9223372036854775807 → btw S = true → Calls Try.prog 16 #[.string (bs S)] W fun e w' => e = .returned (.bool true) ∧ w' = W) := fun S W h1 h2 => by
    have := betweenF S W h1
    rwa [h2] at this
  have hat : Hid (∀ c x, T[c]? = some x → ∃ h : c < (bs T).size, (bs T)[c]'h = x) := fun c x h => bs_at h
  have hext : Hid (∀ a b, (bs T).extract a b = bs ((T.drop a).take (b - a))) := bs_ext T
  obtain ⟨i0, hi, hz0, hz1, hz2⟩ := info_partsL infoI
  generalize hst : bs T = st at *
  clear hst
  go_enter Try.func5, Try.ntmps5
  go_wp2_with fail
  refine K1.out.mono ?_
  rintro e1 w1 ⟨hb1, v1, er, ln, cl, toks, rfl, hr1, hs1⟩
  have B1 := hide' hb1
  obtain ⟨o1, cp1, rfl⟩ := own_shapeT hr1
  clear hb1 K1
  have A1 : Hid (Below w.heap.size w (w1.alloc (.cells #[.int .i64 er, .int .i64 ln, .int .i64 cl] 25))) := B1.out.alloc B1.out.size _
  rcases hs1 with ⟨hne, -, rfl⟩ | ⟨rfl, rfl, rfl, hs⟩
  · have hne2 : (er != 0) = true := by simpa using hne
    clear hr1 hne KB hat hext hi hz0 hz1 hz2
    go_wp2_with fail
    refine (K5.out _).mono ?_
    rintro e w6 ⟨rfl, b6⟩
    have B6 := hide' (A1.out.trans (b6.mono A1.out.size))
    clear b6
    go_wp2_with fail
    go_ret
    exact ⟨rfl, B6.out⟩
  · obtain ⟨hP, hT6⟩ := places hs
    have hP' := hide' hP
    have hTk : Hid (TokAt w1 o1 toks) := TokAt.own hr1
    have hml : toks.length ≤ maxLen := by
      rcases hr1.2 with ⟨_, h2⟩ | ⟨g, cap, cur, _, _, _, h3, h4, _⟩
      · rw [h2]; exact Nat.zero_le _
      · omega
    unfold maxLen at hml
    have hr1' := hide' hr1
    clear hr1 hP hs
    go_upto_block 0 with (at_builtin; go_loud (refine wpList_append_lies _ rfl _ _ 36 rfl (w1.heap.size + 1) 3 i0 (.int .i64 0) 1 8 Try.underlying36 hi hz0 hz1 hz2 rfl (by decide) (.slice none 0 0) 0 [] rfl (World.ownsRow_nil _ _ _ _) ⟨w1.heap.size + 1, 0, none⟩ 1 1 [.int .i64 0] rfl rfl (by have := cell_one_new (w1.alloc (.cells #[.int .i64 0, .int .i64 0, .int .i64 0] 25)) (.int .i64 0) 3; simpa using this) (by simp [Value.oneCell']) (by decide) (by decide) (by decide) (by simp <;> omega) _ rfl ?_); intro g4 cap4 w4 hown4 hgrow4 hat4 hlt4; have HO := hide' (And.intro hown4 hgrow4); clear hown4 hgrow4 hat4 hlt4)
    have HO' := ‹Hid (World.ownsRow _ _ _ _ _ _ _ ∧ World.grownBy _ _ _)›
    obtain ⟨W2, hW2⟩ : ∃ W2, W2 = w1.alloc (.cells #[.int .i64 0, .int .i64 0, .int .i64 0] 25) := ⟨_, rfl⟩
    have b12 : Hid (Below w1.heap.size w1 W2) := by rw [hW2]; exact (Below.refl _ w1).alloc (Nat.le_refl _) _
    have hWs : W2.heap.size = w1.heap.size + 1 := by rw [hW2]; simp
    rw [← hW2] at HO' A1
    have R0 := hide' (BgR.first T hWs HO'.out)
    clear hW2
    go_cut [5, 6] from 27 to 41 (fun v k wx => Hid (BgR T W2 wx T.length v))
    case first =>
      as_aux_lemma =>
      go_wp2_with fail
      go_loopw [5, 6] (fun v k wx => ∃ n : Nat, k = .int .i64 n ∧ n ≤ T.length ∧ Hid (BgR T W2 wx n v)) (fun _ k _ => ((T.length : Int) - intOf k).toNat)
      case atStart => exact ⟨0, rfl, Nat.zero_le _, R0.out⟩
      case round =>
        obtain ⟨n, rfl, hn, HR⟩ := hrel
        obtain ⟨W3, rfl⟩ : ∃ x, x = wr := ⟨_, rfl⟩
        obtain ⟨ob, cb, rfl⟩ := own_shapeT HR.out.row
        clear R0 hP' hTk hr1' KB K5 hext A1 b12 B1
        by_cases hlt : n < T.length
        · obtain ⟨c, hx⟩ : ∃ x, T[n]? = some x := ⟨_, List.getElem?_eq_getElem hlt⟩
          obtain ⟨q1, e1⟩ := hat.out n c hx
          by_cases h10 : c = 10
          · subst h10
            have e10 : (10 : UInt8).toNat = 10 := rfl
            have hrow := hide' HR.out.row
            have hbs := hide' HR.out.bl.size
            have hbl := bgs_len T n
            have hpush : Hid (∀ (w4 : World) (v' : Value) o, w4.ownsRow W2.heap.size 3 1 v' ((bgs T n).length + 1) (ints (bgs T n) ++ [.int .i64 ((n : Int) + 1)]) → (W3.alloc o).grownBy w4 (Value.slice ob (bgs T n).length cb).ownBlock → BgR T W2 w4 (n + 1) v') := fun w4 v' o h1 h2 => HR.out.push hx o h1 h2
            clear hx hat HR
            generalize ints (bgs T n) = cs at *
            generalize (bgs T n).length = m at *
            go_wp2_with (at_builtin; go_loud (refine wpList_append_lies _ rfl _ _ 36 rfl W2.heap.size 3 i0 (.int .i64 0) 1 8 Try.underlying36 hi hz0 hz1 hz2 rfl (by decide) (.slice ob m cb) m cs rfl (hrow.out.alloc _) ⟨W3.heap.size, 0, none⟩ 1 1 [.int .i64 ((n : Int) + 1)] rfl rfl (cell_one_new _ _ _) (by simp [Value.oneCell']) (by decide) (by unfold maxLen; omega) (by omega) (by have := hbs.out; simp; omega) _ rfl ?_); intro g5 cap5 w5 hown5 hgrow5 hat5 hlt5; have HO := hide' (And.intro hown5 hgrow5); clear hown5 hgrow5 hat5 hlt5)
            exact ⟨⟨n + 1, by go_num, by omega, hpush.out _ _ _ HO.out.1 HO.out.2⟩, by simp [intOf]; omega⟩
          · have q10 : ((c.toNat : Int) == 10) = false := (u8_eq c 10).symm.trans (by simpa using h10)
            have hs2 : Hid (BgR T W2 W3 (n + 1) (.slice ob (bgs T n).length cb)) := HR.out.same (by rw [hx]; simpa using h10)
            clear hx hat HR h10
            generalize (bgs T n).length = m at *
            go_wp2_with fail
            exact ⟨⟨n + 1, by go_num, by omega, hs2.out⟩, by simp [intOf]; omega⟩
        · obtain rfl : n = T.length := by omega
          have HR' := HR
          clear hat HR
          generalize (bgs T T.length).length = m at *
          go_wp2_with fail
          go_meet
          exact HR'.out
    case rest =>
      have HR := hcut
      clear hcut R0 HO' hi hz0 hz1 hz2
      obtain ⟨ob, cb, rfl⟩ := own_shapeT HR.out.row
      obtain ⟨W3, rfl⟩ : ∃ x, x = wc := ⟨_, rfl⟩
      have b13 : Hid (Below w1.heap.size w1 W3) := b12.out.trans (HR.out.bl.mono b12.out.size)
      have B3 : Hid (Below w.heap.size w W3) := B1.out.trans (b13.out.mono B1.out.size)
      have hTk3 : Hid (TokAt W3 o1 toks) := TokAt.own (owns_same hr1'.out fun g hg _ => b13.out.block g hg)
      have hBg : Hid (∀ (ln s : Nat), (bgs T T.length)[ln]? = some s → ∃ g, ob = some ⟨g, 0, none⟩ ∧ W3.cell? ⟨g, ln, none⟩ = some (.int .i64 (s : Int))) := fun ln s h => by
        rcases HR.out.row.2 with ⟨h1, h2⟩ | ⟨g, cap', cur, h1, _⟩
        · have := (List.getElem?_eq_some_iff.1 h).1; omega
        · cases h1
          have hl := (List.getElem?_eq_some_iff.1 h).1
          have a0 := HR.out.row.cellAt ln (by omega)
          rw [show (ints (bgs T T.length))[ln]? = some (.int .i64 (s : Int)) by simp [ints, h]] at a0
          exact ⟨g, rfl, a0⟩
      have hbl := bgs_len T T.length
      have hble : Hid (∀ (ln s : Nat), (bgs T T.length)[ln]? = some s → ln < (bgs T T.length).length ∧ s ≤ T.length) := fun ln s h => ⟨(List.getElem?_eq_some_iff.1 h).1, bgs_le (List.mem_of_getElem? h)⟩
      clear HR b12 b13 hTk hr1' A1 B1
      generalize (bgs T T.length).length = mb at *
      go_wp2_with fail
      go_loopw [7, 8] (fun at_ k wr => ∃ (i e q : Nat), k = .int .i64 i ∧ at_ = .int .i64 e ∧ i ≤ toks.length ∧ e ≤ T.length ∧ W3.drewN q = wr ∧ Hid (Plc T e (toks.drop i))) (fun _ k _ => ((toks.length : Int) - intOf k).toNat)
      case atStart => exact ⟨0, 0, 0, rfl, rfl, Nat.zero_le _, Nat.zero_le _, rfl, hP'.out⟩
      case round =>
        obtain ⟨i, e, q, rfl, rfl, hik, heT, rfl, hPl⟩ := hrel
        clear hP'
        by_cases hlt : i < toks.length
        · obtain ⟨t, ht⟩ : ∃ t, toks[i]? = some t := ⟨_, List.getElem?_eq_getElem hlt⟩
          obtain ⟨g, rfl, t0, t1, t2, t3, t4⟩ := hTk3.out i t ht
          have hdr : toks.drop i = t :: toks.drop (i + 1) := by
            obtain ⟨hl, e⟩ := List.getElem?_eq_some_iff.1 ht
            rw [List.drop_eq_getElem_cons hl, e]
          have hPt := hPl.out
          rw [hdr] at hPt
          obtain ⟨s, p, ln, cl, hl1, hc1, hb1, hsp, hep, hpT, htx, hbt, hk4, hnx⟩ := hPt
          obtain ⟨gb, rfl, c0⟩ := hBg.out ln s hb1
          obtain ⟨hlb, hsT⟩ := hble.out ln s hb1
          rw [hl1] at t3
          rw [hc1] at t4
          have x1 : st.extract p (p + t.text.length) = bs t.text := by rw [hext.out, show p + t.text.length - p = t.text.length by omega, htx]
          have hsx := bs_size t.text
          have xe := hext.out e p
          have KE : Hid (∀ W, Calls Try.prog 16 #[.string (bs ((T.drop e).take (p - e)))] W fun e w' => e = .returned (.bool true) ∧ w' = W) := fun W => KB.out _ W (by rw [List.length_take, List.length_drop]; omega) hbt
          have hnx' := hide' hnx
          have h10 : Hid (t.kind = 4 → p < T.length → ∃ h : p < st.size, st[p]'h = 10) := fun h1 h2 => hat.out p 10 (hk4 h1 h2)
          generalize bs ((T.drop e).take (p - e)) = se at *
          generalize bs t.text = sx at *
          generalize t.text.length = tl at *
          generalize t.kind = kd at *
          have y1 : (((ln + 1 : Nat) : Nat) : Int) - 1 = (ln : Int) := by omega
          have y2 : ln + 1 ≤ mb := by omega
          have y3 : 1 ≤ ln + 1 := by omega
          have y4 : (s : Int) + ((cl + 1 : Nat) : Int) = ((p + 1 : Nat) : Int) := by omega
          have y5 : ((p + 1 : Nat) : Int) - 1 = (p : Int) := by omega
          have y6 : 1 ≤ cl + 1 := by omega
          have y7 : cl + 1 ≤ 65537 := by omega
          have y8 : p + 1 ≤ 65537 := by omega
          have y9 : (p : Int) + (tl : Int) = ((p + tl : Nat) : Int) := by omega
          have hbq : (sx.toList == sx.toList) = true := by simp
          clear ht hdr hPl hl1 hc1 hb1 htx hbt hk4 hnx hBg hble hTk3 hext KB hat t2 hsp
          generalize hL1 : ln + 1 = L1 at *
          generalize hC1 : cl + 1 = C1 at *
          generalize hP1 : p + 1 = P1 at *
          generalize hPT : p + tl = PT at *
          have hPT' := hide' hPT
          clear hL1 hC1 hP1 hPT
          go_upto_region 17 with fail
          go_quiet (fail)
          go_upto_region 18 with fail
          have g1 : decide ((p : Int) < (e : Int)) = false := by simp; omega
          have g1' : decide (p < e) = false := by simp; omega
          have g2 : decide ((T.length : Int) < (PT : Int)) = false := by simp; omega
          have g2' : decide (T.length < PT) = false := by simp; omega
          have hpTl : p ≤ T.length := by omega
          have hpPT : p ≤ PT := by have := hPT'.out; omega
          have hw1 : IntKind.i64.wrap ((p : Int) + (tl : Int)) = (PT : Int) := by rw [IntKind.wrap_i64]; have := hPT'.out; omega
          have hw2 : IntKind.i64.wrap (PT : Int) = (PT : Int) := by rw [IntKind.wrap_i64]; omega
          have hS : Hid ((((W3.drewN q).drewN nq).drew).cell? ⟨g, i * 5 + 1, none⟩ = some (.string sx)) := t1
          have hbn : (sx.toList != sx.toList) = false := by simp
          go_region_held3 (fun V => V.cell? ⟨g, i * 5 + 1, none⟩ = some (.string sx)) (first | (assumption) | (exact hS.out)) (first | (go_at_call 16; refine (KE.out _).mono ?_; rintro e w5 ⟨rfl, rfl⟩))
          clear hS KE
          by_cases hk : kd = 4
          · have k4 : (kd == 4) = true := by simpa using hk
            by_cases hp : p < T.length
            · obtain ⟨q2, e2⟩ := h10.out hk hp
              have e10 : (10 : UInt8).toNat = 10 := rfl
              clear hk h10
              go_wp2_with fail
              exact ⟨⟨i + 1, PT, _, by go_num, rfl, by omega, by omega, rfl, hnx'.out⟩, by simp [intOf]; omega⟩
            · clear hk h10
              go_wp2_with fail
              exact ⟨⟨i + 1, PT, _, by go_num, rfl, by omega, by omega, rfl, hnx'.out⟩, by simp [intOf]; omega⟩
          · have k4 : (kd == 4) = false := by simpa using hk
            clear hk h10
            go_wp2_with fail
            exact ⟨⟨i + 1, PT, _, by go_num, rfl, by omega, by omega, rfl, hnx'.out⟩, by simp [intOf]; omega⟩
        · obtain rfl : i = toks.length := by omega
          have hPe := hPl.out
          rw [List.drop_eq_nil_of_le (Nat.le_refl _)] at hPe
          obtain ⟨_, hbe⟩ := hPe
          have xe : st.extract e T.length = bs (T.drop e) := by rw [hext.out, List.take_of_length_le (by simp)]
          have KE : Hid (∀ W, Calls Try.prog 16 #[.string (bs (T.drop e))] W fun e w' => e = .returned (.bool true) ∧ w' = W) := fun W => KB.out _ W (by rw [List.length_drop]; omega) hbe
          generalize bs (T.drop e) = se at *
          clear hPl hBg hble hTk3 hext KB hat hbe
          go_wp2_with fail
          refine (KE.out _).mono ?_
          rintro e6 w5 ⟨rfl, rfl⟩
          go_wp2_with fail
          refine (K5.out _).mono ?_
          rintro e6 w6 ⟨rfl, b6⟩
          have B6 : Hid (Below w.heap.size w w6) := (B3.out.trans ((drew_below W3 q).mono B3.out.size)).trans (b6.mono B3.out.size)
          clear b6
          go_wp2_with fail
          go_ret
          exact ⟨rfl, B6.out⟩
end Go.Proofs.Ytmkiggbpbojiiaa
