/- The document's hierarchy in memory; what is asked of it. -/
import Derived.Test.YtegpgjiccpglbaaDoorYRefM
import Derived.Test.YtegpgjiccpglbaaDoorYShr
namespace Go.Proofs.YtegpgjiccpglbaaDoor
open Go.RowKit
/-- The document's hierarchy as it lies. -/
structure RfAt (W : World) (r : Nat) (v : Value) (B : Nat) (D : List (Int × Int)) : Prop where
  bx : W.heap[r]? = some (.cells #[v] 31)
  row : W.ownsRow B 42 2 v D.length (cellsP D)
section
variable {W W' : World} {r B : Nat} {v : Value} {D : List (Int × Int)}
theorem RfAt.lt (h : RfAt W r v B D) : r < W.heap.size := (Array.getElem?_eq_some_iff.1 h.bx).1
theorem RfAt.cell (h : RfAt W r v B D) : W.cell? ⟨r, 0, none⟩ = some v := by simp [World.cell?, h.bx]
theorem RfAt.frz (h : RfAt W r v B D) : W.frozen? ⟨r, 0, none⟩ = false := by simp [World.frozen?, h.bx]
theorem RfAt.over (h : RfAt W r v B D) (hb : Below W.heap.size W W') : RfAt W' r v B D := ⟨(hb.block r h.lt).trans h.bx, owns_over h.row hb⟩
theorem RfAt.shape (h : RfAt W r v B D) : ∃ oa cap, v = .slice oa D.length cap := owns_shape h.row
theorem RfAt.pairs (h : RfAt W r v B D) : PairsAt W v D := PairsAt.of_owns h.row
end
set_option maxHeartbeats 400000 in
theorem placeR (a : Int) (w : World) :
    Calls Tryd.prog 35 #[.int .i64 a] w fun e w' => e = .returned (.bool (okA a)) ∧ w' = w := by
  unfold okA
  by_cases h0 : 0 ≤ a
  · go_enter Tryd.func35, Tryd.ntmps35
    go_wp2
    go_ret
    exact ⟨ret_bool (by simp [h0]), rfl⟩
  · have hd : decide (0 ≤ a) = false := by simpa using h0
    go_enter Tryd.func35, Tryd.ntmps35
    go_wp2
    go_ret
    exact ⟨ret_bool (by simp), rfl⟩
section
variable {w : World} {r B : Nat} {v : Value} {D : List (Int × Int)} {J : Nat → Nat}
theorem mem_take_snoc {D : List (Int × Int)} {c : Nat} {p q : Int × Int} (h : D[c]? = some p) : q ∈ D.take (c + 1) ↔ q ∈ D.take c ∨ q = p := by
  rw [List.take_add_one, h]; simp
set_option maxRecDepth 100000 in
set_option maxHeartbeats 1000000 in
theorem hasR (h : RfAt w r v B D) (hl : D.length ≤ 4096) (x y : Int) :
    Calls Tryd.prog 27 #[.pointer (some ⟨r, 0, none⟩), .int .i64 x, .int .i64 y] w fun e w' => e = .returned (.bool (decide ((x, y) ∈ D))) ∧ w' = w := by
  have hp := h.pairs
  obtain ⟨oa, cap, rfl⟩ := h.shape
  obtain ⟨oa', cap', e, hcap, hrow⟩ := hp
  cases e
  have c0 := h.cell
  have hrow' := hide' hrow
  clear h hrow hcap
  go_enter Tryd.func27, Tryd.ntmps27
  go_wp2
  go_loopw [7] (fun k wr => ∃ c : Nat, k = .int .i64 c ∧ c ≤ D.length ∧ Hid (¬ (x, y) ∈ D.take c) ∧ wr = w) (fun k _ => ((D.length : Int) - intOf k).toNat)
  case atStart => exact ⟨0, rfl, by omega, by show ¬ _; simp, rfl⟩
  case round =>
    obtain ⟨c, rfl, hc, hn, rfl⟩ := hrel
    by_cases hlt : c < D.length
    · obtain ⟨p, hp⟩ : ∃ p, D[c]? = some p := ⟨_, List.getElem?_eq_getElem hlt⟩
      obtain ⟨g, o, rfl, c1, c2⟩ := hrow'.out c p hp
      have hms := hide' (mem_take_snoc (q := (x, y)) hp)
      have hpm := hide' (List.mem_of_getElem? hp)
      clear hp hrow'
      obtain ⟨px, py⟩ := p
      simp only [] at c1 c2
      by_cases e1 : px = x
      · have f1 : (px == x) = true := by simpa using e1
        by_cases e2 : py = y
        · have f2 : (py == y) = true := by simpa using e2
          have hin : Hid ((x, y) ∈ D) := by rw [← e1, ← e2]; exact hpm.out
          clear e1 e2 hms
          go_wp2
          go_ret
          exact ⟨ret_bool (by simpa using hin.out), rfl⟩
        · have f2 : (py == y) = false := by simpa using e2
          have hn2 : Hid (¬ (x, y) ∈ D.take (c + 1)) := fun hh => by
            rcases hms.out.1 hh with hh | hh
            · exact hn.out hh
            · cases hh; exact e2 rfl
          clear e1 e2 hms
          go_wp2
          exact ⟨⟨c + 1, by go_num, by omega, hn2, by trivial⟩, by simp [intOf]; omega⟩
      · have f1 : (px == x) = false := by simpa using e1
        have hn2 : Hid (¬ (x, y) ∈ D.take (c + 1)) := fun hh => by
          rcases hms.out.1 hh with hh | hh
          · exact hn.out hh
          · cases hh; exact e1 rfl
        clear e1 hms
        go_wp2
        exact ⟨⟨c + 1, by go_num, by omega, hn2, by trivial⟩, by simp [intOf]; omega⟩
    · obtain rfl : c = D.length := by omega
      rw [List.take_length] at hn
      go_wp2
      go_ret
      exact ⟨ret_bool (by simpa using hn.out), rfl⟩
/-- Below under way, one pass: w0 at its start, w now, t: was there any? -/
structure BlI (J : Nat → Nat) (D : List (Int × Int)) (a w0 w c : Nat) (t : Bool) : Prop where
  lt : w < 18446744073709551616
  self : w.testBit a = true
  inn : ∀ b, w.testBit b = true → Rc J a b
  same : t = false → w = w0 ∧ closedD (D.take c) w
  grew : t = true → w0 < w
  ge : w0 ≤ w
theorem BlI.start {J : Nat → Nat} {D : List (Int × Int)} {a w0 : Nat} (h1 : w0 < 18446744073709551616) (h2 : w0.testBit a = true) (h3 : ∀ b, w0.testBit b = true → Rc J a b) : BlI J D a w0 w0 0 false :=
  ⟨h1, h2, h3, fun _ => ⟨rfl, fun p hp => by simp at hp⟩, fun h => (by cases h), Nat.le_refl _⟩
theorem BlI.skip {J : Nat → Nat} {D : List (Int × Int)} {a w0 w c : Nat} {t : Bool} {p : Int × Int} (h : BlI J D a w0 w c t) (hp : D[c]? = some p) (hs : w.testBit p.1.toNat = true → w.testBit p.2.toNat = true) : BlI J D a w0 w (c + 1) t :=
  ⟨h.lt, h.self, h.inn, fun e => ⟨(h.same e).1, fun q hq => by
    rcases (mem_take_snoc hp).1 hq with hq | rfl
    · exact (h.same e).2 q hq
    · exact hs⟩, h.grew, h.ge⟩
theorem or_grow {w y : Nat} (h : w.testBit y = false) : w < w ||| 2 ^ y := by
  have h1 : w ≤ w ||| 2 ^ y := Nat.left_le_or
  rcases Nat.lt_or_ge w (w ||| 2 ^ y) with h2 | h2
  · exact h2
  · have e : w ||| 2 ^ y = w := Nat.le_antisymm h2 h1
    have := congrArg (Nat.testBit · y) e
    simp [h] at this
theorem BlI.add {J : Nat → Nat} {D : List (Int × Int)} {a w0 w c : Nat} {t : Bool} {x y : Nat} (h : BlI J D a w0 w c t) (hE : E J x y) (hy : y < 64) (hx : w.testBit x = true) (hn : w.testBit y = false) : BlI J D a w0 (w ||| 2 ^ y) (c + 1) true := by
  have hg := or_grow hn
  refine ⟨Nat.or_lt_two_pow (n := 64) h.lt (pow_lt64 hy), by rw [Nat.testBit_or, h.self]; rfl, fun b hb => ?_, fun e => (by cases e), fun _ => by have := h.ge; omega, by have := h.ge; omega⟩
  rw [Nat.testBit_or, Bool.or_eq_true, one_bit] at hb
  rcases hb with hb | rfl
  · exact h.inn b hb
  · exact (h.inn x hx).snoc hE
/-- One for true. -/
def t01 (v : Value) : Nat := match v with
  | .bool true => 1
  | _ => 0
set_option maxRecDepth 100000 in
set_option maxHeartbeats 2000000 in
theorem belR (h : RfAt w r v B D) (hw : Wf J) (hy : Acy J) (hs : Sm J D) (x : Int) :
    Calls Tryd.prog 23 #[.pointer (some ⟨r, 0, none⟩), .int .i64 x] w fun e w' => e = .returned (.int .u64 (belI J x : Int)) ∧ w' = w := by
  cases hx : okA x with
  | false =>
    have e : belI J x = 0 := by simp [belI, hx]
    rw [e]
    go_enter Tryd.func23, Tryd.ntmps23
    go_wp2_with (go_at_call 35; refine (placeR _ _).mono ?_; rintro e w1 ⟨rfl, rfl⟩)
    go_ret
    exact ⟨rfl, rfl⟩
  | true =>
    have e : belI J x = bel J x.toNat := by simp [belI, hx]
    obtain ⟨a, ha, rfl⟩ := okA_nat hx
    rw [Int.toNat_natCast] at e
    rw [e]
    clear e
    have hl := hs.len
    have hp := h.pairs
    obtain ⟨oa, cap, rfl⟩ := h.shape
    obtain ⟨oa', cap', e, hcap, hrow⟩ := hp
    cases e
    have c0 := h.cell
    have hrow' := hide' hrow
    have hlk := hide' (fun p (hp : p ∈ D) => hs.link hw hp)
    have hfin := hide' (fun z (h1 : z.testBit a = true) (h2 : closedD D z) (h3 : ∀ b, z.testBit b = true → Rc J a b) => closed_bel hw hy hs ha h1 h2 h3)
    have hwf := hide' hw
    have hst : Hid (BlI J D a (2 ^ a) (2 ^ a) 0 false) := BlI.start (pow_lt64 ha) ((one_bit a a).2 rfl) (fun b hb => by rw [one_bit] at hb; subst hb; exact .refl _ _)
    have hsh := shlc a ha
    clear h hrow hcap hs hw hy
    generalize (2 ^ a : Nat) = p0 at *
    go_enter Tryd.func23, Tryd.ntmps23
    go_wp2_with (go_at_call 35; refine (placeR _ _).mono ?_; rintro e w1 ⟨rfl, hw1⟩; have hw2 := hw1.symm; subst hw2; clear hw1)
    go_loopw [5, 6, 7] (fun s t k wr => ∃ (z : Nat) (tb : Bool), s = .int .u64 z ∧ t = .bool tb ∧ Hid ((tb = true → BlI J D a z z 0 false) ∧ (tb = false → z = bel J a) ∧ z < 18446744073709551616) ∧ wr = w) (fun s t _ _ => 2 * (18446744073709551616 - (intOf s).toNat) + t01 t)
    case atStart => exact ⟨p0, true, rfl, rfl, ⟨fun _ => hst.out, fun e => (by cases e), hst.out.lt⟩, rfl⟩
    case round =>
      clear hst hsh
      obtain ⟨z, tb, rfl, rfl, hI, rfl⟩ := hrel
      cases tb with
      | false =>
        have he := hI.out.2.1 rfl
        have he' := hide' he
        clear he hI
        go_wp2
        go_ret
        exact ⟨by show Ending.returned (Value.int .u64 (z : Int)) = _; rw [he'.out], rfl⟩
      | true =>
        have hI0 := hide' (hI.out.1 rfl)
        have hzl := hI.out.2.2
        clear hI
        go_wp2
        go_loopw [5, 6, 7] (fun s t k wv => ∃ (c y : Nat) (tb : Bool), k = .int .i64 c ∧ c ≤ D.length ∧ s = .int .u64 y ∧ t = .bool tb ∧ Hid (BlI J D a z y c tb) ∧ wv = wr) (fun _ _ k _ => ((D.length : Int) - intOf k).toNat)
        case atStart => exact ⟨0, z, false, rfl, by omega, rfl, rfl, hI0, rfl⟩
        case round =>
          clear hI0
          obtain ⟨c, y, tb, rfl, hc, rfl, rfl, hI, rfl⟩ := hrel
          by_cases hlt : c < D.length
          · obtain ⟨p, hp⟩ : ∃ p, D[c]? = some p := ⟨_, List.getElem?_eq_getElem hlt⟩
            obtain ⟨x1, y1, hE, rfl⟩ := hlk.out p (List.mem_of_getElem? hp)
            obtain ⟨g, o, rfl, c1, c2⟩ := hrow'.out c _ hp
            have hx1 := hE.1
            have hy1 := hE.lt hwf.out
            have hyl := hI.out.lt
            have g1 : (x1 : Int) < 64 := by omega
            have g2 : (0 : Int) ≤ (x1 : Int) := by omega
            have g3 : (y1 : Int) < 64 := by omega
            have g4 : (0 : Int) ≤ (y1 : Int) := by omega
            simp only [] at c1 c2
            cases tx : y.testBit x1 with
            | false =>
              have f1 := shr_bitF hyl tx
              have hI2 := hide' (hI.out.skip hp (by simp [tx]))
              clear hp hE hlk hfin hwf hI tx hrow'
              as_aux_lemma =>
              go_wp2
              exact ⟨⟨c + 1, y, tb, by go_num, by omega, rfl, rfl, hI2, by trivial⟩, by simp [intOf]; omega⟩
            | true =>
              have f1 := shr_bitT hyl tx
              cases ty : y.testBit y1 with
              | true =>
                have f2 := shr_bitT hyl ty
                have hI2 := hide' (hI.out.skip hp (by simp [ty]))
                clear hp hE hlk hfin hwf hI tx ty hrow'
                as_aux_lemma =>
                go_wp2
                exact ⟨⟨c + 1, y, tb, by go_num, by omega, rfl, rfl, hI2, by trivial⟩, by simp [intOf]; omega⟩
              | false =>
                have f2 := shr_bitF hyl ty
                have hI2 := hide' (hI.out.add hE hy1 tx ty)
                have hsy := shlc y1 hy1
                have hor := u64_or_nat y _ hyl (pow_lt64 hy1)
                clear hp hE hlk hfin hwf hI tx ty hrow'
                generalize y ||| 2 ^ y1 = yo at *
                generalize (2 ^ y1 : Nat) = py at *
                as_aux_lemma =>
                go_wp2
                exact ⟨⟨c + 1, yo, true, by go_num, by omega, rfl, rfl, hI2, by trivial⟩, by simp [intOf]; omega⟩
          · obtain rfl : c = D.length := by omega
            have hI3 : Hid ((tb = true → BlI J D a y y 0 false) ∧ (tb = false → y = bel J a) ∧ y < 18446744073709551616) := by
              refine ⟨fun _ => BlI.start hI.out.lt hI.out.self hI.out.inn, fun e => ?_, hI.out.lt⟩
              have := (hI.out.same e).2
              rw [List.take_length] at this
              exact hfin.out y hI.out.self this hI.out.inn
            have hms : Hid (2 * (18446744073709551616 - y) + t01 (.bool tb) < 2 * (18446744073709551616 - z) + 1) := by
              show _ < _
              have h1 := hI.out.ge
              have h2 := hI.out.lt
              cases tb with
              | true => have := hI.out.grew rfl; show _ + 1 < _; omega
              | false => show _ + 0 < _; omega
            clear hI
            go_wp2
            exact ⟨⟨y, tb, rfl, rfl, hI3, by trivial⟩, by simpa [intOf, t01] using hms.out⟩
set_option maxRecDepth 100000 in
set_option maxHeartbeats 1000000 in
theorem abvR (h : RfAt w r v B D) (hw : Wf J) (hy : Acy J) (hs : Sm J D) (x : Int) :
    Calls Tryd.prog 24 #[.pointer (some ⟨r, 0, none⟩), .int .i64 x] w fun e w' => e = .returned (.int .u64 (abvI J x : Int)) ∧ w' = w := by
  cases hx : okA x with
  | false =>
    have e : abvI J x = 0 := by simp [abvI, hx]
    rw [e]
    go_enter Tryd.func24, Tryd.ntmps24
    go_wp2
    go_loopw [5, 6] (fun s k wr => s = .int .u64 0 ∧ k = .int .i64 0 ∧ wr = w) (fun _ k _ => (64 - intOf k).toNat)
    case atStart => exact ⟨rfl, rfl, rfl⟩
    case round =>
      obtain ⟨rfl, rfl, rfl⟩ := hrel
      go_wp2_with (go_at_call 35; refine (placeR _ _).mono ?_; rintro e w1 ⟨rfl, hw1⟩; have hw2 := hw1.symm; subst hw2; clear hw1)
      go_ret
      exact ⟨rfl, rfl⟩
  | true =>
    have e : abvI J x = abv J x.toNat := by simp [abvI, hx]
    obtain ⟨i, hi, rfl⟩ := okA_nat hx
    rw [Int.toNat_natCast] at e
    rw [e]
    clear e
    have hB : Hid (∀ c : Nat, c < 64 → Calls Tryd.prog 23 #[.pointer (some ⟨r, 0, none⟩), .int .i64 (c : Int)] w fun e w' => e = .returned (.int .u64 (bel J c : Int)) ∧ w' = w) := fun c hc => by
      have := belR h hw hy hs (c : Int)
      rwa [show belI J (c : Int) = bel J c by simp [belI, okA_of hc]] at this
    have hwf := hide' hw
    clear h hs hy hw
    have g1 : (i : Int) < 64 := by omega
    have g2 : (0 : Int) ≤ (i : Int) := by omega
    go_enter Tryd.func24, Tryd.ntmps24
    go_wp2
    go_loopw [5, 6] (fun a k wr => ∃ c : Nat, c ≤ 64 ∧ k = .int .i64 c ∧ a = .int .u64 (abvN J i c : Int) ∧ wr = w) (fun _ k _ => (64 - intOf k).toNat)
    case atStart => exact ⟨0, by omega, rfl, rfl, rfl⟩
    case round =>
      obtain ⟨c, hc, rfl, rfl, rfl⟩ := hrel
      by_cases hlt : c < 64
      · have KB := hide' (hB.out c hlt)
        have ho := u64_or_nat (abvN J i c) (2 ^ c) (abvN_lt J i c hc) (pow_lt64 hlt)
        have hn : Hid (abvN J i (c + 1) = if (bel J c).testBit i then abvN J i c ||| 2 ^ c else abvN J i c) := rfl
        have hsh := shlc c hlt
        have hbl := bel_lt hwf.out hlt
        clear hB hwf
        cases ht : (bel J c).testBit i with
        | true =>
          rw [ht, if_pos rfl] at hn
          have f1 := shr_bitT hbl ht
          clear ht
          generalize (2 ^ c : Nat) = p at *
          generalize abvN J i c = a1 at *
          generalize hz : a1 ||| p = z at *
          clear hz
          generalize bel J c = q at *
          go_wp2_with (first | (go_at_call 35; refine (placeR _ _).mono ?_; rintro e w1 ⟨rfl, hw1⟩; have hw2 := hw1.symm; subst hw2; clear hw1) | (go_at_call 23; refine KB.out.mono ?_; rintro e w1 ⟨rfl, hw1⟩; have hw2 := hw1.symm; subst hw2; clear hw1))
          exact ⟨⟨c + 1, by omega, by go_num, by rw [hn.out], by trivial⟩, by simp [intOf]; omega⟩
        | false =>
          rw [ht, if_neg (by simp)] at hn
          have f1 := shr_bitF hbl ht
          clear ht ho
          generalize abvN J i c = a1 at *
          generalize bel J c = q at *
          go_wp2_with (first | (go_at_call 35; refine (placeR _ _).mono ?_; rintro e w1 ⟨rfl, hw1⟩; have hw2 := hw1.symm; subst hw2; clear hw1) | (go_at_call 23; refine KB.out.mono ?_; rintro e w1 ⟨rfl, hw1⟩; have hw2 := hw1.symm; subst hw2; clear hw1))
          exact ⟨⟨c + 1, by omega, by go_num, by rw [hn.out], by trivial⟩, by simp [intOf]; omega⟩
      · obtain rfl : c = 64 := by omega
        have he : abvN J i 64 = abv J i := rfl
        go_wp2
        go_ret
        exact ⟨rfl, rfl⟩
set_option maxRecDepth 100000 in
set_option maxHeartbeats 1000000 in
theorem sprRR (h : RfAt w r v B D) (hw : Wf J) (hy : Acy J) (hs : Sm J D) (s : Nat) (hsl : s < 18446744073709551616) :
    Calls Tryd.prog 25 #[.pointer (some ⟨r, 0, none⟩), .int .u64 s] w fun e w' => e = .returned (.int .u64 (spr J s : Int)) ∧ w' = w := by
  have hB : Hid (∀ c : Nat, c < 64 → Calls Tryd.prog 23 #[.pointer (some ⟨r, 0, none⟩), .int .i64 (c : Int)] w fun e w' => e = .returned (.int .u64 (bel J c : Int)) ∧ w' = w) := fun c hc => by
    have := belR h hw hy hs (c : Int)
    rwa [show belI J (c : Int) = bel J c by simp [belI, okA_of hc]] at this
  have hwf := hide' hw
  have hall := hide' (sprR_all hw hy hsl)
  clear h hs hy hw
  go_enter Tryd.func25, Tryd.ntmps25
  go_wp2
  go_loopw [5, 6] (fun a k wr => ∃ c : Nat, c ≤ 64 ∧ k = .int .i64 c ∧ a = .int .u64 (sprR J s c : Int) ∧ wr = w) (fun _ k _ => (64 - intOf k).toNat)
  case atStart => exact ⟨0, by omega, rfl, rfl, rfl⟩
  case round =>
    obtain ⟨c, hc, rfl, rfl, rfl⟩ := hrel
    by_cases hlt : c < 64
    · have KB := hide' (hB.out c hlt)
      have ho := u64_or_nat (sprR J s c) (bel J c) (sprR_lt hwf.out s c hc) (bel_lt hwf.out hlt)
      have hn : Hid (sprR J s (c + 1) = if s.testBit c then sprR J s c ||| bel J c else sprR J s c) := rfl
      clear hB hwf hall
      have g1 : (c : Int) < 64 := by omega
      cases ht : s.testBit c with
      | true =>
        rw [ht, if_pos rfl] at hn
        have f1 := shr_bitT hsl ht
        clear ht
        generalize sprR J s c = a1 at *
        generalize bel J c = q at *
        generalize hz : a1 ||| q = z at *
        clear hz
        go_wp2_with (go_at_call 23; refine KB.out.mono ?_; rintro e w1 ⟨rfl, hw1⟩; have hw2 := hw1.symm; subst hw2; clear hw1)
        exact ⟨⟨c + 1, by omega, by go_num, by rw [hn.out], by trivial⟩, by simp [intOf]; omega⟩
      | false =>
        rw [ht, if_neg (by simp)] at hn
        have f1 := shr_bitF hsl ht
        clear ht ho
        generalize sprR J s c = a1 at *
        go_wp2
        exact ⟨⟨c + 1, by omega, by go_num, by rw [hn.out], by trivial⟩, by simp [intOf]; omega⟩
    · obtain rfl : c = 64 := by omega
      go_wp2
      go_ret
      exact ⟨by show Ending.returned (Value.int .u64 (sprR J s 64 : Int)) = _; rw [hall.out], rfl⟩
end
end Go.Proofs.YtegpgjiccpglbaaDoor
