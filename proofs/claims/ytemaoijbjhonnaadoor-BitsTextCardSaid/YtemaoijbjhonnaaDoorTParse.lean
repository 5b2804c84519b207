/- Parse: what it answers. -/
import Derived.Test.YtemaoijbjhonnaaDoorTRise
import Derived.Test.YtemaoijbjhonnaaDoorWithFn
import Derived.Deep.AppendLies
import Derived.RangeFuncBox
import Derived.RangeFuncNested
namespace Go.Proofs.YtemaoijbjhonnaaDoor
open Go.RowKit
theorem cellN_at {w : World} {b : Nat} {e : TypeId} {g n cap : Nat} {L : List Nat} (h : w.ownsRow b e 1 (.slice (some ⟨g, 0, none⟩) n cap) n (cellsN L)) {j z : Nat} (hz : L[j]? = some z) : w.cell? ⟨g, j, none⟩ = some (.int .i64 (z : Int)) := by
  have hl : n = L.length := by have := h.1; simp [cellsN] at this; omega
  have hj : j < n * 1 := by have := (List.getElem?_eq_some_iff.1 hz).1; omega
  rw [h.cellAt j hj]
  simp [cellsN, hz]
theorem resP_none {wd : Nat} {T : List UInt8} (h : prs T = none) : resP wd T = (0, 3) := by unfold resP; rw [h]
theorem resP_big {wd : Nat} {T : List UInt8} {L : List Nat} (h : prs T = some L) {n : Nat} (hn : n ∈ L) (hb : wd ≤ n) : resP wd T = (0, 1) := by
  unfold resP; rw [h]
  simp only
  rw [if_neg]
  simp only [List.all_eq_true, decide_eq_true_eq]
  intro hh
  have := hh n hn
  omega
theorem resP_ok {wd : Nat} {T : List UInt8} {L : List Nat} (h : prs T = some L) (hb : ∀ n ∈ L, n < wd) : resP wd T = (orNs L, 0) := by
  unfold resP; rw [h]
  simp only
  rw [if_pos]
  simp only [List.all_eq_true, decide_eq_true_eq]
  exact hb
theorem orNs_take {L : List Nat} {c n : Nat} (h : L[c]? = some n) : orNs (L.take (c + 1)) = orNs (L.take c) ||| 2 ^ n := by
  rw [List.take_add_one, h, Option.toList_some, orNs_snoc]
theorem bxT {W W' : World} {b n : Nat} {t : TypeId} {v : Value} (h : Boxed W b t v) (hb : Below n W W') (hn : b < n) : Boxed W' b t v := (hb.block b hn).trans h
theorem onebit16 (n : Nat) (h : n < 16) : IntKind.u16.wrap (IntKind.u16.wrap 1 * 2 ^ n) = ((2 ^ n : Nat) : Int) ∧ 2 ^ n < 65536 := by
  have h1 : 2 ^ n < 65536 := Nat.lt_of_lt_of_le (Nat.pow_lt_pow_right (by decide) h) (by decide)
  refine ⟨?_, h1⟩
  have h2 : IntKind.u16.wrap 1 = 1 := by decide
  rw [h2, Int.one_mul, show ((2 : Int) ^ n) = ((2 ^ n : Nat) : Int) by simp]
  generalize 2 ^ n = m at *
  simp [IntKind.wrap, IntKind.bits, IntKind.signed]
  omega
set_option maxRecDepth 100000 in
set_option maxHeartbeats 4000000 in
theorem parse16 (T : List UInt8) (hm : T.length ≤ 9223372036854775807) (a : Int) (w : World) :
    Calls Tryd.prog 17 #[.agg #[.int .u16 a], .string (bs T)] w fun e w' => e = .returned (.tuple #[.agg #[.int .u16 (resP 16 T).1], .int .i64 (resP 16 T).2]) ∧ Below w.heap.size w w' := by
  have hbs : Hid (bs T = bs T) := rfl
  cases hpr : prs T with
  | none =>
    have KR : Hid (∀ W, Calls Tryd.prog 35 #[.string (bs T)] W fun e w' => e = .returned (.tuple #[.slice none 0 0, .bool false]) ∧ Below W.heap.size W w') := fun W => (readRise T hm W).mono fun e w' h => by
      rcases h with ⟨_, he, hb⟩ | ⟨L, v, h1, _⟩
      · exact ⟨he, hb⟩
      · rw [hpr] at h1; cases h1
    rw [resP_none hpr]
    clear hm hpr hbs
    generalize bs T = s at *
    go_enter Tryd.func17, Tryd.ntmps17
    go_wp2_with (go_at_call 35; refine (KR.out _).mono ?_; rintro e w3 ⟨rfl, hb⟩; obtain ⟨hc, hf⟩ := bcell hb; have hz := hb.size; simp only [World.size_alloc] at hz; have c1 : w3.cell? ⟨w.heap.size + 1, 0, none⟩ = some (.int .u16 0) := (by rw [hc _ _ (by simp)]; simp); have f1 : w3.frozen? ⟨w.heap.size + 1, 0, none⟩ = false := (by rw [hf _ _ (by simp)]; simp))
    have B1 : Below w.heap.size w w3 := (((Below.refl _ w).alloc (Nat.le_refl _) _).alloc (by simp) _).trans (hb.mono (by simp; omega))
    exact bodyPost_ret (v := .tuple #[.agg #[.int .u16 0], .int .i64 3]) (by simp [results, Tryd.results17, go_sem, c1]) rfl ⟨rfl, B1.setCell (by simp) _⟩
  | some L =>
    have KR : Hid (∀ W, Calls Tryd.prog 35 #[.string (bs T)] W fun e w' => ∃ oa cap, e = .returned (.tuple #[.slice oa L.length cap, .bool true]) ∧ w'.ownsRow W.heap.size 3 1 (.slice oa L.length cap) L.length (cellsN L) ∧ Below W.heap.size W w' ∧ L.length ≤ 1000) := fun W => (readRise T hm W).mono fun e w' h => by
      rcases h with ⟨h1, _⟩ | ⟨L', v, h1, he, hrow, hlen, hb⟩
      · rw [hpr] at h1; cases h1
      · rw [hpr] at h1
        cases h1
        obtain ⟨oa, cap, rfl⟩ := owns_shapeT hrow
        exact ⟨oa, cap, he, hrow, hb, hlen⟩
    have hP : Hid (prs T = some L) := hpr
    generalize hR : resP 16 T = R at *
    have hR1 : Hid (∀ n ∈ L, 16 ≤ n → R = (0, 1)) := fun n hn hb => by rw [← hR]; exact resP_big hP.out hn hb
    have hR2 : Hid ((∀ n ∈ L, n < 16) → R = (orNs L, 0)) := fun h => by rw [← hR]; exact resP_ok hP.out h
    clear hR hP hbs hpr hm
    generalize bs T = s at *
    go_enter Tryd.func17, Tryd.ntmps17
    go_wp2_with (go_at_call 35; refine (KR.out _).mono ?_; rintro e w3 ⟨oa, cap, rfl, hrow, hb, hLl⟩)
    have hz := hb.size
    simp only [World.size_alloc] at hz
    have bR : Hid (Boxed w3 (w.heap.size + 1) 39 (.int .u16 0)) := bxT (by have := Boxed.new (w.alloc (.cells #[.int .u16 a] 39)) 39 (.int .u16 0); simpa using this) hb (by simp)
    have B1 : Hid (Below w.heap.size w w3) := (((Below.refl _ w).alloc (Nat.le_refl _) _).alloc (by simp) _).trans (hb.mono (by simp; omega))
    have hrow' := hideT hrow
    clear hb KR hrow
    go_loopw [24] (fun k wr => ∃ (c x : Nat), c ≤ L.length ∧ k = .int .i64 c ∧ Hid (x = orNs (L.take c)) ∧ Hid (∀ n ∈ L.take c, n < 16) ∧ Boxed wr w3.heap.size 39 (.int .u16 (x : Int)) ∧ Below w3.heap.size w3 wr) (fun k _ => ((L.length : Int) - intOf k).toNat)
    case atStart => exact ⟨0, 0, Nat.zero_le _, rfl, by show _ = _; rfl, fun n hn => by simp at hn, Boxed.new _ _ _, (Below.refl _ w3).alloc (Nat.le_refl _) _⟩
    case round =>
      obtain ⟨c, x, hc, rfl, hx, hlt', bT, hB⟩ := hrel
      have bR2 := bxT bR.out hB (by omega)
      have d1 := bR2.cell
      have g1 := bR2.frozen
      have c8 := bT.cell
      have f8 := bT.frozen
      have hB' := hideT hB
      have hBs := hB.size
      have bT' := hideT bT
      have bR2' := hideT bR2
      have z8 := bT.lt
      by_cases hlt : c < L.length
      · obtain ⟨n, hn⟩ : ∃ n, L[c]? = some n := ⟨_, List.getElem?_eq_getElem hlt⟩
        obtain ⟨g, cap2, e, _, zg⟩ := hrow'.out.form (by omega)
        obtain ⟨rfl, rfl⟩ : oa = some ⟨g, 0, none⟩ ∧ cap = cap2 := by injection e with h1 h2 h3; exact ⟨h1, h3⟩
        have cn : wr.cell? ⟨g, c, none⟩ = some (.int .i64 (n : Int)) := (hB.cell (p := ⟨g, c, none⟩) zg).trans (cellN_at hrow'.out hn)
        have hmem : Hid (n ∈ L) := List.mem_of_getElem? hn
        have hn' := hideT hn
        have hbx : x < 65536 := by rw [hx.out]; exact orNs_lt (wd := 16) hlt'.out
        clear e hB hn bT bR2
        by_cases hw : n < 16
        · obtain ⟨ob1, ob2⟩ := onebit16 n hw
          have KW := hideT (fun W => wiT16 x hbx n hw (2 ^ n) (x ||| 2 ^ n) ob1 ob2 rfl W)
          clear ob1 ob2
          have hx2 : Hid (x ||| 2 ^ n = orNs (L.take (c + 1))) := by show _ = _; rw [orNs_take hn'.out, ← hx.out]
          generalize x ||| 2 ^ n = y at *
          go_wp2_with (go_at_call 40; refine (KW.out _).mono ?_; rintro e w5 ⟨rfl, hb5⟩; have bT5 := hideT ((bxT bT'.out hb5 z8).alloc (.cells #[.int .u16 (y : Int)] 39)); have z5 := hb5.size; have hb5' := hideT hb5; have c85 := bT5.out.cell; have f85 := bT5.out.frozen; clear hb5)
          have hB5 : Below w3.heap.size w3 w5 := hB'.out.trans (hb5'.out.mono hBs)
          refine ⟨⟨c + 1, y, by omega, by go_num, hx2, fun k hk => ?_, bT5.out.set _, (hB5.alloc hB5.size _).setCell (Nat.le_refl _) _⟩, by simp [intOf]; omega⟩
          rw [List.take_add_one, hn'.out, Option.toList_some] at hk
          rcases List.mem_append.1 hk with h | h
          · exact hlt'.out k h
          · rw [List.mem_singleton.1 h]; exact hw
        · have KW := hideT (fun W => wiF16 x (n : Int) (by omega) W)
          have hRR := hR1.out n hmem.out (by omega)
          subst hRR
          go_wp2_with (go_at_call 40; refine (KW.out _).mono ?_; rintro e w5 ⟨rfl, hb5⟩; have bR5 := hideT ((bxT bR2'.out hb5 (by omega)).alloc (.cells #[.int .u16 0] 39)); have z5 := hb5.size; have hb5' := hideT hb5; have c85 := bR5.out.cell; have f85 := bR5.out.frozen; clear hb5)
          have hB5 : Below w3.heap.size w3 w5 := hB'.out.trans (hb5'.out.mono hBs)
          have hB6 : Below w.heap.size w w5 := B1.out.trans (hB5.mono (by omega))
          have cE := (bR5.out.set (.int .u16 0)).cell
          exact bodyPost_ret (v := .tuple #[.agg #[.int .u16 0], .int .i64 1]) (by simp [results, Tryd.results17, go_sem, c85]) rfl ⟨rfl, (hB6.alloc hB6.size _).setCell (by simp) _⟩
      · obtain rfl : c = L.length := by omega
        rw [List.take_length] at hx hlt'
        have hRR := hR2.out hlt'.out
        rw [← hx.out] at hRR
        subst hRR
        clear hB bT bR2
        go_wp2
        exact bodyPost_ret (v := .tuple #[.agg #[.int .u16 (x : Int)], .int .i64 0]) (by simp [results, Tryd.results17, go_sem, d1]) rfl ⟨rfl, (B1.out.trans (hB'.out.mono (by omega))).setCell (by simp) _⟩
theorem onebit64 (n : Nat) (h : n < 64) : IntKind.u64.wrap (IntKind.u64.wrap 1 * 2 ^ n) = ((2 ^ n : Nat) : Int) ∧ 2 ^ n < 18446744073709551616 := by
  have h1 : 2 ^ n < 18446744073709551616 := Nat.lt_of_lt_of_le (Nat.pow_lt_pow_right (by decide) h) (by decide)
  refine ⟨?_, h1⟩
  have h2 : IntKind.u64.wrap 1 = 1 := by decide
  rw [h2, Int.one_mul, show ((2 : Int) ^ n) = ((2 ^ n : Nat) : Int) by simp]
  generalize 2 ^ n = m at *
  simp [IntKind.wrap, IntKind.bits, IntKind.signed]
  omega
set_option maxRecDepth 100000 in
set_option maxHeartbeats 4000000 in
theorem parse64 (T : List UInt8) (hm : T.length ≤ 9223372036854775807) (a : Int) (w : World) :
    Calls Tryd.prog 11 #[.agg #[.int .u64 a], .string (bs T)] w fun e w' => e = .returned (.tuple #[.agg #[.int .u64 (resP 64 T).1], .int .i64 (resP 64 T).2]) ∧ Below w.heap.size w w' := by
  have hbs : Hid (bs T = bs T) := rfl
  cases hpr : prs T with
  | none =>
    have KR : Hid (∀ W, Calls Tryd.prog 35 #[.string (bs T)] W fun e w' => e = .returned (.tuple #[.slice none 0 0, .bool false]) ∧ Below W.heap.size W w') := fun W => (readRise T hm W).mono fun e w' h => by
      rcases h with ⟨_, he, hb⟩ | ⟨L, v, h1, _⟩
      · exact ⟨he, hb⟩
      · rw [hpr] at h1; cases h1
    rw [resP_none hpr]
    clear hm hpr hbs
    generalize bs T = s at *
    go_enter Tryd.func11, Tryd.ntmps11
    go_wp2_with (go_at_call 35; refine (KR.out _).mono ?_; rintro e w3 ⟨rfl, hb⟩; obtain ⟨hc, hf⟩ := bcell hb; have hz := hb.size; simp only [World.size_alloc] at hz; have c1 : w3.cell? ⟨w.heap.size + 1, 0, none⟩ = some (.int .u64 0) := (by rw [hc _ _ (by simp)]; simp); have f1 : w3.frozen? ⟨w.heap.size + 1, 0, none⟩ = false := (by rw [hf _ _ (by simp)]; simp))
    have B1 : Below w.heap.size w w3 := (((Below.refl _ w).alloc (Nat.le_refl _) _).alloc (by simp) _).trans (hb.mono (by simp; omega))
    exact bodyPost_ret (v := .tuple #[.agg #[.int .u64 0], .int .i64 3]) (by simp [results, Tryd.results11, go_sem, c1]) rfl ⟨rfl, B1.setCell (by simp) _⟩
  | some L =>
    have KR : Hid (∀ W, Calls Tryd.prog 35 #[.string (bs T)] W fun e w' => ∃ oa cap, e = .returned (.tuple #[.slice oa L.length cap, .bool true]) ∧ w'.ownsRow W.heap.size 3 1 (.slice oa L.length cap) L.length (cellsN L) ∧ Below W.heap.size W w' ∧ L.length ≤ 1000) := fun W => (readRise T hm W).mono fun e w' h => by
      rcases h with ⟨h1, _⟩ | ⟨L', v, h1, he, hrow, hlen, hb⟩
      · rw [hpr] at h1; cases h1
      · rw [hpr] at h1
        cases h1
        obtain ⟨oa, cap, rfl⟩ := owns_shapeT hrow
        exact ⟨oa, cap, he, hrow, hb, hlen⟩
    have hP : Hid (prs T = some L) := hpr
    generalize hR : resP 64 T = R at *
    have hR1 : Hid (∀ n ∈ L, 64 ≤ n → R = (0, 1)) := fun n hn hb => by rw [← hR]; exact resP_big hP.out hn hb
    have hR2 : Hid ((∀ n ∈ L, n < 64) → R = (orNs L, 0)) := fun h => by rw [← hR]; exact resP_ok hP.out h
    clear hR hP hbs hpr hm
    generalize bs T = s at *
    go_enter Tryd.func11, Tryd.ntmps11
    go_wp2_with (go_at_call 35; refine (KR.out _).mono ?_; rintro e w3 ⟨oa, cap, rfl, hrow, hb, hLl⟩)
    have hz := hb.size
    simp only [World.size_alloc] at hz
    have bR : Hid (Boxed w3 (w.heap.size + 1) 36 (.int .u64 0)) := bxT (by have := Boxed.new (w.alloc (.cells #[.int .u64 a] 36)) 36 (.int .u64 0); simpa using this) hb (by simp)
    have B1 : Hid (Below w.heap.size w w3) := (((Below.refl _ w).alloc (Nat.le_refl _) _).alloc (by simp) _).trans (hb.mono (by simp; omega))
    have hrow' := hideT hrow
    clear hb KR hrow
    go_loopw [24] (fun k wr => ∃ (c x : Nat), c ≤ L.length ∧ k = .int .i64 c ∧ Hid (x = orNs (L.take c)) ∧ Hid (∀ n ∈ L.take c, n < 64) ∧ Boxed wr w3.heap.size 36 (.int .u64 (x : Int)) ∧ Below w3.heap.size w3 wr) (fun k _ => ((L.length : Int) - intOf k).toNat)
    case atStart => exact ⟨0, 0, Nat.zero_le _, rfl, by show _ = _; rfl, fun n hn => by simp at hn, Boxed.new _ _ _, (Below.refl _ w3).alloc (Nat.le_refl _) _⟩
    case round =>
      obtain ⟨c, x, hc, rfl, hx, hlt', bT, hB⟩ := hrel
      have bR2 := bxT bR.out hB (by omega)
      have d1 := bR2.cell
      have g1 := bR2.frozen
      have c8 := bT.cell
      have f8 := bT.frozen
      have hB' := hideT hB
      have hBs := hB.size
      have bT' := hideT bT
      have bR2' := hideT bR2
      have z8 := bT.lt
      by_cases hlt : c < L.length
      · obtain ⟨n, hn⟩ : ∃ n, L[c]? = some n := ⟨_, List.getElem?_eq_getElem hlt⟩
        obtain ⟨g, cap2, e, _, zg⟩ := hrow'.out.form (by omega)
        obtain ⟨rfl, rfl⟩ : oa = some ⟨g, 0, none⟩ ∧ cap = cap2 := by injection e with h1 h2 h3; exact ⟨h1, h3⟩
        have cn : wr.cell? ⟨g, c, none⟩ = some (.int .i64 (n : Int)) := (hB.cell (p := ⟨g, c, none⟩) zg).trans (cellN_at hrow'.out hn)
        have hmem : Hid (n ∈ L) := List.mem_of_getElem? hn
        have hn' := hideT hn
        have hbx : x < 18446744073709551616 := by rw [hx.out]; exact orNs_lt (wd := 64) hlt'.out
        clear e hB hn bT bR2
        by_cases hw : n < 64
        · obtain ⟨ob1, ob2⟩ := onebit64 n hw
          have KW := hideT (fun W => wiT64 x hbx n hw (2 ^ n) (x ||| 2 ^ n) ob1 ob2 rfl W)
          clear ob1 ob2
          have hx2 : Hid (x ||| 2 ^ n = orNs (L.take (c + 1))) := by show _ = _; rw [orNs_take hn'.out, ← hx.out]
          generalize x ||| 2 ^ n = y at *
          go_wp2_with (go_at_call 36; refine (KW.out _).mono ?_; rintro e w5 ⟨rfl, hb5⟩; have bT5 := hideT ((bxT bT'.out hb5 z8).alloc (.cells #[.int .u64 (y : Int)] 36)); have z5 := hb5.size; have hb5' := hideT hb5; have c85 := bT5.out.cell; have f85 := bT5.out.frozen; clear hb5)
          have hB5 : Below w3.heap.size w3 w5 := hB'.out.trans (hb5'.out.mono hBs)
          refine ⟨⟨c + 1, y, by omega, by go_num, hx2, fun k hk => ?_, bT5.out.set _, (hB5.alloc hB5.size _).setCell (Nat.le_refl _) _⟩, by simp [intOf]; omega⟩
          rw [List.take_add_one, hn'.out, Option.toList_some] at hk
          rcases List.mem_append.1 hk with h | h
          · exact hlt'.out k h
          · rw [List.mem_singleton.1 h]; exact hw
        · have KW := hideT (fun W => wiF64 x (n : Int) (by omega) W)
          have hRR := hR1.out n hmem.out (by omega)
          subst hRR
          go_wp2_with (go_at_call 36; refine (KW.out _).mono ?_; rintro e w5 ⟨rfl, hb5⟩; have bR5 := hideT ((bxT bR2'.out hb5 (by omega)).alloc (.cells #[.int .u64 0] 36)); have z5 := hb5.size; have hb5' := hideT hb5; have c85 := bR5.out.cell; have f85 := bR5.out.frozen; clear hb5)
          have hB5 : Below w3.heap.size w3 w5 := hB'.out.trans (hb5'.out.mono hBs)
          have hB6 : Below w.heap.size w w5 := B1.out.trans (hB5.mono (by omega))
          have cE := (bR5.out.set (.int .u64 0)).cell
          exact bodyPost_ret (v := .tuple #[.agg #[.int .u64 0], .int .i64 1]) (by simp [results, Tryd.results11, go_sem, c85]) rfl ⟨rfl, (hB6.alloc hB6.size _).setCell (by simp) _⟩
      · obtain rfl : c = L.length := by omega
        rw [List.take_length] at hx hlt'
        have hRR := hR2.out hlt'.out
        rw [← hx.out] at hRR
        subst hRR
        clear hB bT bR2
        go_wp2
        exact bodyPost_ret (v := .tuple #[.agg #[.int .u64 (x : Int)], .int .i64 0]) (by simp [results, Tryd.results11, go_sem, d1]) rfl ⟨rfl, (B1.out.trans (hB'.out.mono (by omega))).setCell (by simp) _⟩
end Go.Proofs.YtemaoijbjhonnaaDoor
