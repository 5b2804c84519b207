/- A problem in a box beside a solver. -/
import Derived.Test.YtmbdnhgmpmnhmaaDoorJ09
import Derived.Test.YtmbdnhgmpmnhmaaDoorJ26
import Derived.Test.YtmbdnhgmpmnhmaaDoorJ28
namespace Go.Proofs.YtmbdnhgmpmnhmaaDoor.S
open Go.RowKit Go.Shelf
/-- What stands between the rounds: V is the world at weakWith's start, its boxes the two behind it. -/
structure Wl (V0 : World) (gs : Nat) (P : Pb) (wv fv rv dv : Value) (D : List Nat) (a b c x : Nat) (V : World) (k : Nat) (dv' : Value) (D' : List Nat) (a' b' c' : Nat) (W : World) : Prop where
  t : Tr V0 gs P wv fv rv dv' D' a' b' c' W
  le : a' ≤ a + k * 4000000000000 ∧ b' ≤ b + k * 4000000000000 ∧ c' ≤ c + k * 4000000000000 ∧ D'.length ≤ D.length + k
  sz : V.heap.size + 2 ≤ W.heap.size
  fr : ∀ g, g < V.heap.size → g ≠ V0.heap.size → g ≠ gs → dv.ownBlock ≠ some g → W.heap[g]? = V.heap[g]?
  ob : ∀ g, dv'.ownBlock = some g → (dv.ownBlock = some g ∧ g < V.heap.size) ∨ V.heap.size + 2 ≤ g
  bx : Bo W V.heap.size (.int .u64 (x : Int))
  br : Bo W (V.heap.size + 1) (.int .u64 0)
  lo : V0.heap.size < V.heap.size ∧ gs < V.heap.size
section
variable {V0 : World} {gs : Nat} {P : Pb} {wv fv rv dv dv' : Value} {D D' : List Nat} {a b c a' b' c' x k : Nat} {V W W' : World}
theorem Wl.start (h : Tr V0 gs P wv fv rv dv D a b c V) (x : Nat) : Wl V0 gs P wv fv rv dv D a b c x V 0 dv D a b c ((V.alloc (.cells #[.int .u64 (x : Int)] 54)).alloc (.cells #[.int .u64 0] 54)) := by
  have hB : Below V.heap.size V ((V.alloc (.cells #[.int .u64 (x : Int)] 54)).alloc (.cells #[.int .u64 0] 54)) := ((Below.refl _ V).alloc (Nat.le_refl _) _).alloc (by rw [World.size_alloc]; omega) _
  have hgl := h.gl
  have hgV : V0.heap.size < V.heap.size := h.tb.lt
  refine ⟨h.over hB, ⟨by omega, by omega, by omega, by omega⟩, by rw [World.size_alloc, World.size_alloc]; omega, fun g h1 _ _ _ => hB.block g h1, fun g e => .inl ⟨e, own_lt' h.dr e⟩, (Bo.new V _ _).over ((Below.refl _ _).alloc (Nat.le_refl _) _), ?_, hgV, by omega⟩
  have := Bo.new (V.alloc (.cells #[.int .u64 (x : Int)] 54)) (.int .u64 0) 54
  rwa [World.size_alloc] at this
theorem Wl.over (h : Wl V0 gs P wv fv rv dv D a b c x V k dv' D' a' b' c' W) (hb : Below W.heap.size W W') : Wl V0 gs P wv fv rv dv D a b c x V k dv' D' a' b' c' W' := by
  have hs := h.sz
  exact ⟨h.t.over hb, h.le, Nat.le_trans hs hb.size, fun g h1 h2 h3 h4 => (hb.block g (by omega)).trans (h.fr g h1 h2 h3 h4), h.ob, h.bx.over hb, h.br.over hb, h.lo⟩
/-- What a call of weakWith leaves. -/
theorem Wl.call (h : Wl V0 gs P wv fv rv dv D a b c x V k dv' D' a' b' c' W) {q : Nat} {r : Option Nat} {e : Ending} (hc : WkP V0 gs P wv fv rv dv' D' a' b' c' q r W e W') : e = .returned (.tuple #[.agg #[.int .u64 ((r.getD 0 : Nat) : Int)], .bool r.isSome]) ∧ (∃ dv2 D2 a2 b2 c2, Hid (Wl V0 gs P wv fv rv dv D a b c x V (k + q) dv2 D2 a2 b2 c2 W') ∧ Hid (∀ g, dv2.ownBlock = some g → dv'.ownBlock = some g ∨ W.heap.size ≤ g)) ∧ Hid (∀ g v, Bo W g v → g ≠ V0.heap.size → V.heap.size ≤ g → dv'.ownBlock ≠ some g → Bo W' g v) := by
  obtain ⟨rfl, dv2, D2, a2, b2, c2, h1, h2, h3⟩ := hc
  obtain ⟨h4, h5, h6⟩ := h3.out
  obtain ⟨l1, l2⟩ := h.lo
  have hs := h.sz
  have ho : ∀ g, V.heap.size ≤ g → g < V.heap.size + 2 → dv'.ownBlock ≠ some g := fun g q1 q2 e => by
    rcases h.ob g e with e | e <;> omega
  refine ⟨rfl, ⟨dv2, D2, a2, b2, c2, ⟨h1.out, ?_, Nat.le_trans hs h4, fun g q1 q2 q3 q4 => ?_, fun g e => ?_, h.bx.of (h5 _ (by omega) (by omega) (by omega) (ho _ (by omega) (by omega))), h.br.of (h5 _ (by omega) (by omega) (by omega) (ho _ (by omega) (by omega))), h.lo⟩, h6⟩, fun g v hb q1 q2 q3 => hb.of (h5 g hb.lt q1 (by omega) q3)⟩
  · obtain ⟨e1, e2, e3, e4⟩ := h.le
    obtain ⟨d1, d2, d3, d4⟩ := h2.out
    refine ⟨by omega, by omega, by omega, by omega⟩
  · refine (h5 g (by omega) q2 q3 fun e => ?_).trans (h.fr g q1 q2 q3 q4)
    rcases h.ob g e with e | e
    · exact q4 e.1
    · omega
  · rcases h6 g e with e | e
    · exact h.ob g e
    · exact .inr (by omega)
/-- A box of one's own is written. -/
theorem Wl.box (h : Wl V0 gs P wv fv rv dv D a b c x V k dv' D' a' b' c' W) {g : Nat} (h1 : V.heap.size + 2 ≤ g) (h2 : dv'.ownBlock ≠ some g) (u : Value) : Wl V0 gs P wv fv rv dv D a b c x V k dv' D' a' b' c' (W.setCell ⟨g, 0, none⟩ u) := by
  obtain ⟨l1, l2⟩ := h.lo
  have hs : ∀ y, y ≠ g → (W.setCell ⟨g, 0, none⟩ u).heap[y]? = W.heap[y]? := fun y e => Below.heap_setCell _ _ _ _ e
  have hzz : (W.setCell ⟨g, 0, none⟩ u).heap.size = W.heap.size := by simp [World.setCell]
  exact ⟨⟨h.t.tb.of (hs _ (by omega)), h.t.p0, h.t.g0, h.t.t0, ⟨h.t.fr.os, h.t.fr.tape, h.t.fr.output, by rw [hzz]; exact h.t.fr.size, fun y q1 q2 q3 => (hs y (by omega)).trans (h.t.fr.block y q1 q2 q3)⟩, World.rowIs.of_block h.t.gg (hs _ (by omega)), own_same h.t.dr fun y q1 q2 => hs y (fun e => h2 (e ▸ q2)), h.t.inv, h.t.hG, h.t.nwv⟩, h.le, by rw [hzz]; exact h.sz, fun y q1 q2 q3 q4 => (hs y (by omega)).trans (h.fr y q1 q2 q3 q4), h.ob, h.bx.of (hs _ (by omega)), h.br.of (hs _ (by omega)), h.lo⟩
set_option maxRecDepth 100000 in
/-- The answer is written: what weakWith leaves. -/
theorem Wl.fin (h : Wl V0 gs P wv fv rv dv D a b c x V k dv' D' a' b' c' W) {m : Nat} (hk : k ≤ m) (u : Value) : ∃ dv' D' a' b' c', Hid (Tr V0 gs P wv fv rv dv' D' a' b' c' (W.setCell ⟨V.heap.size + 1, 0, none⟩ u)) ∧ Hid (a' ≤ a + m * 4000000000000 ∧ b' ≤ b + m * 4000000000000 ∧ c' ≤ c + m * 4000000000000 ∧ D'.length ≤ D.length + m) ∧ Hid (V.heap.size ≤ (W.setCell ⟨V.heap.size + 1, 0, none⟩ u).heap.size ∧ (∀ g, g < V.heap.size → g ≠ V0.heap.size → g ≠ gs → dv.ownBlock ≠ some g → (W.setCell ⟨V.heap.size + 1, 0, none⟩ u).heap[g]? = V.heap[g]?) ∧ (∀ g, dv'.ownBlock = some g → dv.ownBlock = some g ∨ V.heap.size ≤ g)) := by
  obtain ⟨l1, l2⟩ := h.lo
  obtain ⟨e1, e2, e3, e4⟩ := h.le
  have hsz := h.sz
  have hmk : k * 4000000000000 ≤ m * 4000000000000 := Nat.mul_le_mul_right _ hk
  have hs : ∀ y, y ≠ V.heap.size + 1 → (W.setCell ⟨V.heap.size + 1, 0, none⟩ u).heap[y]? = W.heap[y]? := fun y e => Below.heap_setCell _ _ _ _ e
  have hzz : (W.setCell ⟨V.heap.size + 1, 0, none⟩ u).heap.size = W.heap.size := by simp [World.setCell]
  refine ⟨dv', D', a', b', c', ⟨h.t.tb.of (hs _ (by omega)), h.t.p0, h.t.g0, h.t.t0, ⟨h.t.fr.os, h.t.fr.tape, h.t.fr.output, by rw [hzz]; exact h.t.fr.size, fun y q1 q2 q3 => (hs y (by omega)).trans (h.t.fr.block y q1 q2 q3)⟩, World.rowIs.of_block h.t.gg (hs _ (by omega)), own_same h.t.dr fun y q1 q2 => hs y (fun e => ?_), h.t.inv, h.t.hG, h.t.nwv⟩, ⟨Nat.le_trans e1 (Nat.add_le_add_left hmk _), Nat.le_trans e2 (Nat.add_le_add_left hmk _), Nat.le_trans e3 (Nat.add_le_add_left hmk _), Nat.le_trans e4 (Nat.add_le_add_left hk _)⟩, ⟨by rw [hzz]; omega, fun y q1 q2 q3 q4 => (hs y (by omega)).trans (h.fr y q1 q2 q3 q4), fun g e => ?_⟩⟩
  · rw [e] at q2
    rcases h.ob _ q2 with q | q <;> omega
  · rcases h.ob g e with q | q
    · exact .inl q.1
    · exact .inr (by omega)
theorem Wl.ne (h : Wl V0 gs P wv fv rv dv D a b c x V k dv' D' a' b' c' W) : dv'.ownBlock ≠ some W.heap.size := fun e => Nat.lt_irrefl _ (own_lt' h.t.dr e)
end
set_option maxRecDepth 100000 in
set_option maxHeartbeats 8000000 in
theorem wekSF (V0 : World) (gs : Nat) (P : Pb) (wv fv rv : Value) (_ : Pok P) (hC : chkN P = 0) (m q : Nat) (hm : m ≤ 10)
    (IH : ∀ (dv : Value) (D : List Nat) (a b c x f : Nat) (V : World) (zf zm : Int), Tr V0 gs P wv fv rv dv D a b c V → x < 18446744073709551616 → f ≤ 64 → zf = f → zm = m → D.length + q ≤ 1000000 → a + q * 4000000000000 ≤ 1152921504606846976 → b + q * 4000000000000 ≤ 1152921504606846976 → c + q * 4000000000000 ≤ 1152921504606846976 →
      Calls Tryd.prog 35 #[.pointer (some ⟨V0.heap.size, 0, none⟩), .agg #[.int .u64 (x : Int)], .int .i64 zf, .int .i64 zm] V (WkP V0 gs P wv fv rv dv D a b c q (wekP P m x f) V))
    (dv : Value) (D : List Nat) (a b c x f : Nat) (V : World) (h : Tr V0 gs P wv fv rv dv D a b c V) (hx : x < 18446744073709551616) (hf : f ≤ 64) (hD : D.length + 64 * q ≤ 1000000) (ha : a + 64 * q * 4000000000000 ≤ 1152921504606846976) (hb : b + 64 * q * 4000000000000 ≤ 1152921504606846976) (hc : c + 64 * q * 4000000000000 ≤ 1152921504606846976) :
    Calls Tryd.prog 35 #[.pointer (some ⟨V0.heap.size, 0, none⟩), .agg #[.int .u64 (x : Int)], .int .i64 (f : Int), .int .i64 ((m : Int) + 1)] V (WkP V0 gs P wv fv rv dv D a b c (64 * q) (wekP P (m + 1) x f) V) := by
  obtain ⟨g12, g0, g64, g32, gF, gW, gR⟩ := chkN_zero hC
  clear g12 g32 gF gW gR hC
  obtain ⟨U, hU⟩ : ∃ U : Nat, P.users = (U : Int) := ⟨P.users.toNat, by omega⟩
  have hU64 : U ≤ 64 := by omega
  have hUt : P.users.toNat = U := by omega
  have hW0 := hide' (Wl.start h x)
  have c0 := hW0.out.t.tb.c0
  have hnone : Hid ((∀ i, f + i < U → wekP P m (x ||| 2 ^ (f + i)) (f + i + 1) = none) → wekP P (m + 1) x f = none) := fun h0 => by
    unfold wekP
    exact findR_none fun i hi => h0 i (by omega)
  have hsome : Hid (∀ j y, f + j < U → (∀ i, i < j → wekP P m (x ||| 2 ^ (f + i)) (f + i + 1) = none) → wekP P m (x ||| 2 ^ (f + j)) (f + j + 1) = some y → wekP P (m + 1) x f = some y) := fun j y h0 h1 h2 => by
    unfold wekP
    exact findR_some (by omega) h1 h2
  have hbd : Hid (a + 64 * q * 4000000000000 ≤ 1152921504606846976 ∧ b + 64 * q * 4000000000000 ≤ 1152921504606846976 ∧ c + 64 * q * 4000000000000 ≤ 1152921504606846976 ∧ D.length + 64 * q ≤ 1000000) := ⟨ha, hb, hc, hD⟩
  have IH' := hide' IH
  generalize hrr : wekP P (m + 1) x f = rr at *
  clear h ha hb hc hD g0 g64 hUt IH hrr
  rw [hU] at c0
  have hm1 : ¬ ((m : Int) + 1 = 0) := by omega
  go_enter Tryd.func35, Tryd.ntmps35
  go_upto_block 0 with fail
  generalize (V.alloc (.cells #[.int .u64 (x : Int)] 54)).alloc (.cells #[.int .u64 0] 54) = W0 at *
  clear c0 hm1
  go_wp2
  go_loopw [28] (fun kv wr => ∃ j : Nat, (j = 0 ∨ f + j ≤ U) ∧ kv = .int .i64 (j : Int) ∧ Hid (∀ i, i < j → wekP P m (x ||| 2 ^ (f + i)) (f + i + 1) = none) ∧ ∃ dv' D' a' b' c', Hid (Wl V0 gs P wv fv rv dv D a b c x V (j * q) dv' D' a' b' c' wr)) (fun kv _ => ((U : Int) - (f : Int) - intOf kv).toNat)
  case atStart => exact ⟨0, .inl rfl, rfl, fun i hi => absurd hi (Nat.not_lt_zero _), dv, D, a, b, c, by rw [Nat.zero_mul]; exact hW0⟩
  case round =>
    clear hW0
    obtain ⟨j, hj, rfl, hno, dv', D', a', b', c', hW⟩ := hrel
    by_cases hlt : f + j < U
    · have hlt' : (j : Int) < (U : Int) - (f : Int) := by omega
      have hjq : j * q + q ≤ 64 * q := by rw [← Nat.succ_mul]; exact Nat.mul_le_mul_right _ (by omega)
      have hu64 : f + j < 64 := by omega
      have hxu : x ||| 2 ^ (f + j) < 18446744073709551616 := Nat.or_lt_two_pow (n := 64) hx (Nat.pow_lt_pow_right (by decide) hu64)
      have hpl : (2 : Nat) ^ (f + j) < 18446744073709551616 := Nat.lt_of_lt_of_le (Nat.pow_lt_pow_right (by decide) hu64) (Nat.le_refl (2 ^ 64))
      have KOn : Hid (∀ W (z : Int), z = ((f + j : Nat) : Int) → Calls Tryd.prog 23 #[.int .i64 z] W fun e w' => e = .returned (.agg #[.int .u64 ((2 ^ (f + j) : Nat) : Int)]) ∧ Below W.heap.size W w') := fun W z hz => by rw [hz]; exact onlyH (f + j) hu64 W
      have KOr : Hid (∀ W, Calls Tryd.prog 24 #[.agg #[.int .u64 (x : Int)], .agg #[.int .u64 ((2 ^ (f + j) : Nat) : Int)]] W fun e w' => e = .returned (.agg #[.int .u64 ((x ||| 2 ^ (f + j) : Nat) : Int)]) ∧ Below W.heap.size W w') := fun W => M.or64 _ _ hx hpl W
      obtain ⟨r, hr⟩ : ∃ r, r = wekP P m (x ||| 2 ^ (f + j)) (f + j + 1) := ⟨_, rfl⟩
      have KW : Hid (∀ W (zf zm : Int), Wl V0 gs P wv fv rv dv D a b c x V (j * q) dv' D' a' b' c' W → zf = ((f + j + 1 : Nat) : Int) → zm = m → Calls Tryd.prog 35 #[.pointer (some ⟨V0.heap.size, 0, none⟩), .agg #[.int .u64 ((x ||| 2 ^ (f + j) : Nat) : Int)], .int .i64 zf, .int .i64 zm] W fun e w' => e = .returned (.tuple #[.agg #[.int .u64 ((r.getD 0 : Nat) : Int)], .bool r.isSome]) ∧ (∃ dv2 D2 a2 b2 c2, Hid (Wl V0 gs P wv fv rv dv D a b c x V (j * q + q) dv2 D2 a2 b2 c2 w') ∧ Hid (∀ g, dv2.ownBlock = some g → dv'.ownBlock = some g ∨ W.heap.size ≤ g)) ∧ Hid (∀ g v, Bo W g v → g ≠ V0.heap.size → V.heap.size ≤ g → dv'.ownBlock ≠ some g → Bo w' g v)) := fun W zf zm hW hzf hzm => by
        obtain ⟨e1, e2, e3, e4⟩ := hW.le
        obtain ⟨d1, d2, d3, d4⟩ := hbd.out
        have hq4 : j * q * 4000000000000 + q * 4000000000000 ≤ 64 * q * 4000000000000 := by rw [← Nat.add_mul]; exact Nat.mul_le_mul_right _ hjq
        refine (IH'.out dv' D' a' b' c' _ (f + j + 1) W zf zm hW.t hxu (by omega) hzf hzm (by omega) (by omega) (by omega) (by omega)).mono fun e w' hc => ?_
        rw [← hr] at hc
        exact hW.call hc
      have hrN : Hid (r.isSome = false → ∀ i, i < j + 1 → wekP P m (x ||| 2 ^ (f + i)) (f + i + 1) = none) := fun h0 i hi => by
        by_cases e : i = j
        · subst e
          rw [← hr]
          cases r with
          | none => rfl
          | some y => cases h0
        · exact hno.out i (by omega)
      have hrS : Hid (r.isSome = true → rr = some (r.getD 0)) := fun h0 => by
        cases hq : r with
        | none => rw [hq] at h0; cases h0
        | some y => exact hsome.out j y hlt hno.out (by rw [← hr]; exact hq)
      have hend : Hid (∀ dv2 D2 a2 b2 c2 W, Wl V0 gs P wv fv rv dv D a b c x V (j * q + q) dv2 D2 a2 b2 c2 W → rr = some (r.getD 0) → WkP V0 gs P wv fv rv dv D a b c (64 * q) rr V (.returned (.tuple #[.agg #[.int .u64 ((r.getD 0 : Nat) : Int)], .bool true])) (W.setCell ⟨V.heap.size + 1, 0, none⟩ (.int .u64 ((r.getD 0 : Nat) : Int)))) := fun dv2 D2 a2 b2 c2 W hW h0 => by
        unfold WkP
        rw [h0]
        exact ⟨rfl, hW.fin hjq _⟩
      have hlo : Hid (V0.heap.size < V.heap.size ∧ gs < V.heap.size) := hW.out.lo
      generalize r.isSome = bs at *
      generalize r.getD 0 = y at *
      generalize x ||| 2 ^ (f + j) = xo at *
      generalize (2 : Nat) ^ (f + j) = po at *
      clear hr hno hsome hnone hbd IH' hxu hpl
      go_upto_region 9 with fail
      have hWd := hide' (hW.out.over (Below.refl _ wr).drew)
      have cxd := hWd.out.bx.c
      clear hW
      refine wp_region_held_drew (S := (fun W => W.cell? ⟨V.heap.size, 0, none⟩ = some (.int .u64 (x : Int)))) (by kernel_rfl) ?_ (fun hHeld => ?_)
      · exact cxd
      refine wpAnyH_take (i := 0) (oi := { dst := some 35, op := Op.move (Operand.tmp 0), type := 51, pos := "trial.go:63", after := #[], guard := none }) (v := ?_) rfl (by kernel_rfl) (by kernel_rfl) (by kernel_rfl) (fun _ _ _ h => h) (Or.inl ⟨by rfl, ?_⟩) (by assumption) ?_
      rotate_left
      · intro w hSw; (try dsimp only at hSw); go_simp <;> with_reducible rfl
      simp only [Act.put, List.setIfInBounds_toArray, List.set_cons_zero, List.set_cons_succ]
      refine wpAnyH_take (i := 1) (oi := { dst := some 36, op := Op.load 54 (Operand.tmp 5), type := 54, pos := "trial.go:63", after := #[], guard := none }) (v := ?_) rfl (by kernel_rfl) (by kernel_rfl) (by kernel_rfl) (fun _ _ _ h => h) (Or.inl ⟨by rfl, ?_⟩) (by assumption) ?_
      rotate_left
      · intro w hSw; (try dsimp only at hSw); go_simp <;> with_reducible rfl
      simp only [Act.put, List.setIfInBounds_toArray, List.set_cons_zero, List.set_cons_succ]
      refine wpAnyH_take (i := 2) (oi := { dst := some 37, op := Op.move (Operand.tmp 11), type := 3, pos := "trial.go:63", after := #[], guard := none }) (v := ?_) rfl (by kernel_rfl) (by kernel_rfl) (by kernel_rfl) (fun _ _ _ h => h) (Or.inl ⟨by rfl, ?_⟩) (by assumption) ?_
      rotate_left
      · intro w hSw; (try dsimp only at hSw); go_simp <;> with_reducible rfl
      simp only [Act.put, List.setIfInBounds_toArray, List.set_cons_zero, List.set_cons_succ]
      refine wpAnyH_take (i := 5) (oi := { dst := some 40, op := Op.move (Operand.tmp 11), type := 3, pos := "trial.go:63", after := #[], guard := none }) (v := ?_) rfl (by kernel_rfl) (by kernel_rfl) (by kernel_rfl) (fun _ _ _ h => h) (Or.inl ⟨by rfl, ?_⟩) (by assumption) ?_
      rotate_left
      · intro w hSw; (try dsimp only at hSw); go_simp <;> with_reducible rfl
      simp only [Act.put, List.setIfInBounds_toArray, List.set_cons_zero, List.set_cons_succ]
      refine wpAnyH_take (i := 6) (oi := { dst := some 41, op := Op.binOp BinOp.add 3 (Operand.tmp 40) (Operand.const (Value.int IntKind.i64 1)) 3, type := 3, pos := "trial.go:63", after := #[{ on := 5, ground := Ground.data }], guard := none }) (v := ?_) rfl (by kernel_rfl) (by kernel_rfl) (by kernel_rfl) (fun _ _ _ h => h) (Or.inl ⟨by rfl, ?_⟩) (by assumption) ?_
      rotate_left
      · intro w hSw; (try dsimp only at hSw); go_simp <;> with_reducible rfl
      simp only [Act.put, List.setIfInBounds_toArray, List.set_cons_zero, List.set_cons_succ]
      refine wpAnyH_take (i := 7) (oi := { dst := some 42, op := Op.move (Operand.tmp 3), type := 3, pos := "trial.go:63", after := #[], guard := none }) (v := ?_) rfl (by kernel_rfl) (by kernel_rfl) (by kernel_rfl) (fun _ _ _ h => h) (Or.inl ⟨by rfl, ?_⟩) (by assumption) ?_
      rotate_left
      · intro w hSw; (try dsimp only at hSw); go_simp <;> with_reducible rfl
      simp only [Act.put, List.setIfInBounds_toArray, List.set_cons_zero, List.set_cons_succ]
      refine wpAnyH_take (i := 8) (oi := { dst := some 43, op := Op.binOp BinOp.sub 3 (Operand.tmp 42) (Operand.const (Value.int IntKind.i64 1)) 3, type := 3, pos := "trial.go:63", after := #[{ on := 7, ground := Ground.data }], guard := none }) (v := ?_) rfl (by kernel_rfl) (by kernel_rfl) (by kernel_rfl) (fun _ _ _ h => h) (Or.inl ⟨by rfl, ?_⟩) (by assumption) ?_
      rotate_left
      · intro w hSw; (try dsimp only at hSw); go_simp <;> with_reducible rfl
      simp only [Act.put, List.setIfInBounds_toArray, List.set_cons_zero, List.set_cons_succ]
      refine wpAnyH_ready (rs := [3, 13]) (by kernel_rfl) (by simp) ?_
      refine AllReadyH.cons (o := { dst := some 38, op := Op.call { callee := Callee.value (Operand.func 23), args := #[Operand.tmp 37], argTypes := #[3] }, type := 54, pos := "trial.go:63", after := #[{ on := 2, ground := Ground.data }], guard := none }) rfl (fun K hK => ?_) ?_
      · skip
        go_simp
        go_at_call 23; refine (KOn.out _ _ (by omega)).mono ?_; rintro e w3 ⟨rfl, hb3⟩; have hW3 := hide' (hWd.out.over hb3); have cx3 := hW3.out.bx.c; (try dsimp only)
        refine hK.out _ _ ?_ (fun hHeld => ?_)
        · assumption
        clear hK K
        try simp only [Act.put, List.setIfInBounds_toArray, List.set_cons_zero, List.set_cons_succ]
        refine wpAnyH_ready (rs := [4, 13]) (by kernel_rfl) (by simp) ?_
        refine AllReadyH.cons (o := { dst := some 39, op := Op.call { callee := Callee.value (Operand.func 24), args := #[Operand.tmp 36, Operand.tmp 38], argTypes := #[54, 54] }, type := 54, pos := "trial.go:63", after := #[{ on := 1, ground := Ground.data }, { on := 3, ground := Ground.data }, { on := 3, ground := Ground.chain }], guard := none }) rfl (fun K hK => ?_) ?_
        · skip
          go_simp
          go_at_call 24; refine (KOr.out _).mono ?_; rintro e w4 ⟨rfl, hb4⟩; have hW4 := hide' (hW3.out.over hb4); have cx4 := hW4.out.bx.c; (try dsimp only)
          refine hK.out _ _ ?_ (fun hHeld => ?_)
          · assumption
          clear hK K
          try simp only [Act.put, List.setIfInBounds_toArray, List.set_cons_zero, List.set_cons_succ]
          refine wpAnyH_ready (rs := [9, 13]) (by kernel_rfl) (by simp) ?_
          refine AllReadyH.cons (o := { dst := some 44, op := Op.call { callee := Callee.value (Operand.func 35), args := #[Operand.tmp 35, Operand.tmp 39, Operand.tmp 41, Operand.tmp 43], argTypes := #[51, 54, 3, 3] }, type := 55, pos := "trial.go:63", after := #[{ on := 0, ground := Ground.data }, { on := 4, ground := Ground.data }, { on := 6, ground := Ground.data }, { on := 8, ground := Ground.data }, { on := 4, ground := Ground.chain }], guard := none }) rfl (fun K hK => ?_) ?_
          · skip
            go_simp
            go_at_call 35; refine (KW.out _ _ _ hW4.out (by first | omega | (rw [IntKind.wrap_i64]; omega)) (by first | omega | (rw [IntKind.wrap_i64]; omega))).mono ?_; rintro e w9 ⟨rfl, ⟨dv2, D2, a2, b2, c2, hW9, hd9⟩, hk9⟩; have cx9 := hW9.out.bx.c; (try dsimp only)
            refine hK.out _ _ ?_ (fun hHeld => ?_)
            · assumption
            clear hK K
            try simp only [Act.put, List.setIfInBounds_toArray, List.set_cons_zero, List.set_cons_succ]
            refine wpAnyH_take (i := 10) (oi := { dst := some 34, op := Op.move (Operand.tmp 44), type := 55, pos := "trial.go:63", after := #[{ on := 9, ground := Ground.data }], guard := none }) (v := ?_) rfl (by kernel_rfl) (by kernel_rfl) (by kernel_rfl) (fun _ _ _ h => h) (Or.inl ⟨by rfl, ?_⟩) (by assumption) ?_
            rotate_left
            · intro w hSw; (try dsimp only at hSw); go_simp <;> with_reducible rfl
            simp only [Act.put, List.setIfInBounds_toArray, List.set_cons_zero, List.set_cons_succ]
            refine wpAnyH_take (i := 11) (oi := { dst := some 45, op := Op.extract (Operand.tmp 34) 0, type := 54, pos := "trial.go:63", after := #[{ on := 10, ground := Ground.data }], guard := none }) (v := ?_) rfl (by kernel_rfl) (by kernel_rfl) (by kernel_rfl) (fun _ _ _ h => h) (Or.inl ⟨by rfl, ?_⟩) (by assumption) ?_
            rotate_left
            · intro w hSw; (try dsimp only at hSw); go_simp <;> with_reducible rfl
            simp only [Act.put, List.setIfInBounds_toArray, List.set_cons_zero, List.set_cons_succ]
            refine wpAnyH_take (i := 12) (oi := { dst := some 46, op := Op.extract (Operand.tmp 34) 1, type := 4, pos := "trial.go:63", after := #[{ on := 10, ground := Ground.data }, { on := 14, ground := Ground.gcOnly Departure.lateStores }], guard := none }) (v := ?_) rfl (by kernel_rfl) (by kernel_rfl) (by kernel_rfl) (fun _ _ _ h => h) (Or.inl ⟨by rfl, ?_⟩) (by assumption) ?_
            rotate_left
            · intro w hSw; (try dsimp only at hSw); go_simp <;> with_reducible rfl
            simp only [Act.put, List.setIfInBounds_toArray, List.set_cons_zero, List.set_cons_succ]
            refine wpAnyH_ready (rs := [13]) (by kernel_rfl) (by simp) ?_
            refine AllReadyH.cons (o := { dst := some 12, op := Op.alloc 54, type := 0, pos := "trial.go:63", after := #[], guard := none }) rfl (fun K hK => ?_) AllReadyH.nil
            go_simp
            have hWa := hide' (hW9.out.over ((Below.refl _ w9).alloc (Nat.le_refl _) (.cells #[.int .u64 0] 54))); have hNa : Hid (Bo (w9.alloc (.cells #[.int .u64 0] 54)) w9.heap.size (.int .u64 0)) := (Bo.new w9 (.int .u64 0) 54); have hgn : V.heap.size + 2 ≤ w9.heap.size := hW9.out.sz; have hne2 := hide' hW9.out.ne; have cxa := hWa.out.bx.c; (try dsimp only)
            refine hK.out _ _ ?_ (fun hHeld => ?_)
            · assumption
            clear hK K
            try simp only [Act.put, List.setIfInBounds_toArray, List.set_cons_zero, List.set_cons_succ]
            refine wpAnyH_ready (rs := [14]) (by kernel_rfl) (by simp) ?_
            refine AllReadyH.cons (o := { dst := none, op := Op.store 54 (Operand.tmp 12) (Operand.tmp 45), type := 0, pos := "trial.go:63", after := #[{ on := 13, ground := Ground.data }, { on := 11, ground := Ground.data }, { on := 9, ground := Ground.chain }, { on := 0, ground := Ground.phase }, { on := 1, ground := Ground.phase }, { on := 2, ground := Ground.phase }, { on := 3, ground := Ground.phase }, { on := 4, ground := Ground.phase }, { on := 5, ground := Ground.phase }, { on := 6, ground := Ground.phase }, { on := 7, ground := Ground.phase }, { on := 8, ground := Ground.phase }, { on := 9, ground := Ground.phase }, { on := 10, ground := Ground.phase }, { on := 11, ground := Ground.phase }, { on := 12, ground := Ground.textOnly Departure.lateStores }, { on := 13, ground := Ground.phase }], guard := none }) rfl (fun K hK => ?_) AllReadyH.nil
            (try have n9c := hN9.out.c); (try have n9f := hN9.out.fz); go_simp
            refine hK.out _ _ ?_ (fun hHeld => ?_)
            · exact (hW9.out.over ((Below.refl _ w9).alloc (Nat.le_refl _) (.cells #[.int .u64 (y : Int)] 54))).bx.c
            clear hK K
            try simp only [Act.put, List.setIfInBounds_toArray, List.set_cons_zero, List.set_cons_succ]
            refine wpAnyH_take (i := 15) (oi := { dst := some 13, op := Op.assign (Operand.tmp 46), type := 4, pos := "trial.go:63", after := #[{ on := 12, ground := Ground.data }, { on := 14, ground := Ground.chain }, { on := 0, ground := Ground.phase }, { on := 1, ground := Ground.phase }, { on := 2, ground := Ground.phase }, { on := 3, ground := Ground.phase }, { on := 4, ground := Ground.phase }, { on := 5, ground := Ground.phase }, { on := 6, ground := Ground.phase }, { on := 7, ground := Ground.phase }, { on := 8, ground := Ground.phase }, { on := 9, ground := Ground.phase }, { on := 10, ground := Ground.phase }, { on := 11, ground := Ground.phase }, { on := 12, ground := Ground.phase }, { on := 13, ground := Ground.phase }, { on := 14, ground := Ground.phase }], guard := none }) (v := ?_) rfl (by kernel_rfl) (by kernel_rfl) (by kernel_rfl) (fun _ _ _ h => h) (Or.inl ⟨by rfl, ?_⟩) (by assumption) ?_
            rotate_left
            · intro w hSw; (try dsimp only at hSw); go_simp <;> with_reducible rfl
            simp only [Act.put, List.setIfInBounds_toArray, List.set_cons_zero, List.set_cons_succ]
            refine wpAnyH_done (by kernel_rfl) ?_ _
            skip
            have hWz := hide' (hW9.out.over ((Below.refl _ w9).alloc (Nat.le_refl _) (.cells #[.int .u64 (y : Int)] 54)))
            have nz := (Bo.new w9 (.int .u64 (y : Int)) 54).c
            have rzc := hWz.out.br.c
            have rzf := hWz.out.br.fz
            have rz2 := (hWz.out.br.set (.int .u64 (y : Int))).c
            (try clear n9c n9f)
            cases bs
            · have hnn := hide' (hrN.out rfl)
              clear hrN hrS hend rz2 nz
              go_wp2
              have hmul := hWz
              rw [show j * q + q = (j + 1) * q from (Nat.succ_mul j q).symm] at hmul
              refine ⟨?_, by simp [intOf]; omega⟩
              (repeat apply Exists.intro)
              exact ⟨⟨j + 1, .inr (by omega), by go_num, hnn, dv2, D2, a2, b2, c2, hmul⟩, rfl⟩
            · have hE := hide' (hend.out _ _ _ _ _ _ hWz.out (hrS.out rfl))
              clear hrN hrS hend
              go_wp2
              exact bodyPost_ret (v := .tuple #[.agg #[.int .u64 (y : Int)], .bool true]) (by simp [results, Tryd.results35, go_sem, rz2]) rfl hE.out
          refine AllReadyH.cons (o := { dst := some 12, op := Op.alloc 54, type := 0, pos := "trial.go:63", after := #[], guard := none }) rfl (fun K hK => ?_) AllReadyH.nil
          go_simp
          have hWa := hide' (hW4.out.over ((Below.refl _ w4).alloc (Nat.le_refl _) (.cells #[.int .u64 0] 54))); have hNa : Hid (Bo (w4.alloc (.cells #[.int .u64 0] 54)) w4.heap.size (.int .u64 0)) := (Bo.new w4 (.int .u64 0) 54); have hgn : V.heap.size + 2 ≤ w4.heap.size := hW4.out.sz; have hnd := hide' hW4.out.ne; have cxa := hWa.out.bx.c; (try dsimp only)
          refine hK.out _ _ ?_ (fun hHeld => ?_)
          · assumption
          clear hK K
          try simp only [Act.put, List.setIfInBounds_toArray, List.set_cons_zero, List.set_cons_succ]
          refine wpAnyH_ready (rs := [9]) (by kernel_rfl) (by simp) ?_
          refine AllReadyH.cons (o := { dst := some 44, op := Op.call { callee := Callee.value (Operand.func 35), args := #[Operand.tmp 35, Operand.tmp 39, Operand.tmp 41, Operand.tmp 43], argTypes := #[51, 54, 3, 3] }, type := 55, pos := "trial.go:63", after := #[{ on := 0, ground := Ground.data }, { on := 4, ground := Ground.data }, { on := 6, ground := Ground.data }, { on := 8, ground := Ground.data }, { on := 4, ground := Ground.chain }], guard := none }) rfl (fun K hK => ?_) AllReadyH.nil
          go_simp
          go_at_call 35; refine (KW.out _ _ _ hWa.out (by first | omega | (rw [IntKind.wrap_i64]; omega)) (by first | omega | (rw [IntKind.wrap_i64]; omega))).mono ?_; rintro e w9 ⟨rfl, ⟨dv2, D2, a2, b2, c2, hW9, hd9⟩, hk9⟩; have cx9 := hW9.out.bx.c; have hN9 := hide' (hk9.out _ _ hNa.out (by have := hlo.out; have := hgn; omega) (by have := hgn; omega) hnd.out); have hne2 : Hid (dv2.ownBlock ≠ some (w4.heap.size)) := (fun e => (hd9.out _ e).elim hnd.out (fun q => by have := hNa.out.lt; omega)); (try dsimp only)
          refine hK.out _ _ ?_ (fun hHeld => ?_)
          · assumption
          clear hK K
          try simp only [Act.put, List.setIfInBounds_toArray, List.set_cons_zero, List.set_cons_succ]
          refine wpAnyH_take (i := 10) (oi := { dst := some 34, op := Op.move (Operand.tmp 44), type := 55, pos := "trial.go:63", after := #[{ on := 9, ground := Ground.data }], guard := none }) (v := ?_) rfl (by kernel_rfl) (by kernel_rfl) (by kernel_rfl) (fun _ _ _ h => h) (Or.inl ⟨by rfl, ?_⟩) (by assumption) ?_
          rotate_left
          · intro w hSw; (try dsimp only at hSw); go_simp <;> with_reducible rfl
          simp only [Act.put, List.setIfInBounds_toArray, List.set_cons_zero, List.set_cons_succ]
          refine wpAnyH_take (i := 11) (oi := { dst := some 45, op := Op.extract (Operand.tmp 34) 0, type := 54, pos := "trial.go:63", after := #[{ on := 10, ground := Ground.data }], guard := none }) (v := ?_) rfl (by kernel_rfl) (by kernel_rfl) (by kernel_rfl) (fun _ _ _ h => h) (Or.inl ⟨by rfl, ?_⟩) (by assumption) ?_
          rotate_left
          · intro w hSw; (try dsimp only at hSw); go_simp <;> with_reducible rfl
          simp only [Act.put, List.setIfInBounds_toArray, List.set_cons_zero, List.set_cons_succ]
          refine wpAnyH_take (i := 12) (oi := { dst := some 46, op := Op.extract (Operand.tmp 34) 1, type := 4, pos := "trial.go:63", after := #[{ on := 10, ground := Ground.data }, { on := 14, ground := Ground.gcOnly Departure.lateStores }], guard := none }) (v := ?_) rfl (by kernel_rfl) (by kernel_rfl) (by kernel_rfl) (fun _ _ _ h => h) (Or.inl ⟨by rfl, ?_⟩) (by assumption) ?_
          rotate_left
          · intro w hSw; (try dsimp only at hSw); go_simp <;> with_reducible rfl
          simp only [Act.put, List.setIfInBounds_toArray, List.set_cons_zero, List.set_cons_succ]
          refine wpAnyH_ready (rs := [14]) (by kernel_rfl) (by simp) ?_
          refine AllReadyH.cons (o := { dst := none, op := Op.store 54 (Operand.tmp 12) (Operand.tmp 45), type := 0, pos := "trial.go:63", after := #[{ on := 13, ground := Ground.data }, { on := 11, ground := Ground.data }, { on := 9, ground := Ground.chain }, { on := 0, ground := Ground.phase }, { on := 1, ground := Ground.phase }, { on := 2, ground := Ground.phase }, { on := 3, ground := Ground.phase }, { on := 4, ground := Ground.phase }, { on := 5, ground := Ground.phase }, { on := 6, ground := Ground.phase }, { on := 7, ground := Ground.phase }, { on := 8, ground := Ground.phase }, { on := 9, ground := Ground.phase }, { on := 10, ground := Ground.phase }, { on := 11, ground := Ground.phase }, { on := 12, ground := Ground.textOnly Departure.lateStores }, { on := 13, ground := Ground.phase }], guard := none }) rfl (fun K hK => ?_) AllReadyH.nil
          (try have n9c := hN9.out.c); (try have n9f := hN9.out.fz); go_simp
          refine hK.out _ _ ?_ (fun hHeld => ?_)
          · exact (hW9.out.box hgn hne2.out _).bx.c
          clear hK K
          try simp only [Act.put, List.setIfInBounds_toArray, List.set_cons_zero, List.set_cons_succ]
          refine wpAnyH_take (i := 15) (oi := { dst := some 13, op := Op.assign (Operand.tmp 46), type := 4, pos := "trial.go:63", after := #[{ on := 12, ground := Ground.data }, { on := 14, ground := Ground.chain }, { on := 0, ground := Ground.phase }, { on := 1, ground := Ground.phase }, { on := 2, ground := Ground.phase }, { on := 3, ground := Ground.phase }, { on := 4, ground := Ground.phase }, { on := 5, ground := Ground.phase }, { on := 6, ground := Ground.phase }, { on := 7, ground := Ground.phase }, { on := 8, ground := Ground.phase }, { on := 9, ground := Ground.phase }, { on := 10, ground := Ground.phase }, { on := 11, ground := Ground.phase }, { on := 12, ground := Ground.phase }, { on := 13, ground := Ground.phase }, { on := 14, ground := Ground.phase }], guard := none }) (v := ?_) rfl (by kernel_rfl) (by kernel_rfl) (by kernel_rfl) (fun _ _ _ h => h) (Or.inl ⟨by rfl, ?_⟩) (by assumption) ?_
          rotate_left
          · intro w hSw; (try dsimp only at hSw); go_simp <;> with_reducible rfl
          simp only [Act.put, List.setIfInBounds_toArray, List.set_cons_zero, List.set_cons_succ]
          refine wpAnyH_done (by kernel_rfl) ?_ _
          skip
          have hWz := hide' (hW9.out.box hgn hne2.out (.int .u64 (y : Int)))
          have nz := (hN9.out.set (.int .u64 (y : Int))).c
          have rzc := hWz.out.br.c
          have rzf := hWz.out.br.fz
          have rz2 := (hWz.out.br.set (.int .u64 (y : Int))).c
          (try clear n9c n9f)
          cases bs
          · have hnn := hide' (hrN.out rfl)
            clear hrN hrS hend rz2 nz
            go_wp2
            have hmul := hWz
            rw [show j * q + q = (j + 1) * q from (Nat.succ_mul j q).symm] at hmul
            refine ⟨?_, by simp [intOf]; omega⟩
            (repeat apply Exists.intro)
            exact ⟨⟨j + 1, .inr (by omega), by go_num, hnn, dv2, D2, a2, b2, c2, hmul⟩, rfl⟩
          · have hE := hide' (hend.out _ _ _ _ _ _ hWz.out (hrS.out rfl))
            clear hrN hrS hend
            go_wp2
            exact bodyPost_ret (v := .tuple #[.agg #[.int .u64 (y : Int)], .bool true]) (by simp [results, Tryd.results35, go_sem, rz2]) rfl hE.out
        refine AllReadyH.cons (o := { dst := some 12, op := Op.alloc 54, type := 0, pos := "trial.go:63", after := #[], guard := none }) rfl (fun K hK => ?_) AllReadyH.nil
        go_simp
        have hWa := hide' (hW3.out.over ((Below.refl _ w3).alloc (Nat.le_refl _) (.cells #[.int .u64 0] 54))); have hNa : Hid (Bo (w3.alloc (.cells #[.int .u64 0] 54)) w3.heap.size (.int .u64 0)) := (Bo.new w3 (.int .u64 0) 54); have hgn : V.heap.size + 2 ≤ w3.heap.size := hW3.out.sz; have hnd := hide' hW3.out.ne; have cxa := hWa.out.bx.c; (try dsimp only)
        refine hK.out _ _ ?_ (fun hHeld => ?_)
        · assumption
        clear hK K
        try simp only [Act.put, List.setIfInBounds_toArray, List.set_cons_zero, List.set_cons_succ]
        refine wpAnyH_ready (rs := [4]) (by kernel_rfl) (by simp) ?_
        refine AllReadyH.cons (o := { dst := some 39, op := Op.call { callee := Callee.value (Operand.func 24), args := #[Operand.tmp 36, Operand.tmp 38], argTypes := #[54, 54] }, type := 54, pos := "trial.go:63", after := #[{ on := 1, ground := Ground.data }, { on := 3, ground := Ground.data }, { on := 3, ground := Ground.chain }], guard := none }) rfl (fun K hK => ?_) AllReadyH.nil
        go_simp
        go_at_call 24; refine (KOr.out _).mono ?_; rintro e w4 ⟨rfl, hb4⟩; have hW4 := hide' (hWa.out.over hb4); have cx4 := hW4.out.bx.c; have hN4 := hide' (hNa.out.over hb4); (try dsimp only)
        refine hK.out _ _ ?_ (fun hHeld => ?_)
        · assumption
        clear hK K
        try simp only [Act.put, List.setIfInBounds_toArray, List.set_cons_zero, List.set_cons_succ]
        refine wpAnyH_ready (rs := [9]) (by kernel_rfl) (by simp) ?_
        refine AllReadyH.cons (o := { dst := some 44, op := Op.call { callee := Callee.value (Operand.func 35), args := #[Operand.tmp 35, Operand.tmp 39, Operand.tmp 41, Operand.tmp 43], argTypes := #[51, 54, 3, 3] }, type := 55, pos := "trial.go:63", after := #[{ on := 0, ground := Ground.data }, { on := 4, ground := Ground.data }, { on := 6, ground := Ground.data }, { on := 8, ground := Ground.data }, { on := 4, ground := Ground.chain }], guard := none }) rfl (fun K hK => ?_) AllReadyH.nil
        go_simp
        go_at_call 35; refine (KW.out _ _ _ hW4.out (by first | omega | (rw [IntKind.wrap_i64]; omega)) (by first | omega | (rw [IntKind.wrap_i64]; omega))).mono ?_; rintro e w9 ⟨rfl, ⟨dv2, D2, a2, b2, c2, hW9, hd9⟩, hk9⟩; have cx9 := hW9.out.bx.c; have hN9 := hide' (hk9.out _ _ hN4.out (by have := hlo.out; have := hgn; omega) (by have := hgn; omega) hnd.out); have hne2 : Hid (dv2.ownBlock ≠ some (w3.heap.size)) := (fun e => (hd9.out _ e).elim hnd.out (fun q => by have := hN4.out.lt; omega)); (try dsimp only)
        refine hK.out _ _ ?_ (fun hHeld => ?_)
        · assumption
        clear hK K
        try simp only [Act.put, List.setIfInBounds_toArray, List.set_cons_zero, List.set_cons_succ]
        refine wpAnyH_take (i := 10) (oi := { dst := some 34, op := Op.move (Operand.tmp 44), type := 55, pos := "trial.go:63", after := #[{ on := 9, ground := Ground.data }], guard := none }) (v := ?_) rfl (by kernel_rfl) (by kernel_rfl) (by kernel_rfl) (fun _ _ _ h => h) (Or.inl ⟨by rfl, ?_⟩) (by assumption) ?_
        rotate_left
        · intro w hSw; (try dsimp only at hSw); go_simp <;> with_reducible rfl
        simp only [Act.put, List.setIfInBounds_toArray, List.set_cons_zero, List.set_cons_succ]
        refine wpAnyH_take (i := 11) (oi := { dst := some 45, op := Op.extract (Operand.tmp 34) 0, type := 54, pos := "trial.go:63", after := #[{ on := 10, ground := Ground.data }], guard := none }) (v := ?_) rfl (by kernel_rfl) (by kernel_rfl) (by kernel_rfl) (fun _ _ _ h => h) (Or.inl ⟨by rfl, ?_⟩) (by assumption) ?_
        rotate_left
        · intro w hSw; (try dsimp only at hSw); go_simp <;> with_reducible rfl
        simp only [Act.put, List.setIfInBounds_toArray, List.set_cons_zero, List.set_cons_succ]
        refine wpAnyH_take (i := 12) (oi := { dst := some 46, op := Op.extract (Operand.tmp 34) 1, type := 4, pos := "trial.go:63", after := #[{ on := 10, ground := Ground.data }, { on := 14, ground := Ground.gcOnly Departure.lateStores }], guard := none }) (v := ?_) rfl (by kernel_rfl) (by kernel_rfl) (by kernel_rfl) (fun _ _ _ h => h) (Or.inl ⟨by rfl, ?_⟩) (by assumption) ?_
        rotate_left
        · intro w hSw; (try dsimp only at hSw); go_simp <;> with_reducible rfl
        simp only [Act.put, List.setIfInBounds_toArray, List.set_cons_zero, List.set_cons_succ]
        refine wpAnyH_ready (rs := [14]) (by kernel_rfl) (by simp) ?_
        refine AllReadyH.cons (o := { dst := none, op := Op.store 54 (Operand.tmp 12) (Operand.tmp 45), type := 0, pos := "trial.go:63", after := #[{ on := 13, ground := Ground.data }, { on := 11, ground := Ground.data }, { on := 9, ground := Ground.chain }, { on := 0, ground := Ground.phase }, { on := 1, ground := Ground.phase }, { on := 2, ground := Ground.phase }, { on := 3, ground := Ground.phase }, { on := 4, ground := Ground.phase }, { on := 5, ground := Ground.phase }, { on := 6, ground := Ground.phase }, { on := 7, ground := Ground.phase }, { on := 8, ground := Ground.phase }, { on := 9, ground := Ground.phase }, { on := 10, ground := Ground.phase }, { on := 11, ground := Ground.phase }, { on := 12, ground := Ground.textOnly Departure.lateStores }, { on := 13, ground := Ground.phase }], guard := none }) rfl (fun K hK => ?_) AllReadyH.nil
        (try have n9c := hN9.out.c); (try have n9f := hN9.out.fz); go_simp
        refine hK.out _ _ ?_ (fun hHeld => ?_)
        · exact (hW9.out.box hgn hne2.out _).bx.c
        clear hK K
        try simp only [Act.put, List.setIfInBounds_toArray, List.set_cons_zero, List.set_cons_succ]
        refine wpAnyH_take (i := 15) (oi := { dst := some 13, op := Op.assign (Operand.tmp 46), type := 4, pos := "trial.go:63", after := #[{ on := 12, ground := Ground.data }, { on := 14, ground := Ground.chain }, { on := 0, ground := Ground.phase }, { on := 1, ground := Ground.phase }, { on := 2, ground := Ground.phase }, { on := 3, ground := Ground.phase }, { on := 4, ground := Ground.phase }, { on := 5, ground := Ground.phase }, { on := 6, ground := Ground.phase }, { on := 7, ground := Ground.phase }, { on := 8, ground := Ground.phase }, { on := 9, ground := Ground.phase }, { on := 10, ground := Ground.phase }, { on := 11, ground := Ground.phase }, { on := 12, ground := Ground.phase }, { on := 13, ground := Ground.phase }, { on := 14, ground := Ground.phase }], guard := none }) (v := ?_) rfl (by kernel_rfl) (by kernel_rfl) (by kernel_rfl) (fun _ _ _ h => h) (Or.inl ⟨by rfl, ?_⟩) (by assumption) ?_
        rotate_left
        · intro w hSw; (try dsimp only at hSw); go_simp <;> with_reducible rfl
        simp only [Act.put, List.setIfInBounds_toArray, List.set_cons_zero, List.set_cons_succ]
        refine wpAnyH_done (by kernel_rfl) ?_ _
        skip
        have hWz := hide' (hW9.out.box hgn hne2.out (.int .u64 (y : Int)))
        have nz := (hN9.out.set (.int .u64 (y : Int))).c
        have rzc := hWz.out.br.c
        have rzf := hWz.out.br.fz
        have rz2 := (hWz.out.br.set (.int .u64 (y : Int))).c
        (try clear n9c n9f)
        cases bs
        · have hnn := hide' (hrN.out rfl)
          clear hrN hrS hend rz2 nz
          go_wp2
          have hmul := hWz
          rw [show j * q + q = (j + 1) * q from (Nat.succ_mul j q).symm] at hmul
          refine ⟨?_, by simp [intOf]; omega⟩
          (repeat apply Exists.intro)
          exact ⟨⟨j + 1, .inr (by omega), by go_num, hnn, dv2, D2, a2, b2, c2, hmul⟩, rfl⟩
        · have hE := hide' (hend.out _ _ _ _ _ _ hWz.out (hrS.out rfl))
          clear hrN hrS hend
          go_wp2
          exact bodyPost_ret (v := .tuple #[.agg #[.int .u64 (y : Int)], .bool true]) (by simp [results, Tryd.results35, go_sem, rz2]) rfl hE.out
      refine AllReadyH.cons (o := { dst := some 12, op := Op.alloc 54, type := 0, pos := "trial.go:63", after := #[], guard := none }) rfl (fun K hK => ?_) AllReadyH.nil
      go_simp
      have hWa := hide' (hWd.out.over ((Below.refl _ wr.drew).alloc (Nat.le_refl _) (.cells #[.int .u64 0] 54))); have hNa : Hid (Bo (wr.drew.alloc (.cells #[.int .u64 0] 54)) wr.heap.size (.int .u64 0)) := (Bo.new wr.drew (.int .u64 0) 54); have hgn : V.heap.size + 2 ≤ wr.heap.size := hWd.out.sz; have hnd := hide' hWd.out.ne; have cxa := hWa.out.bx.c; (try dsimp only)
      refine hK.out _ _ ?_ (fun hHeld => ?_)
      · assumption
      clear hK K
      try simp only [Act.put, List.setIfInBounds_toArray, List.set_cons_zero, List.set_cons_succ]
      refine wpAnyH_ready (rs := [3]) (by kernel_rfl) (by simp) ?_
      refine AllReadyH.cons (o := { dst := some 38, op := Op.call { callee := Callee.value (Operand.func 23), args := #[Operand.tmp 37], argTypes := #[3] }, type := 54, pos := "trial.go:63", after := #[{ on := 2, ground := Ground.data }], guard := none }) rfl (fun K hK => ?_) AllReadyH.nil
      go_simp
      go_at_call 23; refine (KOn.out _ _ (by omega)).mono ?_; rintro e w3 ⟨rfl, hb3⟩; have hW3 := hide' (hWa.out.over hb3); have cx3 := hW3.out.bx.c; have hN3 := hide' (hNa.out.over hb3); (try dsimp only)
      refine hK.out _ _ ?_ (fun hHeld => ?_)
      · assumption
      clear hK K
      try simp only [Act.put, List.setIfInBounds_toArray, List.set_cons_zero, List.set_cons_succ]
      refine wpAnyH_ready (rs := [4]) (by kernel_rfl) (by simp) ?_
      refine AllReadyH.cons (o := { dst := some 39, op := Op.call { callee := Callee.value (Operand.func 24), args := #[Operand.tmp 36, Operand.tmp 38], argTypes := #[54, 54] }, type := 54, pos := "trial.go:63", after := #[{ on := 1, ground := Ground.data }, { on := 3, ground := Ground.data }, { on := 3, ground := Ground.chain }], guard := none }) rfl (fun K hK => ?_) AllReadyH.nil
      go_simp
      go_at_call 24; refine (KOr.out _).mono ?_; rintro e w4 ⟨rfl, hb4⟩; have hW4 := hide' (hW3.out.over hb4); have cx4 := hW4.out.bx.c; have hN4 := hide' (hN3.out.over hb4); (try dsimp only)
      refine hK.out _ _ ?_ (fun hHeld => ?_)
      · assumption
      clear hK K
      try simp only [Act.put, List.setIfInBounds_toArray, List.set_cons_zero, List.set_cons_succ]
      refine wpAnyH_ready (rs := [9]) (by kernel_rfl) (by simp) ?_
      refine AllReadyH.cons (o := { dst := some 44, op := Op.call { callee := Callee.value (Operand.func 35), args := #[Operand.tmp 35, Operand.tmp 39, Operand.tmp 41, Operand.tmp 43], argTypes := #[51, 54, 3, 3] }, type := 55, pos := "trial.go:63", after := #[{ on := 0, ground := Ground.data }, { on := 4, ground := Ground.data }, { on := 6, ground := Ground.data }, { on := 8, ground := Ground.data }, { on := 4, ground := Ground.chain }], guard := none }) rfl (fun K hK => ?_) AllReadyH.nil
      go_simp
      go_at_call 35; refine (KW.out _ _ _ hW4.out (by first | omega | (rw [IntKind.wrap_i64]; omega)) (by first | omega | (rw [IntKind.wrap_i64]; omega))).mono ?_; rintro e w9 ⟨rfl, ⟨dv2, D2, a2, b2, c2, hW9, hd9⟩, hk9⟩; have cx9 := hW9.out.bx.c; have hN9 := hide' (hk9.out _ _ hN4.out (by have := hlo.out; have := hgn; omega) (by have := hgn; omega) hnd.out); have hne2 : Hid (dv2.ownBlock ≠ some (wr.heap.size)) := (fun e => (hd9.out _ e).elim hnd.out (fun q => by have := hN4.out.lt; omega)); (try dsimp only)
      refine hK.out _ _ ?_ (fun hHeld => ?_)
      · assumption
      clear hK K
      try simp only [Act.put, List.setIfInBounds_toArray, List.set_cons_zero, List.set_cons_succ]
      refine wpAnyH_take (i := 10) (oi := { dst := some 34, op := Op.move (Operand.tmp 44), type := 55, pos := "trial.go:63", after := #[{ on := 9, ground := Ground.data }], guard := none }) (v := ?_) rfl (by kernel_rfl) (by kernel_rfl) (by kernel_rfl) (fun _ _ _ h => h) (Or.inl ⟨by rfl, ?_⟩) (by assumption) ?_
      rotate_left
      · intro w hSw; (try dsimp only at hSw); go_simp <;> with_reducible rfl
      simp only [Act.put, List.setIfInBounds_toArray, List.set_cons_zero, List.set_cons_succ]
      refine wpAnyH_take (i := 11) (oi := { dst := some 45, op := Op.extract (Operand.tmp 34) 0, type := 54, pos := "trial.go:63", after := #[{ on := 10, ground := Ground.data }], guard := none }) (v := ?_) rfl (by kernel_rfl) (by kernel_rfl) (by kernel_rfl) (fun _ _ _ h => h) (Or.inl ⟨by rfl, ?_⟩) (by assumption) ?_
      rotate_left
      · intro w hSw; (try dsimp only at hSw); go_simp <;> with_reducible rfl
      simp only [Act.put, List.setIfInBounds_toArray, List.set_cons_zero, List.set_cons_succ]
      refine wpAnyH_take (i := 12) (oi := { dst := some 46, op := Op.extract (Operand.tmp 34) 1, type := 4, pos := "trial.go:63", after := #[{ on := 10, ground := Ground.data }, { on := 14, ground := Ground.gcOnly Departure.lateStores }], guard := none }) (v := ?_) rfl (by kernel_rfl) (by kernel_rfl) (by kernel_rfl) (fun _ _ _ h => h) (Or.inl ⟨by rfl, ?_⟩) (by assumption) ?_
      rotate_left
      · intro w hSw; (try dsimp only at hSw); go_simp <;> with_reducible rfl
      simp only [Act.put, List.setIfInBounds_toArray, List.set_cons_zero, List.set_cons_succ]
      refine wpAnyH_ready (rs := [14]) (by kernel_rfl) (by simp) ?_
      refine AllReadyH.cons (o := { dst := none, op := Op.store 54 (Operand.tmp 12) (Operand.tmp 45), type := 0, pos := "trial.go:63", after := #[{ on := 13, ground := Ground.data }, { on := 11, ground := Ground.data }, { on := 9, ground := Ground.chain }, { on := 0, ground := Ground.phase }, { on := 1, ground := Ground.phase }, { on := 2, ground := Ground.phase }, { on := 3, ground := Ground.phase }, { on := 4, ground := Ground.phase }, { on := 5, ground := Ground.phase }, { on := 6, ground := Ground.phase }, { on := 7, ground := Ground.phase }, { on := 8, ground := Ground.phase }, { on := 9, ground := Ground.phase }, { on := 10, ground := Ground.phase }, { on := 11, ground := Ground.phase }, { on := 12, ground := Ground.textOnly Departure.lateStores }, { on := 13, ground := Ground.phase }], guard := none }) rfl (fun K hK => ?_) AllReadyH.nil
      (try have n9c := hN9.out.c); (try have n9f := hN9.out.fz); go_simp
      refine hK.out _ _ ?_ (fun hHeld => ?_)
      · exact (hW9.out.box hgn hne2.out _).bx.c
      clear hK K
      try simp only [Act.put, List.setIfInBounds_toArray, List.set_cons_zero, List.set_cons_succ]
      refine wpAnyH_take (i := 15) (oi := { dst := some 13, op := Op.assign (Operand.tmp 46), type := 4, pos := "trial.go:63", after := #[{ on := 12, ground := Ground.data }, { on := 14, ground := Ground.chain }, { on := 0, ground := Ground.phase }, { on := 1, ground := Ground.phase }, { on := 2, ground := Ground.phase }, { on := 3, ground := Ground.phase }, { on := 4, ground := Ground.phase }, { on := 5, ground := Ground.phase }, { on := 6, ground := Ground.phase }, { on := 7, ground := Ground.phase }, { on := 8, ground := Ground.phase }, { on := 9, ground := Ground.phase }, { on := 10, ground := Ground.phase }, { on := 11, ground := Ground.phase }, { on := 12, ground := Ground.phase }, { on := 13, ground := Ground.phase }, { on := 14, ground := Ground.phase }], guard := none }) (v := ?_) rfl (by kernel_rfl) (by kernel_rfl) (by kernel_rfl) (fun _ _ _ h => h) (Or.inl ⟨by rfl, ?_⟩) (by assumption) ?_
      rotate_left
      · intro w hSw; (try dsimp only at hSw); go_simp <;> with_reducible rfl
      simp only [Act.put, List.setIfInBounds_toArray, List.set_cons_zero, List.set_cons_succ]
      refine wpAnyH_done (by kernel_rfl) ?_ _
      skip
      have hWz := hide' (hW9.out.box hgn hne2.out (.int .u64 (y : Int)))
      have nz := (hN9.out.set (.int .u64 (y : Int))).c
      have rzc := hWz.out.br.c
      have rzf := hWz.out.br.fz
      have rz2 := (hWz.out.br.set (.int .u64 (y : Int))).c
      (try clear n9c n9f)
      cases bs
      · have hnn := hide' (hrN.out rfl)
        clear hrN hrS hend rz2 nz
        go_wp2
        have hmul := hWz
        rw [show j * q + q = (j + 1) * q from (Nat.succ_mul j q).symm] at hmul
        refine ⟨?_, by simp [intOf]; omega⟩
        (repeat apply Exists.intro)
        exact ⟨⟨j + 1, .inr (by omega), by go_num, hnn, dv2, D2, a2, b2, c2, hmul⟩, rfl⟩
      · have hE := hide' (hend.out _ _ _ _ _ _ hWz.out (hrS.out rfl))
        clear hrN hrS hend
        go_wp2
        exact bodyPost_ret (v := .tuple #[.agg #[.int .u64 (y : Int)], .bool true]) (by simp [results, Tryd.results35, go_sem, rz2]) rfl hE.out
    · have hno' : Hid (rr = none) := hnone.out fun i hi => hno.out i (by omega)
      have hjq : j * q ≤ 64 * q := Nat.mul_le_mul_right _ (by omega)
      have rc := hW.out.br.c
      have rz := hW.out.br.fz
      have hend : Hid (WkP V0 gs P wv fv rv dv D a b c (64 * q) rr V (.returned (.tuple #[.agg #[.int .u64 0], .bool false])) (wr.setCell ⟨V.heap.size + 1, 0, none⟩ (.int .u64 0))) := by
        show WkP _ _ _ _ _ _ _ _ _ _ _ _ _ _ _ _
        unfold WkP
        rw [hno'.out]
        exact ⟨rfl, hW.out.fin hjq _⟩
      have rc2 : (wr.setCell ⟨V.heap.size + 1, 0, none⟩ (.int .u64 0)).cell? ⟨V.heap.size + 1, 0, none⟩ = some (.int .u64 0) := (hW.out.br.set (.int .u64 0)).c
      clear hnone hsome hno hno' hW hbd IH'
      have hge : ¬ ((j : Int) < (U : Int) - (f : Int)) := by omega
      go_wp2
      refine bodyPost_ret (v := .tuple #[.agg #[.int .u64 0], .bool false]) (by simp [results, Tryd.results35, go_sem, rc2]) rfl hend.out
end Go.Proofs.YtmbdnhgmpmnhmaaDoor.S
namespace Go.Proofs.YtmbdnhgmpmnhmaaDoor.S
open Go.RowKit Go.Shelf
theorem wekF (V0 : World) (gs : Nat) (P : Pb) (wv fv rv : Value) (hk : Pok P) (hC : chkN P = 0) : ∀ (m : Nat), m ≤ 3 → ∀ (dv : Value) (D : List Nat) (a b c x f : Nat) (V : World) (zf zm : Int), Tr V0 gs P wv fv rv dv D a b c V → x < 18446744073709551616 → f ≤ 64 → zf = f → zm = m → D.length + 64 ^ m ≤ 1000000 → a + 64 ^ m * 4000000000000 ≤ 1152921504606846976 → b + 64 ^ m * 4000000000000 ≤ 1152921504606846976 → c + 64 ^ m * 4000000000000 ≤ 1152921504606846976 →
      Calls Tryd.prog 35 #[.pointer (some ⟨V0.heap.size, 0, none⟩), .agg #[.int .u64 (x : Int)], .int .i64 zf, .int .i64 zm] V (WkP V0 gs P wv fv rv dv D a b c (64 ^ m) (wekP P m x f) V)
  | 0, _, dv, D, a, b, c, x, f, V, _, _, h, hx, _, rfl, rfl, hD, ha, hb, hc => by
    rw [Nat.pow_zero] at hD ha hb hc ⊢
    exact wek0F V0 gs P wv fv rv dv D a b c x f V h hk hC hx (by omega) (by omega) (by omega) (by omega)
  | m + 1, hm, dv, D, a, b, c, x, f, V, _, _, h, hx, hf, rfl, rfl, hD, ha, hb, hc => by
    have e : 64 ^ (m + 1) = 64 * 64 ^ m := by rw [Nat.pow_succ, Nat.mul_comm]
    rw [e] at hD ha hb hc ⊢
    exact wekSF V0 gs P wv fv rv hk hC m (64 ^ m) (by omega) (fun dv D a b c x f V zf zm h hx hf h1 h2 => wekF V0 gs P wv fv rv hk hC m (by omega) dv D a b c x f V zf zm h hx hf h1 h2) dv D a b c x f V h hx hf hD ha hb hc
end Go.Proofs.YtmbdnhgmpmnhmaaDoor.S
namespace Go.Proofs.YtmbdnhgmpmnhmaaDoor.S
open Go.RowKit Go.Shelf
theorem wekP_re {P : Pb} (hC : chkN P = 0) {O : List Nat} (hO : O.Perm (List.range P.who.length)) : ∀ (m x f : Nat), wekP (reP P O) m x f = wekP P m x f
  | 0, x, f => by unfold wekP; rw [can_les_re hC hO]
  | m + 1, x, f => by
    unfold wekP
    show (List.range (P.users.toNat - f)).findSome? _ = _
    congr 1
    funext a
    exact wekP_re hC hO m _ _
theorem pok_reP {P : Pb} (hk : Pok P) (hC : chkN P = 0) {O : List Nat} (hO : O.Perm (List.range P.who.length)) : Pok (reP P O) := by
  obtain ⟨g12, g0, g64, g32, gF, gW, gR⟩ := chkN_zero hC
  have hl : O.length = P.who.length := re_len hO
  refine ⟨?_, ?_, ?_, ?_, ?_⟩
  · show (reW P O).length ≤ 1000; unfold reW; rw [List.length_map, hl]; exact hk.w
  · show (reF P O).length ≤ 1000; unfold reF; rw [List.length_map, hl]; exact hk.w
  · show (P.rules.map (reR O)).length ≤ 1000; rw [List.length_map]; exact hk.r
  · intro r hr
    obtain ⟨r0, _, rfl⟩ := List.mem_map.1 hr
    show (movN r0.steps (ints O)).length ≤ 1000
    have := movJ_len r0.steps (ints O) (ints O).length
    rw [ints_len, hl] at this
    have := hk.w
    unfold movN
    rw [ints_len, hl]
    omega
  · intro z hz
    obtain ⟨t, _, rfl⟩ := List.mem_map.1 (show z ∈ O.map (fun t => P.who.getD t 0) from hz)
    rcases Nat.lt_or_ge t P.who.length with h | h
    · rw [List.getD_eq_getElem?_getD, List.getElem?_eq_getElem h]
      exact hk.b _ (List.getElem_mem h)
    · rw [List.getD_eq_getElem?_getD, List.getElem?_eq_none h]; decide
/-- A new trial. -/
def NtP (w : World) (P : Pb) (e : Ending) (w' : World) : Prop :=
  ∃ (O : List Nat) (V0 : World) (gs : Nat) (wv fv rv : Value), Hid (O.Perm (List.range P.who.length)) ∧ e = .returned (.pointer (some ⟨V0.heap.size, 0, none⟩)) ∧ Hid (Tr V0 gs (reP P O) wv fv rv (.slice none 0 0) [] 0 0 0 w') ∧ Hid (Below w.heap.size w w') ∧ Hid (w.heap.size ≤ gs) ∧ Hid (Below w.heap.size w V0)
theorem Tr.start {V0 : World} {gs : Nat} {P : Pb} {wv fv rv : Value} (hp : PbV V0 P wv fv rv) (hg : GgAt V0 gs 0 0 0) (ht : M.Tab V0) (hG : 1 ≤ gs) (hn : ∀ ad n c, wv = .slice (some ad) n c → ad.block ≠ gs) :
    Tr V0 gs P wv fv rv (.slice none 0 0) [] 0 0 0 (V0.alloc (.cells #[.int .i64 P.users, wv, fv, rv, .pointer (some ⟨gs, 0, none⟩), .slice none 0 0] 72)) := by
  have hb : Below V0.heap.size V0 (V0.alloc (.cells #[.int .i64 P.users, wv, fv, rv, .pointer (some ⟨gs, 0, none⟩), .slice none 0 0] 72)) := (Below.refl _ V0).alloc (Nat.le_refl _) _
  refine ⟨World.rowIs_alloc V0 #[.int .i64 P.users, wv, fv, rv, .pointer (some ⟨gs, 0, none⟩), .slice none 0 0] _ _ fun i hi => ?_, hp, ⟨_, _, _, hg⟩, ht, .below hb, hg.below hb, World.ownsRow_nil _ _ _ _, fun d hd => (by cases hd), hG, hn⟩
  have hi : i < 6 := hi
  rcases (show i = 0 ∨ i = 1 ∨ i = 2 ∨ i = 3 ∨ i = 4 ∨ i = 5 by omega) with rfl | rfl | rfl | rfl | rfl | rfl <;> rfl
set_option maxRecDepth 100000 in
set_option maxHeartbeats 4000000 in
theorem newTF (P : Pb) (wv fv rv : Value) (w : World) (h : PbV w P wv fv rv) (hk : Pok P) (hC : chkN P = 0) (hT : M.Tab w) :
    Calls Tryd.prog 20 #[pbV P wv fv rv] w (NtP w P) := by
  obtain ⟨g12, g0, g64, g32, gF, gW, gR⟩ := chkN_zero hC
  have hfl : P.fixed.length = P.who.length := (fixB_of gF g64).1
  have hB1 : Hid (Below w.heap.size w (w.alloc (.cells #[.int .i64 P.users, wv, fv, rv] 26))) := (Below.refl _ _).alloc (Nat.le_refl _) _
  have hs1 := hide' (World.size_alloc w (.cells #[.int .i64 P.users, wv, fv, rv] 26))
  have hb1 : PbB (w.alloc (.cells #[.int .i64 P.users, wv, fv, rv] 26)) w.heap.size P wv fv rv := heap_new w _
  have p0 := hb1.c0
  have p1 := hb1.c1
  have p2 := hb1.c2
  have p3 := hb1.c3
  have KT := hide' (tightFF P wv fv rv _ (h.below hB1.out) hk hfl (by omega))
  unfold pbV at KT
  have KN := hide' (fun V => newF V)
  have hT' := hide' hT
  unfold NtP pbV
  clear h hk hC g12 g0 g64 g32 gF gW gR hfl hb1 hT
  go_enter Tryd.func20, Tryd.ntmps20
  go_wp2_with fail
  refine KT.out.mono ?_
  rintro e w4 ⟨O, hO, o1, n1, c1, o2, n2, c2, o3, n3, c3, rfl, hp4, hb4, hu4⟩
  go_wp2_with fail
  refine (KN.out w4).mono ?_
  rintro e w5 ⟨rfl, hg5, hb5⟩
  have hb4' : Hid (Below w.heap.size w w4) := hB1.out.trans (hb4.out.mono (by rw [hs1.out]; omega))
  have hTr := hide' (Tr.start (hp4.out.below hb5.out) hg5.out (hT'.out.over (hb4'.out.trans (hb5.out.mono hb4'.out.size))) (Nat.le_trans hT'.out.2 hb4'.out.size) (fun ad n c e => by have := hu4.out ad n c e; omega))
  have hB6 : Hid (Below w.heap.size w (w5.alloc (.cells #[.int .i64 (reP P O).users, .slice o1 n1 c1, .slice o2 n2 c2, .slice o3 n3 c3, .pointer (some ⟨w4.heap.size, 0, none⟩), .slice none 0 0] 72))) := (hb4'.out.trans (hb5.out.mono hb4'.out.size)).alloc (Nat.le_trans hb4'.out.size hb5.out.size) _
  have hge := hide' hb4'.out.size
  have hB5 : Hid (Below w.heap.size w w5) := hb4'.out.trans (hb5.out.mono hb4'.out.size)
  clear KT KN hp4 hb4 hu4 hg5 hb5 hb4' hT'
  go_wp2
  go_ret
  exact ⟨O, w5, w4.heap.size, _, _, _, hO, rfl, hTr, hB6, hge, hB5⟩
set_option maxRecDepth 100000 in
set_option maxHeartbeats 4000000 in
theorem weakF (V0 : World) (gs : Nat) (P : Pb) (wv fv rv : Value) (hk : Pok P) (hC : chkN P = 0) (m : Nat) (hm : m ≤ 3) (dv : Value) (D : List Nat) (a b c : Nat) (V : World) (zm : Int) (h : Tr V0 gs P wv fv rv dv D a b c V) (hzm : zm = m) (hD : D.length + 64 ^ m ≤ 1000000) (ha : a + 64 ^ m * 4000000000000 ≤ 1152921504606846976) (hb : b + 64 ^ m * 4000000000000 ≤ 1152921504606846976) (hc : c + 64 ^ m * 4000000000000 ≤ 1152921504606846976) :
    Calls Tryd.prog 21 #[.pointer (some ⟨V0.heap.size, 0, none⟩), .int .i64 zm] V (WkP V0 gs P wv fv rv dv D a b c (64 ^ m) (wekP P m 0 0) V) := by
  have hB : Hid (Below V.heap.size V (V.alloc (.cells #[.int .u64 0] 54))) := (Below.refl _ V).alloc (Nat.le_refl _) _
  have KW := hide' (wekF V0 gs P wv fv rv hk hC m hm dv D a b c 0 0 _ 0 zm (h.over hB.out) (by decide) (by decide) rfl hzm hD ha hb hc)
  have hR0 : Hid (Bo (V.alloc (.cells #[.int .u64 0] 54)) V.heap.size (.int .u64 0)) := Bo.new V _ _
  have hz : (V.alloc (.cells #[.int .u64 0] 54)).heap.size = V.heap.size + 1 := World.size_alloc _ _
  have hlt' : Hid (∀ g, dv.ownBlock = some g → g < V.heap.size) := fun g e => own_lt' h.dr e
  have hgV : V0.heap.size < V.heap.size := h.tb.lt
  have hgl := h.gl
  generalize wekP P m 0 0 = r at *
  unfold WkP at KW ⊢
  have hfin : Hid (∀ w5 dv' D' a' b' c' (y : Value), Tr V0 gs P wv fv rv dv' D' a' b' c' w5 → (a' ≤ a + 64 ^ m * 4000000000000 ∧ b' ≤ b + 64 ^ m * 4000000000000 ∧ c' ≤ c + 64 ^ m * 4000000000000 ∧ D'.length ≤ D.length + 64 ^ m) → ((V.alloc (.cells #[.int .u64 0] 54)).heap.size ≤ w5.heap.size ∧ (∀ k, k < (V.alloc (.cells #[.int .u64 0] 54)).heap.size → k ≠ V0.heap.size → k ≠ gs → dv.ownBlock ≠ some k → w5.heap[k]? = (V.alloc (.cells #[.int .u64 0] 54)).heap[k]?) ∧ (∀ k, dv'.ownBlock = some k → dv.ownBlock = some k ∨ (V.alloc (.cells #[.int .u64 0] 54)).heap.size ≤ k)) → ∃ dv' D' a' b' c', Hid (Tr V0 gs P wv fv rv dv' D' a' b' c' (w5.setCell ⟨V.heap.size, 0, none⟩ y)) ∧ Hid (a' ≤ a + 64 ^ m * 4000000000000 ∧ b' ≤ b + 64 ^ m * 4000000000000 ∧ c' ≤ c + 64 ^ m * 4000000000000 ∧ D'.length ≤ D.length + 64 ^ m) ∧ Hid (V.heap.size ≤ (w5.setCell ⟨V.heap.size, 0, none⟩ y).heap.size ∧ (∀ k, k < V.heap.size → k ≠ V0.heap.size → k ≠ gs → dv.ownBlock ≠ some k → (w5.setCell ⟨V.heap.size, 0, none⟩ y).heap[k]? = V.heap[k]?) ∧ (∀ k, dv'.ownBlock = some k → dv.ownBlock = some k ∨ V.heap.size ≤ k))) := fun w5 dv' D' a' b' c' y h1 h2 h3 => by
    rw [hz] at h3
    obtain ⟨h4, h5, h6⟩ := h3
    have hs : ∀ k, k ≠ V.heap.size → (w5.setCell ⟨V.heap.size, 0, none⟩ y).heap[k]? = w5.heap[k]? := fun k e => Below.heap_setCell _ _ _ _ e
    have hzz : (w5.setCell ⟨V.heap.size, 0, none⟩ y).heap.size = w5.heap.size := by simp [World.setCell]
    refine ⟨dv', D', a', b', c', ?_, h2, ⟨by rw [hzz]; omega, fun k q1 q2 q3 q4 => ?_, fun k e => (h6 k e).imp id (by omega)⟩⟩
    · refine ⟨h1.tb.of (hs _ (by omega)), h1.p0, h1.g0, h1.t0, ⟨h1.fr.os, h1.fr.tape, h1.fr.output, by rw [hzz]; exact h1.fr.size, fun k q1 q2 q3 => (hs k (by omega)).trans (h1.fr.block k q1 q2 q3)⟩, World.rowIs.of_block h1.gg (hs _ (by omega)), own_same h1.dr fun g q1 q2 => hs g ?_, h1.inv, h1.hG, h1.nwv⟩
      rcases h6 g q2 with e | e
      · have := hlt'.out g e; omega
      · omega
    · exact (hs k (by omega)).trans ((h5 k (by omega) q2 q3 q4).trans (hB.out.block k q1))
  have hcl : Hid (∀ w5 : World, (∀ k, k < (V.alloc (.cells #[.int .u64 0] 54)).heap.size → k ≠ V0.heap.size → k ≠ gs → dv.ownBlock ≠ some k → w5.heap[k]? = (V.alloc (.cells #[.int .u64 0] 54)).heap[k]?) → Bo w5 V.heap.size (.int .u64 0)) := fun w5 h5 => hR0.out.of (h5 _ (by omega) (by omega) (by omega) fun e => by have := hlt'.out _ e; omega)
  clear hz h hk hC hD ha hb hc hB hR0 hlt'
  generalize (64 : Nat) ^ m = q at *
  subst hzm
  go_enter Tryd.func21, Tryd.ntmps21
  go_wp2_with fail
  refine KW.out.mono ?_
  rintro e w5 ⟨rfl, dv', D', a', b', c', hT5, hle5, hf5⟩
  have hR5 := hcl.out _ hf5.out.2.1
  have r5 := hR5.c
  have z5 := hR5.fz
  have s5 := (hR5.set (.int .u64 ((r.getD 0 : Nat) : Int))).c
  have hfz := hide' (hfin.out _ _ _ _ _ _ (.int .u64 ((r.getD 0 : Nat) : Int)) hT5.out hle5.out hf5.out)
  clear hfin hcl KW hT5 hle5 hf5 hR5
  go_wp2
  refine bodyPost_ret (v := .tuple #[.agg #[.int .u64 ((r.getD 0 : Nat) : Int)], .bool r.isSome]) (by simp [results, Tryd.results21, go_sem, s5]) rfl ⟨rfl, hfz.out⟩
/-- A trial, k calls of bears later. -/
def Tk (V0 : World) (gs : Nat) (P : Pb) (wv fv rv : Value) (k : Nat) (dv : Value) (W : World) : Prop :=
  ∃ D a b c, Tr V0 gs P wv fv rv dv D a b c W ∧ a ≤ k * 4000000000000 ∧ b ≤ k * 4000000000000 ∧ c ≤ k * 4000000000000 ∧ D.length ≤ k
section
variable {V0 : World} {gs : Nat} {P : Pb} {wv fv rv : Value} {k : Nat} {dv : Value} {W W' : World}
theorem Tk.over (h : Tk V0 gs P wv fv rv k dv W) (hb : Below W.heap.size W W') : Tk V0 gs P wv fv rv k dv W' := by
  obtain ⟨D, a, b, c, h1, h2⟩ := h
  exact ⟨D, a, b, c, h1.over hb, h2⟩
theorem Tk.sz (h : Tk V0 gs P wv fv rv k dv W) : V0.heap.size + 1 ≤ W.heap.size := by obtain ⟨D, a, b, c, h1, _⟩ := h; exact h1.sz
theorem Tk.gl (h : Tk V0 gs P wv fv rv k dv W) : gs < V0.heap.size := by obtain ⟨D, a, b, c, h1, _⟩ := h; exact h1.gl
theorem Tk.ne (h : Tk V0 gs P wv fv rv k dv W) : dv.ownBlock ≠ some W.heap.size := fun e => by obtain ⟨D, a, b, c, h1, _⟩ := h; exact Nat.lt_irrefl _ (own_lt' h1.dr e)
theorem Tk.tab (h : Tk V0 gs P wv fv rv k dv W) : M.Tab W := by obtain ⟨D, a, b, c, h1, _⟩ := h; exact h1.tab
theorem Tk.be {n : Nat} {w : World} (h : Tk V0 gs P wv fv rv k dv W) (hb : Below n w V0) (hn : n ≤ gs) : Below n w W := by
  have hl := h.gl
  obtain ⟨D, a, b, c, h1, _⟩ := h
  exact h1.fr.new hb hn hn (by omega)
/-- A box of one's own is written. -/
theorem Tk.box (h : Tk V0 gs P wv fv rv k dv W) {g : Nat} (h1 : V0.heap.size < g) (h2 : dv.ownBlock ≠ some g) (u : Value) : Tk V0 gs P wv fv rv k dv (W.setCell ⟨g, 0, none⟩ u) := by
  have hl := h.gl
  obtain ⟨D, a, b, c, h, hle⟩ := h
  have hs : ∀ y, y ≠ g → (W.setCell ⟨g, 0, none⟩ u).heap[y]? = W.heap[y]? := fun y e => Below.heap_setCell _ _ _ _ e
  have hzz : (W.setCell ⟨g, 0, none⟩ u).heap.size = W.heap.size := by simp [World.setCell]
  exact ⟨D, a, b, c, ⟨h.tb.of (hs _ (by omega)), h.p0, h.g0, h.t0, ⟨h.fr.os, h.fr.tape, h.fr.output, by rw [hzz]; exact h.fr.size, fun y q1 q2 q3 => (hs y (by omega)).trans (h.fr.block y q1 q2 q3)⟩, World.rowIs.of_block h.gg (hs _ (by omega)), own_same h.dr fun y q1 q2 => hs y (fun e => h2 (e ▸ q2)), h.inv, h.hG, h.nwv⟩, hle⟩
theorem bearsT (hk : Pok P) (hC : chkN P = 0) (x : Nat) (hx : x < 18446744073709551616) (h : Tk V0 gs P wv fv rv k dv W) (hkk : k ≤ 200000) :
    Calls Tryd.prog 22 #[.pointer (some ⟨V0.heap.size, 0, none⟩), .agg #[.int .u64 (x : Int)]] W fun e w' => e = .returned (.bool (canB (lesP P x))) ∧ ∃ dv', Hid (Tk V0 gs P wv fv rv (k + 1) dv' w') ∧ Hid (∀ g v, Bo W g v → V0.heap.size < g → dv.ownBlock ≠ some g → Bo w' g v ∧ dv'.ownBlock ≠ some g) := by
  have hl := h.gl
  obtain ⟨D, a, b, c, h1, l1, l2, l3, l4⟩ := h
  refine (bearsF V0 gs P wv fv rv dv D a b c x W h1 hk hC hx (by omega) (by omega) (by omega) (by omega)).mono ?_
  rintro e w' ⟨rfl, dv', D', a', b', c', hT, hle, hf⟩
  obtain ⟨m1, m2, m3, m4⟩ := hle.out
  exact ⟨rfl, dv', ⟨D', a', b', c', hT.out, by omega, by omega, by omega, by omega⟩, fun g v hb q1 q2 => ⟨hb.of (hf.out.2.1 g hb.lt (by omega) (by omega) q2), fun e => by
    rcases hf.out.2.2 g e with q | q
    · exact q2 q
    · have := hb.lt; omega⟩⟩
theorem weakT (hk : Pok P) (hC : chkN P = 0) (m : Nat) (hm : m ≤ 3) (zm : Int) (hzm : zm = m) (h : Tk V0 gs P wv fv rv k dv W) (hkk : k ≤ 5000) :
    Calls Tryd.prog 21 #[.pointer (some ⟨V0.heap.size, 0, none⟩), .int .i64 zm] W fun e w' => e = .returned (.tuple #[.agg #[.int .u64 (((wekP P m 0 0).getD 0 : Nat) : Int)], .bool (wekP P m 0 0).isSome]) ∧ ∃ dv', Hid (Tk V0 gs P wv fv rv (k + 64 ^ m) dv' w') := by
  have hp : 64 ^ m ≤ 262144 := Nat.pow_le_pow_right (by decide : 0 < 64) hm
  obtain ⟨D, a, b, c, h1, l1, l2, l3, l4⟩ := h
  refine (weakF V0 gs P wv fv rv hk hC m hm dv D a b c W zm h1 hzm (by omega) (by omega) (by omega) (by omega)).mono ?_
  rintro e w' ⟨rfl, dv', D', a', b', c', hT, hle, hf⟩
  obtain ⟨m1, m2, m3, m4⟩ := hle.out
  exact ⟨rfl, dv', ⟨D', a', b', c', hT.out, by omega, by omega, by omega, by omega⟩⟩
end
end Go.Proofs.YtmbdnhgmpmnhmaaDoor.S
namespace Go.Proofs.YtmbdnhgmpmnhmaaDoor.S
open Go.RowKit Go.Shelf
/-- The users needed, below j. -/
noncomputable def nedJ (P : Pb) : Nat → Nat
  | 0 => 0
  | j + 1 => if canB (lesP P (2 ^ j)) then nedJ P j else nedJ P j ||| 2 ^ j
noncomputable def nedP (P : Pb) : Nat := if chkN P = 0 ∧ canB (lesP P 0) = true then nedJ P P.users.toNat else 0
theorem nedJ_lt (P : Pb) : ∀ {j : Nat}, j ≤ 64 → nedJ P j < 18446744073709551616
  | 0, _ => by show (0 : Nat) < _; decide
  | j + 1, h => by
    unfold nedJ
    split
    · exact nedJ_lt P (by omega)
    · exact Nat.or_lt_two_pow (n := 64) (nedJ_lt P (by omega)) (Nat.pow_lt_pow_right (by decide) (by omega))
theorem nedJ_bit (P : Pb) (u : Nat) : ∀ j : Nat, (nedJ P j).testBit u = (decide (u < j) && !canB (lesP P (2 ^ u)))
  | 0 => by show Nat.testBit 0 u = _; simp
  | j + 1 => by
    unfold nedJ
    by_cases e : u = j
    · subst e
      cases hc : canB (lesP P (2 ^ u)) with
      | true => rw [if_pos rfl, nedJ_bit P u u, hc]; simp
      | false => rw [if_neg (by decide), Nat.testBit_or, nedJ_bit P u u, hc, Nat.testBit_two_pow_self]; simp
    · have h2 : decide (u < j + 1) = decide (u < j) := by rw [Bool.eq_iff_iff, decide_eq_true_iff, decide_eq_true_iff]; omega
      rw [h2, ← nedJ_bit P u j]
      split
      · rfl
      · rw [Nat.testBit_or, Nat.testBit_two_pow_of_ne (by omega), Bool.or_false]
set_option maxRecDepth 100000 in
set_option maxHeartbeats 2000000 in
theorem neededF (P : Pb) (wv fv rv : Value) (w : World) (h : PbV w P wv fv rv) (hk : Pok P) (hT : M.Tab w) :
    Calls Tryd.prog 10 #[pbV P wv fv rv] w fun e w' => e = .returned (.int .u64 ((nedP P : Nat) : Int)) ∧ Below w.heap.size w w' := by
  have hB1 : Hid (Below w.heap.size w (w.alloc (.cells #[.int .i64 P.users, wv, fv, rv] 26))) := (Below.refl _ _).alloc (Nat.le_refl _) _
  have hb1 : Hid (PbB (w.alloc (.cells #[.int .i64 P.users, wv, fv, rv] 26)) w.heap.size P wv fv rv) := heap_new w _
  have p0 := hb1.out.c0
  have p1 := hb1.out.c1
  have p2 := hb1.out.c2
  have p3 := hb1.out.c3
  have KC := hide' (checkPF P wv fv rv _ (h.below hB1.out) hk.w hk.f hk.r hk.s hk.b)
  have KN : Hid (chkN P = 0 → ∀ V, Below w.heap.size w V → Calls Tryd.prog 20 #[.agg #[.int .i64 P.users, wv, fv, rv]] V (NtP V P)) := fun hC V hV => newTF P wv fv rv V (h.below hV) hk hC (hT.over hV)
  have hk' := hide' hk
  unfold pbV at KC ⊢
  clear h hk hT
  by_cases hC : chkN P = 0
  · rw [hC] at KC
    have KN2 := hide' (KN.out hC)
    obtain ⟨g12, g0, g64, g32, gF, gW, gR⟩ := chkN_zero hC
    obtain ⟨U, hU⟩ : ∃ U : Nat, P.users = (U : Int) := ⟨P.users.toNat, by omega⟩
    have hU64 : U ≤ 64 := by omega
    have hCh := hide' hC
    have hU' := hide' hU
    clear g12 g0 g64 g32 gF gW gR KN hC hU
    go_enter Tryd.func10, Tryd.ntmps10
    go_upto_region 1 with fail
    generalize w.alloc (.cells #[.int .i64 P.users, wv, fv, rv] 26) = w1 at *
    go_wp2_with fail
    refine KC.out.mono ?_
    rintro e w2 ⟨rfl, hb2⟩
    have hB2 : Hid (Below w.heap.size w w2) := hB1.out.trans (hb2.mono hB1.out.size)
    have hb3 := hide' (hb1.out.below hb2)
    have p0 := hb3.out.c0
    have p1 := hb3.out.c1
    have p2 := hb3.out.c2
    have p3 := hb3.out.c3
    have hlt3 : w.heap.size < w2.heap.size := (Array.getElem?_eq_some_iff.1 hb3.out).1
    have KN3 := hide' (KN2.out w2 hB2.out)
    clear KC KN2 hb2 hb1
    go_wp2_with fail
    refine KN3.out.mono ?_
    rintro e w3 ⟨O, V0, gs, wv', fv', rv', hO, rfl, hTr, hB3, hgs, hBV⟩
    have hT3 : Hid (Tk V0 gs (reP P O) wv' fv' rv' 0 (.slice none 0 0) w3) := ⟨_, _, _, _, hTr.out, by omega, by omega, by omega, Nat.le_refl _⟩
    have hkO : Hid (Pok (reP P O)) := pok_reP hk'.out hCh.out hO.out
    have hCO : Hid (chkN (reP P O) = 0) := chk_reP hCh.out hO.out
    have KB0 := hide' (bearsT hkO.out hCO.out 0 (by decide) hT3.out (by omega))
    have hcan := hide' (can_les_re hCh.out hO.out)
    rw [hcan.out] at KB0
    clear KN3 hTr p0 p1 p2 p3
    cases hcb : canB (lesP P 0)
    · rw [hcb] at KB0
      have h0 : Hid (nedP P = 0) := by show _ = _; unfold nedP; rw [if_neg (by rw [hcb]; rintro ⟨_, q⟩; cases q)]
      clear hcb hkO hCO hcan hk' hCh hO
      go_wp2_with fail
      refine KB0.out.mono ?_
      rintro e w4 ⟨rfl, dv4, hT4, hk4⟩
      have hB4 := hide' (hT4.out.be hBV.out hgs.out)
      clear KB0 hT4 hk4
      go_wp2
      go_ret
      exact ⟨by rw [h0.out]; rfl, hB2.out.trans (hB4.out.mono hB2.out.size)⟩
    · rw [hcb] at KB0
      have hne : Hid (nedP P = nedJ P U) := by
        show _ = _
        unfold nedP; rw [if_pos ⟨hCh.out, hcb⟩, hU'.out]; rfl
      clear hcb
      go_wp2_with fail
      refine KB0.out.mono ?_
      rintro e w4 ⟨rfl, dv4, hT4, hk4⟩
      have hB4 := hide' (hT4.out.be hBV.out hgs.out)
      have q0 := (hb3.out.below (hB4.out.alloc hB4.out.size (.cells #[.int .u64 0] 54))).c0
      rw [hU'.out] at q0
      have hT5 := hide' (hT4.out.over ((Below.refl _ w4).alloc (Nat.le_refl _) (.cells #[.int .u64 0] 54)))
      have hN5 : Hid (Bo (w4.alloc (.cells #[.int .u64 0] 54)) w4.heap.size (.int .u64 ((nedJ P 0 : Nat) : Int))) := Bo.new w4 (.int .u64 0) _
      have hV4 : V0.heap.size < w4.heap.size := hT4.out.sz
      have hne4 := hide' hT4.out.ne
      clear KB0 hk4 hT3 hb3 hB3 hT4 hB4
      go_upto_block 0 with fail
      clear q0
      obtain ⟨gn, hgn⟩ : ∃ gn, gn = w4.heap.size := ⟨_, rfl⟩
      rw [← hgn] at hN5 hV4 hne4 ⊢
      clear hgn
      generalize w4.alloc (.cells #[.int .u64 0] 54) = w5 at *
      go_wp2
      go_loopw [17, 5] (fun kv _ wr => ∃ (j : Nat) (dv : Value), j ≤ U ∧ kv = .int .i64 (j : Int) ∧ Hid (Tk V0 gs (reP P O) wv' fv' rv' (j + 1) dv wr) ∧ Hid (Bo wr gn (.int .u64 ((nedJ P j : Nat) : Int))) ∧ Hid (dv.ownBlock ≠ some gn)) (fun kv _ _ => ((U : Int) - intOf kv).toNat)
      case atStart => exact ⟨0, dv4, Nat.zero_le _, rfl, hT5, hN5, hne4⟩
      case round =>
        clear hT5 hN5 hne4
        obtain ⟨j, dv, hj, rfl, hTk, hN, hdn⟩ := hrel
        by_cases hlt : j < U
        · have hlt' : (j : Int) < (U : Int) := by omega
          have hu64 : j < 64 := by omega
          have hpl : (2 : Nat) ^ j < 18446744073709551616 := Nat.lt_of_lt_of_le (Nat.pow_lt_pow_right (by decide) hu64) (Nat.le_refl (2 ^ 64))
          have KOn : Hid (∀ V, Calls Tryd.prog 23 #[.int .i64 (j : Int)] V fun e w' => e = .returned (.agg #[.int .u64 ((2 ^ j : Nat) : Int)]) ∧ Below V.heap.size V w') := fun V => onlyH j hu64 V
          have KB : Hid (∀ V, Tk V0 gs (reP P O) wv' fv' rv' (j + 1) dv V → Calls Tryd.prog 22 #[.pointer (some ⟨V0.heap.size, 0, none⟩), .agg #[.int .u64 ((2 ^ j : Nat) : Int)]] V fun e w' => e = .returned (.bool (canB (lesP P (2 ^ j)))) ∧ ∃ dv', Hid (Tk V0 gs (reP P O) wv' fv' rv' (j + 1 + 1) dv' w') ∧ Hid (∀ g v, Bo V g v → V0.heap.size < g → dv.ownBlock ≠ some g → Bo w' g v ∧ dv'.ownBlock ≠ some g)) := fun V hV => by
            have := bearsT hkO.out hCO.out (2 ^ j) hpl hV (by omega)
            rw [hcan.out] at this
            exact this
          have hS : Hid (nedJ P (j + 1) = if canB (lesP P (2 ^ j)) then nedJ P j else nedJ P j ||| 2 ^ j) := rfl
          have hacc := nedJ_lt P (j := j) (by omega)
          have KOr : Hid (∀ V, Calls Tryd.prog 24 #[.agg #[.int .u64 ((nedJ P j : Nat) : Int)], .agg #[.int .u64 ((2 ^ j : Nat) : Int)]] V fun e w' => e = .returned (.agg #[.int .u64 ((nedJ P j ||| 2 ^ j : Nat) : Int)]) ∧ Below V.heap.size V w') := fun V => M.or64 _ _ hacc hpl V
          generalize canB (lesP P (2 ^ j)) = cb at *
          generalize nedJ P j ||| 2 ^ j = a2 at *
          generalize nedJ P j = a1 at *
          generalize (2 : Nat) ^ j = pj at *
          clear hpl hacc hcan hkO hCO
          go_wp2_with fail
          refine (KOn.out _).mono ?_
          rintro e w6 ⟨rfl, hb6⟩
          have hT6 := hide' (hTk.out.over hb6)
          have hN6 := hide' (hN.out.over hb6)
          clear hTk hN
          go_wp2_with fail
          refine (KB.out _ hT6.out).mono ?_
          rintro e w7 ⟨rfl, dv7, hT7, hk7⟩
          obtain ⟨hN7', hd7'⟩ := hk7.out gn _ hN6.out hV4 hdn.out
          have hN7 := hide' hN7'
          have hd7 := hide' hd7'
          clear KB hT6 hN6 hk7 hN7' hd7' hdn hb6
          cases cb
          · have hS' : Hid (nedJ P (j + 1) = a2) := hS.out
            have dd := hN7.out.c
            clear hS
            go_upto_region 11 with fail
            have hTd := hide' (hT7.out.over (Below.refl _ w7).drew)
            have hNd := hide' (hN7.out.over (Below.refl _ w7).drew)
            have ddd := hNd.out.c
            clear dd hT7 hN7
            refine wp_region_held_drew (S := (fun _ => True)) (by kernel_rfl) ?_ (fun hHeld => ?_)
            · trivial
            refine wpAnyH_take (i := 1) (oi := { dst := some 26, op := Op.move (Operand.tmp 5), type := 3, pos := "hardy.go:45", after := #[], guard := none }) (v := ?_) rfl (by kernel_rfl) (by kernel_rfl) (by kernel_rfl) (fun _ _ _ h => h) (Or.inl ⟨by rfl, ?_⟩) (by assumption) ?_
            rotate_left
            · intro w hSw; (try dsimp only at hSw); go_simp <;> with_reducible rfl
            simp only [Act.put, List.setIfInBounds_toArray, List.set_cons_zero, List.set_cons_succ]
            refine wpAnyH_ready (rs := [0, 2]) (by kernel_rfl) (by simp) ?_
            refine AllReadyH.cons (o := { dst := some 25, op := Op.load 54 (Operand.tmp 4), type := 54, pos := "hardy.go:45", after := #[], guard := none }) rfl (fun K hK => ?_) ?_
            · skip
              go_simp
              refine hK.out _ _ ?_ (fun hHeld => ?_)
              · trivial
              clear hK K
              try simp only [Act.put, List.setIfInBounds_toArray, List.set_cons_zero, List.set_cons_succ]
              refine wpAnyH_ready (rs := [2]) (by kernel_rfl) (by simp) ?_
              refine AllReadyH.cons (o := { dst := some 27, op := Op.call { callee := Callee.value (Operand.func 23), args := #[Operand.tmp 26], argTypes := #[3] }, type := 54, pos := "hardy.go:45", after := #[{ on := 1, ground := Ground.data }], guard := none }) rfl (fun K hK => ?_) AllReadyH.nil
              go_simp
              go_at_call 23; refine (KOn.out _).mono ?_; rintro e v2 ⟨rfl, hb2⟩; have hT2 := hide' (hTd.out.over hb2); have hN2 := hide' (hNd.out.over hb2); have d2' := hN2.out.c; (try dsimp only)
              refine hK.out _ _ ?_ (fun hHeld => ?_)
              · trivial
              clear hK K
              try simp only [Act.put, List.setIfInBounds_toArray, List.set_cons_zero, List.set_cons_succ]
              refine wpAnyH_ready (rs := [3]) (by kernel_rfl) (by simp) ?_
              refine AllReadyH.cons (o := { dst := some 28, op := Op.call { callee := Callee.value (Operand.func 24), args := #[Operand.tmp 25, Operand.tmp 27], argTypes := #[54, 54] }, type := 54, pos := "hardy.go:45", after := #[{ on := 0, ground := Ground.data }, { on := 2, ground := Ground.data }, { on := 2, ground := Ground.chain }], guard := none }) rfl (fun K hK => ?_) AllReadyH.nil
              go_simp
              go_at_call 24; refine (KOr.out _).mono ?_; rintro e v3 ⟨rfl, hb3⟩; have hT3 := hide' (hT2.out.over hb3); have hN3 := hide' (hN2.out.over hb3); have d3' := hN3.out.c; have f3' := hN3.out.fz; (try dsimp only)
              refine hK.out _ _ ?_ (fun hHeld => ?_)
              · trivial
              clear hK K
              try simp only [Act.put, List.setIfInBounds_toArray, List.set_cons_zero, List.set_cons_succ]
              refine wpAnyH_ready (rs := [4]) (by kernel_rfl) (by simp) ?_
              refine AllReadyH.cons (o := { dst := none, op := Op.store 54 (Operand.tmp 4) (Operand.tmp 28), type := 0, pos := "hardy.go:45", after := #[{ on := 3, ground := Ground.data }, { on := 3, ground := Ground.chain }, { on := 0, ground := Ground.phase }, { on := 1, ground := Ground.phase }, { on := 2, ground := Ground.phase }, { on := 3, ground := Ground.phase }], guard := none }) rfl (fun K hK => ?_) AllReadyH.nil
              go_simp
              refine hK.out _ _ ?_ (fun hHeld => ?_)
              · trivial
              clear hK K
              try simp only [Act.put, List.setIfInBounds_toArray, List.set_cons_zero, List.set_cons_succ]
              refine wpAnyH_done (by kernel_rfl) ?_ _
              skip
              have hT4 := hide' (hT3.out.box hV4 hd7.out (.int .u64 (a2 : Int)))
              have hN4 := hide' (hN3.out.set (.int .u64 (a2 : Int)))
              clear hT3 hN3 d3' f3'
              go_wp2
              exact ⟨⟨j + 1, dv7, by omega, by go_num, hT4, by rw [hS'.out]; exact hN4, hd7⟩, by simp [intOf]; omega⟩
            refine AllReadyH.cons (o := { dst := some 27, op := Op.call { callee := Callee.value (Operand.func 23), args := #[Operand.tmp 26], argTypes := #[3] }, type := 54, pos := "hardy.go:45", after := #[{ on := 1, ground := Ground.data }], guard := none }) rfl (fun K hK => ?_) AllReadyH.nil
            go_simp
            go_at_call 23; refine (KOn.out _).mono ?_; rintro e v2 ⟨rfl, hb2⟩; have hT2 := hide' (hTd.out.over hb2); have hN2 := hide' (hNd.out.over hb2); have d2' := hN2.out.c; (try dsimp only)
            refine hK.out _ _ ?_ (fun hHeld => ?_)
            · trivial
            clear hK K
            try simp only [Act.put, List.setIfInBounds_toArray, List.set_cons_zero, List.set_cons_succ]
            refine wpAnyH_ready (rs := [0]) (by kernel_rfl) (by simp) ?_
            refine AllReadyH.cons (o := { dst := some 25, op := Op.load 54 (Operand.tmp 4), type := 54, pos := "hardy.go:45", after := #[], guard := none }) rfl (fun K hK => ?_) AllReadyH.nil
            go_simp
            refine hK.out _ _ ?_ (fun hHeld => ?_)
            · trivial
            clear hK K
            try simp only [Act.put, List.setIfInBounds_toArray, List.set_cons_zero, List.set_cons_succ]
            refine wpAnyH_ready (rs := [3]) (by kernel_rfl) (by simp) ?_
            refine AllReadyH.cons (o := { dst := some 28, op := Op.call { callee := Callee.value (Operand.func 24), args := #[Operand.tmp 25, Operand.tmp 27], argTypes := #[54, 54] }, type := 54, pos := "hardy.go:45", after := #[{ on := 0, ground := Ground.data }, { on := 2, ground := Ground.data }, { on := 2, ground := Ground.chain }], guard := none }) rfl (fun K hK => ?_) AllReadyH.nil
            go_simp
            go_at_call 24; refine (KOr.out _).mono ?_; rintro e v3 ⟨rfl, hb3⟩; have hT3 := hide' (hT2.out.over hb3); have hN3 := hide' (hN2.out.over hb3); have d3' := hN3.out.c; have f3' := hN3.out.fz; (try dsimp only)
            refine hK.out _ _ ?_ (fun hHeld => ?_)
            · trivial
            clear hK K
            try simp only [Act.put, List.setIfInBounds_toArray, List.set_cons_zero, List.set_cons_succ]
            refine wpAnyH_ready (rs := [4]) (by kernel_rfl) (by simp) ?_
            refine AllReadyH.cons (o := { dst := none, op := Op.store 54 (Operand.tmp 4) (Operand.tmp 28), type := 0, pos := "hardy.go:45", after := #[{ on := 3, ground := Ground.data }, { on := 3, ground := Ground.chain }, { on := 0, ground := Ground.phase }, { on := 1, ground := Ground.phase }, { on := 2, ground := Ground.phase }, { on := 3, ground := Ground.phase }], guard := none }) rfl (fun K hK => ?_) AllReadyH.nil
            go_simp
            refine hK.out _ _ ?_ (fun hHeld => ?_)
            · trivial
            clear hK K
            try simp only [Act.put, List.setIfInBounds_toArray, List.set_cons_zero, List.set_cons_succ]
            refine wpAnyH_done (by kernel_rfl) ?_ _
            skip
            have hT4 := hide' (hT3.out.box hV4 hd7.out (.int .u64 (a2 : Int)))
            have hN4 := hide' (hN3.out.set (.int .u64 (a2 : Int)))
            clear hT3 hN3 d3' f3'
            go_wp2
            exact ⟨⟨j + 1, dv7, by omega, by go_num, hT4, by rw [hS'.out]; exact hN4, hd7⟩, by simp [intOf]; omega⟩
          · have hS' : Hid (nedJ P (j + 1) = a1) := hS.out
            clear hS
            go_wp2
            exact ⟨⟨j + 1, dv7, by omega, by go_num, hT7, by rw [hS'.out]; exact hN7, hd7⟩, by simp [intOf]; omega⟩
        · obtain rfl : j = U := by omega
          have dd := hN.out.c
          have hB5 := hide' (hTk.out.be hBV.out hgs.out)
          have KWd : Hid (∀ V, Calls Tryd.prog 25 #[.agg #[.int .u64 ((nedJ P j : Nat) : Int)]] V fun e w' => e = .returned (.int .u64 ((nedJ P j : Nat) : Int)) ∧ Below V.heap.size V w') := fun V => M.word64 _ V
          generalize nedJ P j = a1 at *
          clear hTk hN
          go_wp2_with fail
          refine (KWd.out _).mono ?_
          rintro e w6 ⟨rfl, hb6⟩
          go_wp2
          go_ret
          exact ⟨by rw [hne.out]; rfl, hB2.out.trans ((hB5.out.trans (hb6.mono hB5.out.size)).mono hB2.out.size)⟩
  · have hne : ((chkN P : Int) == 0) = false := by simp; omega
    have h0 : nedP P = 0 := by unfold nedP; rw [if_neg fun q => hC q.1]
    rw [h0]
    generalize (chkN P : Int) = q at *
    clear KN hk' hC h0
    go_enter Tryd.func10, Tryd.ntmps10
    go_upto_region 1 with fail
    generalize w.alloc (.cells #[.int .i64 P.users, wv, fv, rv] 26) = w1 at *
    go_wp2_with fail
    refine KC.out.mono ?_
    rintro e w2 ⟨rfl, hb2⟩
    go_wp2
    go_ret
    exact ⟨rfl, hB1.out.trans (hb2.mono hB1.out.size)⟩
end Go.Proofs.YtmbdnhgmpmnhmaaDoor.S
namespace Go.Proofs.YtmbdnhgmpmnhmaaDoor.S
open Go.RowKit Go.Shelf
noncomputable def graP (P : Pb) : Int := if chkN P = 0 then ((List.range 4).findSome? (fun m => if (wekP P m 0 0).isSome then some ((m : Int) - 1) else none)).getD 3 else -1
def kkN : Nat → Nat
  | 0 => 0
  | j + 1 => kkN j + 64 ^ j
theorem kkN_le : ∀ j, j < 4 → kkN j ≤ 5000 := by decide
noncomputable def weaP (P : Pb) (z : Int) : Option Nat := if chkN P = 0 ∧ 0 ≤ z ∧ z ≤ 3 then wekP P z.toNat 0 0 else none
/-- What Weak answers. -/
def WeP (w : World) (r : Option Nat) (e : Ending) (w' : World) : Prop :=
  ∃ v, e = .returned (.tuple #[v, .bool r.isSome]) ∧ Hid (w'.ownsRow w.heap.size 3 1 v (M.nums (r.getD 0)).length (M.intsOf (M.nums (r.getD 0)))) ∧ Hid (Below w.heap.size w w')
set_option maxRecDepth 100000 in
set_option maxHeartbeats 2000000 in
theorem gradeF (P : Pb) (wv fv rv : Value) (w : World) (h : PbV w P wv fv rv) (hk : Pok P) (hT : M.Tab w) :
    Calls Tryd.prog 9 #[pbV P wv fv rv] w fun e w' => e = .returned (.int .i64 (graP P)) ∧ Below w.heap.size w w' := by
  have hB1 : Hid (Below w.heap.size w (w.alloc (.cells #[.int .i64 P.users, wv, fv, rv] 26))) := (Below.refl _ _).alloc (Nat.le_refl _) _
  have hb1 : Hid (PbB (w.alloc (.cells #[.int .i64 P.users, wv, fv, rv] 26)) w.heap.size P wv fv rv) := heap_new w _
  have p0 := hb1.out.c0
  have p1 := hb1.out.c1
  have p2 := hb1.out.c2
  have p3 := hb1.out.c3
  have KC := hide' (checkPF P wv fv rv _ (h.below hB1.out) hk.w hk.f hk.r hk.s hk.b)
  have KN : Hid (chkN P = 0 → ∀ V, Below w.heap.size w V → Calls Tryd.prog 20 #[.agg #[.int .i64 P.users, wv, fv, rv]] V (NtP V P)) := fun hC V hV => newTF P wv fv rv V (h.below hV) hk hC (hT.over hV)
  have hk' := hide' hk
  unfold pbV at KC ⊢
  clear h hk hT
  by_cases hC : chkN P = 0
  · rw [hC] at KC
    have KN2 := hide' (KN.out hC)
    have hCh := hide' hC
    clear KN hC
    go_enter Tryd.func9, Tryd.ntmps9
    go_upto_region 1 with fail
    generalize w.alloc (.cells #[.int .i64 P.users, wv, fv, rv] 26) = w1 at *
    go_wp2_with fail
    refine KC.out.mono ?_
    rintro e w2 ⟨rfl, hb2⟩
    have hB2 : Hid (Below w.heap.size w w2) := hB1.out.trans (hb2.mono hB1.out.size)
    have hb3 := hide' (hb1.out.below hb2)
    have p0 := hb3.out.c0
    have p1 := hb3.out.c1
    have p2 := hb3.out.c2
    have p3 := hb3.out.c3
    have KN3 := hide' (KN2.out w2 hB2.out)
    clear KC KN2 hb2 hb1
    go_wp2_with fail
    refine KN3.out.mono ?_
    rintro e w3 ⟨O, V0, gs, wv', fv', rv', hO, rfl, hTr, hB3, hgs, hBV⟩
    have hT3 : Hid (Tk V0 gs (reP P O) wv' fv' rv' (kkN 0) (.slice none 0 0) w3) := ⟨_, _, _, _, hTr.out, by omega, by omega, by omega, Nat.zero_le _⟩
    have hkO : Hid (Pok (reP P O)) := pok_reP hk'.out hCh.out hO.out
    have hCO : Hid (chkN (reP P O) = 0) := chk_reP hCh.out hO.out
    have hre := hide' (wekP_re hCh.out hO.out)
    clear KN3 hTr p0 p1 p2 p3 hb3 hB3
    go_wp2
    go_loopw [12, 4, 5, 6] (fun kv _ _ _ wr => ∃ (j : Nat) (dv : Value), j ≤ 4 ∧ kv = .int .i64 (j : Int) ∧ Hid (∀ i, i < j → (if (wekP P i 0 0).isSome then some ((i : Int) - 1) else none) = none) ∧ Hid (Tk V0 gs (reP P O) wv' fv' rv' (kkN j) dv wr)) (fun kv _ _ _ _ => ((4 : Int) - intOf kv).toNat)
    case atStart => exact ⟨0, _, by omega, rfl, fun i hi => absurd hi (Nat.not_lt_zero _), hT3⟩
    case round =>
      clear hT3
      obtain ⟨j, dv, hj, rfl, hno, hTk⟩ := hrel
      by_cases hlt : j < 4
      · have hlt' : (j : Int) < 4 := by omega
        have KW := hide' (weakT hkO.out hCO.out j (by omega) (j : Int) rfl hTk.out (kkN_le j hlt))
        rw [hre.out] at KW
        obtain ⟨r, hr⟩ : ∃ r, r = wekP P j 0 0 := ⟨_, rfl⟩
        rw [← hr] at KW
        have hr' := hide' hr
        clear hr hkO hCO hre
        go_wp2_with fail
        refine KW.out.mono ?_
        rintro e w4 ⟨rfl, dv4, hT4⟩
        have hT5 := hide' (hT4.out.over ((Below.refl _ w4).alloc (Nat.le_refl _) (.cells #[.int .u64 ((r.getD 0 : Nat) : Int)] 54)))
        have hB5 := hide' (hT5.out.be hBV.out hgs.out)
        have hgr : Hid (r.isSome = true → graP P = (j : Int) - 1) := fun q => by
          show _ = _
          unfold graP
          rw [if_pos hCh.out, findR_some hlt hno.out (by rw [← hr'.out, if_pos q])]
          rfl
        have hno' : Hid (r.isSome = false → ∀ i, i < j + 1 → (if (wekP P i 0 0).isSome then some ((i : Int) - 1) else none) = none) := fun q i hi => by
          by_cases e : i = j
          · subst e; rw [← hr'.out, q]; rfl
          · exact hno.out i (by omega)
        have hTk5 : Hid (Tk V0 gs (reP P O) wv' fv' rv' (kkN (j + 1)) dv4 (w4.alloc (.cells #[.int .u64 ((r.getD 0 : Nat) : Int)] 54))) := hT5.out
        have hjw : IntKind.i64.wrap ((j : Int) - 1) = (j : Int) - 1 := by rw [IntKind.wrap_i64]; omega
        generalize r.isSome = bs at *
        generalize r.getD 0 = y at *
        clear KW hno hT4 hT5 hr' hTk
        cases bs
        · have hn := hide' (hno'.out rfl)
          clear hno' hgr
          go_wp2
          exact ⟨⟨j + 1, dv4, by omega, by go_num, hn, hTk5⟩, by simp [intOf]; omega⟩
        · have hg := hide' (hgr.out rfl)
          clear hno' hgr
          go_wp2
          go_ret
          exact ⟨by rw [hg.out]; rfl, hB2.out.trans (hB5.out.mono hB2.out.size)⟩
      · obtain rfl : j = 4 := by omega
        have hB5 := hide' (hTk.out.be hBV.out hgs.out)
        have hg : Hid (graP P = 3) := by
          show _ = _
          unfold graP
          rw [if_pos hCh.out, findR_none hno.out]
          rfl
        clear hTk hno hkO hCO hre
        go_wp2
        go_ret
        exact ⟨by rw [hg.out]; rfl, hB2.out.trans (hB5.out.mono hB2.out.size)⟩
  · have hne : ((chkN P : Int) == 0) = false := by simp; omega
    have h0 : Hid (graP P = -1) := by show _ = _; unfold graP; rw [if_neg hC]
    generalize (chkN P : Int) = q at *
    clear KN hk' hC
    go_enter Tryd.func9, Tryd.ntmps9
    go_upto_region 1 with fail
    generalize w.alloc (.cells #[.int .i64 P.users, wv, fv, rv] 26) = w1 at *
    go_wp2_with fail
    refine KC.out.mono ?_
    rintro e w2 ⟨rfl, hb2⟩
    go_wp2
    go_ret
    exact ⟨by rw [h0.out]; rfl, hB1.out.trans (hb2.mono hB1.out.size)⟩
set_option maxRecDepth 100000 in
set_option maxHeartbeats 2000000 in
theorem weakWF (P : Pb) (wv fv rv : Value) (z : Int) (w : World) (h : PbV w P wv fv rv) (hk : Pok P) (hT : M.Tab w) :
    Calls Tryd.prog 12 #[pbV P wv fv rv, .int .i64 z] w (WeP w (weaP P z)) := by
  have hB1 : Hid (Below w.heap.size w (w.alloc (.cells #[.int .i64 P.users, wv, fv, rv] 26))) := (Below.refl _ _).alloc (Nat.le_refl _) _
  have hb1 : Hid (PbB (w.alloc (.cells #[.int .i64 P.users, wv, fv, rv] 26)) w.heap.size P wv fv rv) := heap_new w _
  have p0 := hb1.out.c0
  have p1 := hb1.out.c1
  have p2 := hb1.out.c2
  have p3 := hb1.out.c3
  have KC := hide' (checkPF P wv fv rv _ (h.below hB1.out) hk.w hk.f hk.r hk.s hk.b)
  have KN : Hid (chkN P = 0 → ∀ V, Below w.heap.size w V → Calls Tryd.prog 20 #[.agg #[.int .i64 P.users, wv, fv, rv]] V (NtP V P)) := fun hC V hV => newTF P wv fv rv V (h.below hV) hk hC (hT.over hV)
  have hk' := hide' hk
  have hU64 : Hid (chkN P = 0 → P.users.toNat ≤ 64) := fun hC => by
    obtain ⟨g12, g0, g64, g32, gF, gW, gR⟩ := chkN_zero hC
    omega
  unfold pbV at KC ⊢
  unfold WeP
  clear h hk hT
  by_cases hC : chkN P = 0
  · rw [hC] at KC
    have KN2 := hide' (KN.out hC)
    have hCh := hide' hC
    by_cases hz0 : z < 0
    · have hr : Hid (weaP P z = none) := by show _ = _; unfold weaP; rw [if_neg (by omega)]
      clear KN KN2 hC hU64 hk'
      go_enter Tryd.func12, Tryd.ntmps12
      go_upto_region 1 with fail
      generalize w.alloc (.cells #[.int .i64 P.users, wv, fv, rv] 26) = w1 at *
      go_wp2_with fail
      refine KC.out.mono ?_
      rintro e w2 ⟨rfl, hb2⟩
      have hB2 : Hid (Below w.heap.size w w2) := hB1.out.trans (hb2.mono hB1.out.size)
      clear hb2
      go_wp2
      refine bodyPost_ret (v := .tuple #[.slice none 0 0, .bool false]) (by simp [results, Tryd.results12, go_sem]) rfl ?_
      exact ⟨_, by rw [hr.out]; rfl, by rw [hr.out]; exact World.ownsRow_nil _ _ _ _, hB2⟩
    · by_cases hz3 : 3 < z
      · have hr : Hid (weaP P z = none) := by show _ = _; unfold weaP; rw [if_neg (by omega)]
        clear KN KN2 hC hU64 hk'
        go_enter Tryd.func12, Tryd.ntmps12
        go_upto_region 1 with fail
        generalize w.alloc (.cells #[.int .i64 P.users, wv, fv, rv] 26) = w1 at *
        go_wp2_with fail
        refine KC.out.mono ?_
        rintro e w2 ⟨rfl, hb2⟩
        have hB2 : Hid (Below w.heap.size w w2) := hB1.out.trans (hb2.mono hB1.out.size)
        clear hb2
        go_wp2
        refine bodyPost_ret (v := .tuple #[.slice none 0 0, .bool false]) (by simp [results, Tryd.results12, go_sem]) rfl ?_
        exact ⟨_, by rw [hr.out]; rfl, by rw [hr.out]; exact World.ownsRow_nil _ _ _ _, hB2⟩
      · obtain ⟨m, rfl⟩ := Int.eq_ofNat_of_zero_le (show 0 ≤ z by omega)
        have hr : Hid (weaP P (m : Int) = wekP P m 0 0) := by show _ = _; unfold weaP; rw [if_pos ⟨hC, by omega, by omega⟩, Int.toNat_natCast]
        have hm3 : m ≤ 3 := by omega
        have hyl : (wekP P m 0 0).getD 0 < 18446744073709551616 := by
          cases hq : wekP P m 0 0 with
          | none => decide
          | some y => exact wekP_lt (hU64.out hC) (by decide) hq
        clear KN hC hU64
        go_enter Tryd.func12, Tryd.ntmps12
        go_upto_region 1 with fail
        generalize w.alloc (.cells #[.int .i64 P.users, wv, fv, rv] 26) = w1 at *
        go_wp2_with fail
        refine KC.out.mono ?_
        rintro e w2 ⟨rfl, hb2⟩
        have hB2 : Hid (Below w.heap.size w w2) := hB1.out.trans (hb2.mono hB1.out.size)
        have hb3 := hide' (hb1.out.below hb2)
        have p0 := hb3.out.c0
        have p1 := hb3.out.c1
        have p2 := hb3.out.c2
        have p3 := hb3.out.c3
        have KN3 := hide' (KN2.out w2 hB2.out)
        clear KC KN2 hb2 hb1
        go_wp2_with fail
        refine KN3.out.mono ?_
        rintro e w3 ⟨O, V0, gs, wv', fv', rv', hO, rfl, hTr, hB3, hgs, hBV⟩
        have hT3 : Hid (Tk V0 gs (reP P O) wv' fv' rv' 0 (.slice none 0 0) w3) := ⟨_, _, _, _, hTr.out, by omega, by omega, by omega, Nat.zero_le _⟩
        have KW := hide' (weakT (pok_reP hk'.out hCh.out hO.out) (chk_reP hCh.out hO.out) m hm3 (m : Int) rfl hT3.out (by omega))
        rw [wekP_re hCh.out hO.out] at KW
        generalize wekP P m 0 0 = r at *
        clear KN3 hTr p0 p1 p2 p3 hb3 hB3 hk' hCh hT3
        go_wp2_with fail
        refine KW.out.mono ?_
        rintro e w4 ⟨rfl, dv4, hT4⟩
        have hT5 := hide' (hT4.out.over ((Below.refl _ w4).alloc (Nat.le_refl _) (.cells #[.int .u64 ((r.getD 0 : Nat) : Int)] 54)))
        have hB5 := hide' (hT5.out.be hBV.out hgs.out)
        have hT6 := hide' hT5.out.tab
        have hN5 := (Bo.new w4 (.int .u64 ((r.getD 0 : Nat) : Int)) 54).c
        clear KW hT4 hT5
        go_upto_region 4 with fail
        generalize w4.alloc (.cells #[.int .u64 ((r.getD 0 : Nat) : Int)] 54) = w5 at *
        have KP := hide' (M.places64 (r.getD 0) hyl w5 hT6.out)
        clear hyl hT6
        go_wp2_with fail
        refine KP.out.mono ?_
        rintro e w6 ⟨v, rfl, ho6, hb6⟩
        have hB6 : Hid (Below w.heap.size w w6) := hB2.out.trans ((hB5.out.trans (hb6.mono hB5.out.size)).mono hB2.out.size)
        have ho7 := hide' (owns_lowS ho6 (Nat.le_trans hB2.out.size hB5.out.size))
        clear ho6 hb6 KP
        go_wp2
        refine bodyPost_ret (v := .tuple #[v, .bool r.isSome]) (by simp [results, Tryd.results12, go_sem]) rfl ?_
        exact ⟨_, by rw [hr.out], by rw [hr.out]; exact ho7.out, hB6⟩
  · have hne : ((chkN P : Int) == 0) = false := by simp; omega
    have hq0 : ¬ (chkN P : Int) = 0 := by omega
    have hr : Hid (weaP P z = none) := by show _ = _; unfold weaP; rw [if_neg fun q => hC q.1]
    generalize (chkN P : Int) = q at *
    clear KN hk' hC hU64
    go_enter Tryd.func12, Tryd.ntmps12
    go_upto_region 1 with fail
    generalize w.alloc (.cells #[.int .i64 P.users, wv, fv, rv] 26) = w1 at *
    go_wp2_with fail
    refine KC.out.mono ?_
    rintro e w2 ⟨rfl, hb2⟩
    have hB2 : Hid (Below w.heap.size w w2) := hB1.out.trans (hb2.mono hB1.out.size)
    clear hb2
    go_wp2
    refine bodyPost_ret (v := .tuple #[.slice none 0 0, .bool false]) (by simp [results, Tryd.results12, go_sem]) rfl ?_
    exact ⟨_, by rw [hr.out]; rfl, by rw [hr.out]; exact World.ownsRow_nil _ _ _ _, hB2⟩
end Go.Proofs.YtmbdnhgmpmnhmaaDoor.S
namespace Go.Proofs.YtmbdnhgmpmnhmaaDoor.S
open Go.RowKit Go.Shelf
def whP : Pb := ⟨3, [1, 6], [-1, -1], []⟩
theorem wh_chk : chkN whP = 0 := by decide +kernel
theorem wh_ok : Pok whP := ⟨by decide, by decide, by decide, by decide, by decide⟩
theorem wh_yes {x : Nat} (L : List Int) (h : holP (lesP whP x) L = true) : canB (lesP whP x) = true := (canB_iff _).2 ⟨L, h⟩
theorem wh_user {x t : Nat} {u : Int} (h : okU (lesP whP x) t u = true) : u = 0 ∨ u = 1 ∨ u = 2 := by
  unfold okU isU at h
  simp only [Bool.and_eq_true, decide_eq_true_eq] at h
  have h1 : u < 3 := h.1.2
  omega
theorem wh_no {x : Nat} (h0 : okU (lesP whP x) 0 0 = false) (h1 : okU (lesP whP x) 0 1 = false) (h2 : okU (lesP whP x) 0 2 = false) : canB (lesP whP x) = false := by
  cases q : canB (lesP whP x) with
  | false => rfl
  | true =>
    obtain ⟨l, hl⟩ := (canB_iff _).1 q
    exfalso
    obtain ⟨_, k2, k3, _⟩ := holP_of hl
    have k2 : l.length = 2 := k2
    obtain ⟨a, ha⟩ : ∃ a, l[0]? = some a := ⟨_, List.getElem?_eq_getElem (by omega)⟩
    have k := k3 0 a ha
    rcases wh_user k with rfl | rfl | rfl
    · rw [h0] at k; cases k
    · rw [h1] at k; cases k
    · rw [h2] at k; cases k
theorem wh0 : canB (lesP whP 0) = true := wh_yes [0, 1] (by decide +kernel)
theorem wh2 : canB (lesP whP 2) = true := wh_yes [0, 2] (by decide +kernel)
theorem wh4 : canB (lesP whP 4) = true := wh_yes [0, 1] (by decide +kernel)
theorem wh1 : canB (lesP whP 1) = false := wh_no (by decide +kernel) (by decide +kernel) (by decide +kernel)
theorem wh3 : canB (lesP whP 3) = false := wh_no (by decide +kernel) (by decide +kernel) (by decide +kernel)
theorem wh_w0 (x f : Nat) : wekP whP 0 x f = if canB (lesP whP x) then none else some x := rfl
theorem wh_first {m x f y : Nat} (hf : f < 3) (h : wekP whP m (x ||| 2 ^ f) (f + 1) = some y) : wekP whP (m + 1) x f = some y := by
  show (List.range (3 - f)).findSome? (fun a => wekP whP m (x ||| 2 ^ (f + a)) (f + a + 1)) = some y
  exact findR_some (j := 0) (by omega) (fun i hi => absurd hi (Nat.not_lt_zero _)) h
theorem wh_weak : weaP whP 2 = some 3 := by
  unfold weaP
  rw [if_pos ⟨wh_chk, by decide, by decide⟩]
  refine wh_first (m := 1) (by decide) (wh_first (m := 0) (by decide) ?_)
  rw [wh_w0]
  show (if canB (lesP whP 3) then none else some 3) = some 3
  rw [wh3]; rfl
theorem wh_need : nedP whP = 1 := by
  unfold nedP
  rw [if_pos ⟨wh_chk, wh0⟩]
  show (if canB (lesP whP 4) then (if canB (lesP whP 2) then (if canB (lesP whP 1) then 0 else 0 ||| 1) else _) else _) = 1
  rw [wh4, wh2, wh1]; rfl
theorem wh_grade : graP whP = 0 := by
  unfold graP
  rw [if_pos wh_chk]
  have h0 : wekP whP 0 0 0 = none := by rw [wh_w0, wh0]; rfl
  have h1 : wekP whP 1 0 0 = some 1 := by
    refine wh_first (m := 0) (by decide) ?_
    rw [wh_w0]
    show (if canB (lesP whP 1) then none else some 1) = some 1
    rw [wh1]; rfl
  rw [findR_some (j := 1) (y := (0 : Int)) (by decide) (fun i hi => by have e : i = 0 := (by omega); subst e; rw [h0]; rfl) (by rw [h1]; rfl)]
  rfl
theorem wh_mem (V : World) : ∃ W, W = ((V.alloc (.cells #[.int .u64 1, .int .u64 6] 34)).alloc (.cells #[.int .i64 (-1), .int .i64 (-1)] 3)).alloc (.cells #[.int .i64 3, .slice (some ⟨V.heap.size, 0, none⟩) 2 2, .slice (some ⟨V.heap.size + 1, 0, none⟩) 2 2, .slice none 0 0] 26) ∧
    PbV W whP (.slice (some ⟨V.heap.size, 0, none⟩) 2 2) (.slice (some ⟨V.heap.size + 1, 0, none⟩) 2 2) (.slice none 0 0) ∧ PbB W (V.heap.size + 1 + 1) whP (.slice (some ⟨V.heap.size, 0, none⟩) 2 2) (.slice (some ⟨V.heap.size + 1, 0, none⟩) 2 2) (.slice none 0 0) ∧ Below V.heap.size V W := by
  obtain ⟨z1, n1, k1, b1⟩ := alloc_stH V (.cells #[.int .u64 1, .int .u64 6] 34) _ rfl
  obtain ⟨z2, n2, k2, b2⟩ := alloc_stH _ (.cells #[.int .i64 (-1), .int .i64 (-1)] 3) _ z1
  obtain ⟨z5, n5, k5, b5⟩ := alloc_stH _ (.cells #[.int .i64 3, .slice (some ⟨V.heap.size, 0, none⟩) 2 2, .slice (some ⟨V.heap.size + 1, 0, none⟩) 2 2, .slice none 0 0] 26) _ z2
  refine ⟨_, rfl, ?_, n5, (b1.trans (b2.mono (by omega))).trans (b5.mono (by omega))⟩
  have m1 := k5 _ _ (k2 _ _ n1)
  have m2 := k5 _ _ n2
  generalize ((V.alloc (.cells #[.int .u64 1, .int .u64 6] 34)).alloc (.cells #[.int .i64 (-1), .int .i64 (-1)] 3)).alloc (.cells #[.int .i64 3, .slice (some ⟨V.heap.size, 0, none⟩) 2 2, .slice (some ⟨V.heap.size + 1, 0, none⟩) 2 2, .slice none 0 0] 26) = W at *
  refine ⟨⟨_, _, rfl, ⟨Nat.le_refl _, fun e => by cases e⟩, fun i z hz => ⟨_, _, rfl, ?_⟩⟩, ⟨_, _, rfl, ⟨Nat.le_refl _, fun e => by cases e⟩, fun i z hz => ⟨_, _, rfl, ?_⟩⟩, ⟨_, _, rfl, ⟨Nat.le_refl _, fun _ => rfl⟩, fun i r hr => by cases hr⟩⟩
  · match i, hz with
    | 0, hz => cases hz; simp [World.cell?, m1]
    | 1, hz => cases hz; simp [World.cell?, m1]
    | i + 2, hz => simp [whP] at hz
  · match i, hz with
    | 0, hz => cases hz; simp [World.cell?, m2]
    | 1, hz => cases hz; simp [World.cell?, m2]
    | i + 2, hz => simp [whP] at hz
theorem row_01H (V : World) : RowI (V.alloc (.cells #[.int .i64 0, .int .i64 1] 3)) (.slice (some ⟨V.heap.size, 0, none⟩) 2 2) [0, 1] := by
  have n3 := heap_new V (.cells #[.int .i64 0, .int .i64 1] 3)
  generalize V.alloc (.cells #[.int .i64 0, .int .i64 1] 3) = W at *
  refine ⟨_, _, rfl, ⟨Nat.le_refl _, fun e => by cases e⟩, fun i z hz => ⟨_, _, rfl, ?_⟩⟩
  match i, hz with
  | 0, hz => cases hz; simp [World.cell?, n3]
  | 1, hz => cases hz; simp [World.cell?, n3]
  | i + 2, hz => simp at hz
theorem ints_numsH (x : Nat) : M.intsOf (M.nums x) = cellsI ((M.nums x).map fun k => (k.val : Int)) := by unfold M.intsOf cellsI; rw [List.map_map]; rfl
set_option maxRecDepth 100000 in
set_option maxHeartbeats 2000000 in
theorem wakesHF (w : World) (hT : M.Tab w) : Calls Tryd.prog 7 #[] w fun e w' => e = .returned (.bool true) ∧ Below w.heap.size w w' := by
  obtain ⟨W3, hW, hP, hB, hb⟩ := wh_mem w
  have hT3 := hT.over hb
  have hb' := hide' hb
  have hB' := hide' hB
  have hP' := hide' hP
  have hT' := hide' hT3
  have q0 : W3.cell? ⟨w.heap.size + 1 + 1, 0, none⟩ = some (.int .i64 3) := hB.c0
  have q1 := hB.c1
  have q2 := hB.c2
  have q3 := hB.c3
  have KW : Hid (Calls Tryd.prog 12 #[.agg #[.int .i64 3, .slice (some ⟨w.heap.size, 0, none⟩) 2 2, .slice (some ⟨w.heap.size + 1, 0, none⟩) 2 2, .slice none 0 0], .int .i64 2] W3 (WeP W3 (some 3))) := by
    have := weakWF whP _ _ _ 2 W3 hP wh_ok hT3
    rw [wh_weak] at this
    exact this
  have KN : Hid (∀ V, Below W3.heap.size W3 V → Calls Tryd.prog 10 #[.agg #[.int .i64 3, .slice (some ⟨w.heap.size, 0, none⟩) 2 2, .slice (some ⟨w.heap.size + 1, 0, none⟩) 2 2, .slice none 0 0]] V fun e w' => e = .returned (.int .u64 1) ∧ Below V.heap.size V w') := fun V hV => by
    have := neededF whP _ _ _ V (hP.below hV) wh_ok (hT3.over hV)
    rw [wh_need] at this
    exact this
  have KG : Hid (∀ V, Below W3.heap.size W3 V → Calls Tryd.prog 9 #[.agg #[.int .i64 3, .slice (some ⟨w.heap.size, 0, none⟩) 2 2, .slice (some ⟨w.heap.size + 1, 0, none⟩) 2 2, .slice none 0 0]] V fun e w' => e = .returned (.int .i64 0) ∧ Below V.heap.size V w') := fun V hV => by
    have := gradeF whP _ _ _ V (hP.below hV) wh_ok (hT3.over hV)
    rw [wh_grade] at this
    exact this
  clear hP hB hb hT hT3
  go_enter Tryd.func7, Tryd.ntmps7
  go_upto_region 2 with fail
  rw [← hW]
  clear hW
  go_wp2_with fail
  refine KW.out.mono ?_
  rintro e w4 ⟨v, rfl, ho4, hb4⟩
  have hB4 := hide' (hB'.out.below hb4.out)
  have q0 : w4.cell? ⟨w.heap.size + 1 + 1, 0, none⟩ = some (.int .i64 3) := hB4.out.c0
  have q1 := hB4.out.c1
  have q2 := hB4.out.c2
  have q3 := hB4.out.c3
  have hl4 : Hid (RowI w4 v [0, 1]) := by
    have h := ho4.out
    rw [show M.nums ((some 3 : Option Nat).getD 0) = [0, 1] by decide +kernel] at h
    exact RowI.of_owns (l := [0, 1]) h
  have KN4 := hide' (KN.out w4 hb4.out)
  clear KW KN hB'
  go_wp2_with fail
  refine KN4.out.mono ?_
  rintro e w5 ⟨rfl, hb5⟩
  have hb35 : Hid (Below W3.heap.size W3 w5) := hb4.out.trans (hb5.mono hb4.out.size)
  have hA5 : Hid (Below w5.heap.size w5 (w5.alloc (.cells #[.int .i64 0, .int .i64 1] 3))) := (Below.refl _ _).alloc (Nat.le_refl _) _
  have KI := hide' (K.keepInts [0, 1] [0, 1] _ _ _ ((hl4.out.below hb5 (Nat.le_refl _)).below hA5.out (Nat.le_refl _)) (row_01H w5) (by decide) (by decide))
  rw [show decide (([0, 1] : List Int) = [0, 1]) = true by decide] at KI
  have hB5 := hide' (hB4.out.below hb5)
  clear KN4 q0 q1 q2 q3 hl4 hb5 ho4 hB4
  go_wp2_with fail
  refine KI.out.mono ?_
  rintro e w6 ⟨rfl, hb6⟩
  have hb56 : Hid (Below w5.heap.size w5 w6) := hA5.out.trans (hb6.mono hA5.out.size)
  have hb36 : Hid (Below W3.heap.size W3 w6) := hb35.out.trans (hb56.out.mono hb35.out.size)
  have hB6 := hide' (hB5.out.below hb56.out)
  have q0 : w6.cell? ⟨w.heap.size + 1 + 1, 0, none⟩ = some (.int .i64 3) := hB6.out.c0
  have q1 := hB6.out.c1
  have q2 := hB6.out.c2
  have q3 := hB6.out.c3
  have KG6 := hide' (KG.out w6 hb36.out)
  clear KI KG hb6 hB5
  go_wp2_with fail
  refine KG6.out.mono ?_
  rintro e w7 ⟨rfl, hb7⟩
  have hb37 : Hid (Below w.heap.size w w7) := hb'.out.trans ((hb36.out.trans (hb7.mono hb36.out.size)).mono hb'.out.size)
  clear KG6 hb7
  go_wp2
  go_ret
  exact ⟨rfl, hb37.out⟩
end Go.Proofs.YtmbdnhgmpmnhmaaDoor.S
namespace Go.Proofs.YtmbdnhgmpmnhmaaDoor.S
open Go.RowKit Go.Shelf
theorem mn_id {z x : Nat} (hz : z < 18446744073709551616) (hx : x < 18446744073709551616) (h : ∀ k, k < 64 → z.testBit k = true → x.testBit k = false) : mnW z x = z := by
  refine Nat.eq_of_testBit_eq fun k => ?_
  rcases Nat.lt_or_ge k 64 with hk | hk
  · rw [mn_test hx hk]
    cases e : z.testBit k with
    | false => rfl
    | true => rw [h k hk e]; rfl
  · have h1 : z.testBit k = false := Nat.testBit_lt_two_pow (Nat.lt_of_lt_of_le hz (Nat.pow_le_pow_right (by decide) hk : 2 ^ 64 ≤ 2 ^ k))
    rw [h1]
    exact Nat.testBit_lt_two_pow (Nat.lt_of_le_of_lt (mn_le z x) (Nat.lt_of_lt_of_le hz (Nat.pow_le_pow_right (by decide) hk : 2 ^ 64 ≤ 2 ^ k)))
theorem les_id {P : Pb} {x : Nat} (h : ∀ z ∈ P.who, mnW z x = z) : lesP P x = P := by
  have e : P.who.map (fun z => mnW z x) = P.who := by
    conv => rhs; rw [← List.map_id P.who]
    exact List.map_congr_left h
  show (⟨P.users, P.who.map fun z => mnW z x, P.fixed, P.rules⟩ : Pb) = P
  rw [e]
theorem les_zero {P : Pb} (hk : Pok P) : lesP P 0 = P := les_id fun z hz => mn_id (hk.b z hz) (by decide) fun k _ _ => Nat.zero_testBit k
/-- Who is at hand is below the users. -/
theorem who_lt {P : Pb} (hC : chkN P = 0) {z : Nat} (hz : z ∈ P.who) : z < 2 ^ P.users.toNat := by
  obtain ⟨g12, g0, g64, g32, gF, gW, gR⟩ := chkN_zero hC
  unfold whoB at gW
  have := List.all_eq_true.1 gW z hz
  unfold outU at this
  exact (Nat.div_eq_zero_iff_lt (Nat.pow_pos (by decide))).1 (of_decide_eq_true this)
theorem les_out {P : Pb} (hk : Pok P) (hC : chkN P = 0) {u : Nat} (hu : P.users.toNat ≤ u) (hu64 : u < 64) : lesP P (2 ^ u) = P := by
  refine les_id fun z hz => mn_id (hk.b z hz) (Nat.pow_lt_pow_right (by decide) hu64 : 2 ^ u < 2 ^ 64) fun k _ hz1 => ?_
  have h1 := who_lt hC hz
  refine Nat.testBit_two_pow_of_ne fun e => ?_
  subst e
  rw [Nat.testBit_lt_two_pow (Nat.lt_of_lt_of_le h1 (Nat.pow_le_pow_right (by decide) hu))] at hz1
  cases hz1
/-- What Needed tells. -/
structure NeD (Q : Pb) (c : Bool) (W : Nat) : Prop where
  lt : W < 18446744073709551616
  no : c = false → W = 0
  chk : c = true → chkN Q = 0
  bit : c = true → ∀ u, u < 64 → W.testBit u = !canB (lesP Q (2 ^ u))
theorem neD_of {Q : Pb} (hk : Pok Q) : NeD Q (canB Q) (nedP Q) := by
  by_cases hC : chkN Q = 0
  · obtain ⟨g12, g0, g64, g32, gF, gW, gR⟩ := chkN_zero hC
    cases hc : canB Q with
    | false =>
      have e : nedP Q = 0 := by unfold nedP; rw [if_neg (by rw [les_zero hk, hc]; rintro ⟨_, q⟩; cases q)]
      rw [e]
      exact ⟨by decide, fun _ => rfl, (fun q => by cases q), (fun q => by cases q)⟩
    | true =>
      have e : nedP Q = nedJ Q Q.users.toNat := by unfold nedP; rw [if_pos ⟨hC, by rw [les_zero hk]; exact hc⟩]
      rw [e]
      refine ⟨nedJ_lt Q (by omega), (fun q => by cases q), fun _ => hC, fun _ u hu => ?_⟩
      rw [nedJ_bit]
      rcases Nat.lt_or_ge u Q.users.toNat with h | h
      · rw [decide_eq_true h, Bool.true_and]
      · rw [decide_eq_false (by omega), les_out hk hC h hu, hc]; rfl
  · have e : nedP Q = 0 := by unfold nedP; rw [if_neg fun q => hC q.1]
    rw [e, canB_no hC]
    exact ⟨by decide, fun _ => rfl, (fun q => by cases q), (fun q => by cases q)⟩
theorem q_ne_gs {V : World} {gx gs a b c : Nat} {u : Int} {x y z : Value} (hq : QAt V gx u x y z) (hg : GgAt V gs a b c) : gx ≠ gs := fun e => by
  subst e
  obtain ⟨c1, h1, _⟩ := hq
  obtain ⟨c2, h2, _⟩ := hg
  rw [h1] at h2
  injection h2 with h2
  injection h2 with _ h2
  exact absurd h2 (by decide)
/-- What stands between the calls. -/
structure Hd (w : World) (Q : Pb) (qw qf qr : Value) (g gs : Nat) (a b c : Nat) (V : World) : Prop where
  s : SvS w Q qw qf qr g gs a b c V
  hgs : w.heap.size ≤ gs
  hne : ∀ ad n c, qw = .slice (some ad) n c → ad.block ≠ gs
  hgp : g ≠ gs
  hG : 1 ≤ gs
section
variable {w : World} {Q : Pb} {qw qf qr : Value} {g gs : Nat} {a b c a' b' c' : Nat} {V V' V0 : World}
theorem Hd.over (h : Hd w Q qw qf qr g gs a b c V) (hb : Below V.heap.size V V') : Hd w Q qw qf qr g gs a b c V' := ⟨h.s.over hb, h.hgs, h.hne, h.hgp, h.hG⟩
theorem Hd.fr (h : Hd w Q qw qf qr g gs a b c V) (hf : M.Fr2 V V' gs gs) (hg : GgAt V' gs a' b' c') : Hd w Q qw qf qr g gs a' b' c' V' :=
  ⟨h.s.fr hf hg h.hgs h.hne h.hgp h.hG, h.hgs, h.hne, h.hgp, h.hG⟩
theorem Hd.gl (h : Hd w Q qw qf qr g gs a b c V) : gs < V.heap.size := h.s.gg.lt
theorem Hd.cells (h : Hd w Q qw qf qr g gs a b c V) : V.cell? ⟨g, 0, none⟩ = some (.int .i64 Q.users) ∧ V.cell? ⟨g, 1, none⟩ = some qw ∧ V.cell? ⟨g, 2, none⟩ = some qf ∧ V.cell? ⟨g, 3, none⟩ = some qr := h.s.pb.all
end
end Go.Proofs.YtmbdnhgmpmnhmaaDoor.S
namespace Go.Proofs.YtmbdnhgmpmnhmaaDoor.S
open Go.RowKit Go.Shelf
/-- The word of a list of places. -/
def orL : List Nat → Nat
  | [] => 0
  | a :: l => 2 ^ a ||| orL l
theorem orL_test (k : Nat) : ∀ l : List Nat, (orL l).testBit k = decide (k ∈ l)
  | [] => by show Nat.testBit 0 k = _; simp
  | a :: l => by
    show (2 ^ a ||| orL l).testBit k = _
    rw [Nat.testBit_or, orL_test k l, Nat.testBit_two_pow, Bool.eq_iff_iff, Bool.or_eq_true, decide_eq_true_eq, decide_eq_true_eq, decide_eq_true_eq, List.mem_cons]
    exact ⟨fun h => h.imp Eq.symm id, fun h => h.imp Eq.symm id⟩
theorem orL_lt : ∀ {l : List Nat} {n : Nat}, (∀ x ∈ l, x < n) → orL l < 2 ^ n
  | [], n, _ => Nat.pow_pos (by decide)
  | a :: l, n, h => Nat.or_lt_two_pow (Nat.pow_lt_pow_right (by decide) (h a List.mem_cons_self)) (orL_lt fun x hx => h x (List.mem_cons_of_mem _ hx))
theorem orL_snoc (l : List Nat) (a : Nat) : orL (l ++ [a]) = orL l ||| 2 ^ a := by
  induction l with
  | nil => show 2 ^ a ||| 0 = 0 ||| 2 ^ a; simp
  | cons b l ih => show 2 ^ b ||| orL (l ++ [a]) = 2 ^ b ||| orL l ||| 2 ^ a; rw [ih, Nat.or_assoc]
/-- A word's places. -/
def numN (x : Nat) : List Nat := (M.nums x).map fun k => k.val
theorem numN_mem {x k : Nat} : k ∈ numN x ↔ k < 64 ∧ x.testBit k = true := by
  unfold numN
  rw [List.mem_map]
  constructor
  · rintro ⟨i, h, rfl⟩; exact ⟨i.2, (M.mem_nums x i).1 h⟩
  · rintro ⟨h1, h2⟩; exact ⟨⟨k, h1⟩, (M.mem_nums x _).2 h2, rfl⟩
theorem numN_asc (x : Nat) : (numN x).Pairwise (· < ·) := by
  unfold numN
  rw [List.pairwise_map]
  exact (M.sorted_nums x).imp fun h => h
theorem asc_ext : ∀ {l m : List Nat}, l.Pairwise (· < ·) → m.Pairwise (· < ·) → (∀ x, x ∈ l ↔ x ∈ m) → l = m
  | [], [], _, _, _ => rfl
  | [], b :: m, _, _, h => absurd ((h b).2 List.mem_cons_self) (by simp)
  | a :: l, [], _, _, h => absurd ((h a).1 List.mem_cons_self) (by simp)
  | a :: l, b :: m, hl, hm, h => by
    obtain ⟨l1, l2⟩ := List.pairwise_cons.1 hl
    obtain ⟨m1, m2⟩ := List.pairwise_cons.1 hm
    have e : a = b := by
      have h1 := (h a).1 List.mem_cons_self
      have h2 := (h b).2 List.mem_cons_self
      rcases List.mem_cons.1 h1 with q | q
      · exact q
      · rcases List.mem_cons.1 h2 with r | r
        · exact r.symm
        · have := m1 a q; have := l1 b r; omega
    subst e
    congr 1
    refine asc_ext l2 m2 fun x => ⟨fun hx => ?_, fun hx => ?_⟩
    · rcases List.mem_cons.1 ((h x).1 (List.mem_cons_of_mem _ hx)) with q | q
      · have := l1 x hx; omega
      · exact q
    · rcases List.mem_cons.1 ((h x).2 (List.mem_cons_of_mem _ hx)) with q | q
      · have := m1 x hx; omega
      · exact q
theorem numN_orL {l : List Nat} (h : l.Pairwise (· < ·)) (h2 : ∀ x ∈ l, x < 64) : numN (orL l) = l :=
  asc_ext (numN_asc _) h fun x => by
    rw [numN_mem, orL_test, decide_eq_true_eq]
    exact ⟨fun q => q.2, fun q => ⟨h2 x q, q⟩⟩
theorem orL_numN {x : Nat} (h : x < 18446744073709551616) : orL (numN x) = x := by
  refine Nat.eq_of_testBit_eq fun k => ?_
  rw [orL_test, Bool.eq_iff_iff, decide_eq_true_eq, numN_mem]
  constructor
  · exact fun q => q.2
  · intro q
    refine ⟨?_, q⟩
    rcases Nat.lt_or_ge k 64 with hk | hk
    · exact hk
    · rw [Nat.testBit_lt_two_pow (Nat.lt_of_lt_of_le h (Nat.pow_le_pow_right (by decide) hk : 2 ^ 64 ≤ 2 ^ k))] at q; cases q
/-- No later: the first place at which two lists differ. -/
def leL : List Nat → List Nat → Prop
  | a :: l, b :: m => a < b ∨ (a = b ∧ leL l m)
  | _, _ => True
/-- m places, rising, from f on and below U. -/
structure Asc (U f m : Nat) (l : List Nat) : Prop where
  len : l.length = m
  asc : l.Pairwise (· < ·)
  rng : ∀ x ∈ l, f ≤ x ∧ x < U
theorem Asc.cons {U f m b : Nat} {l : List Nat} (h : Asc U (b + 1) m l) (h1 : f ≤ b) (h2 : b < U) : Asc U f (m + 1) (b :: l) :=
  ⟨by rw [List.length_cons, h.len], List.pairwise_cons.2 ⟨fun x hx => by have := h.rng x hx; omega, h.asc⟩, fun x hx => by
    rcases List.mem_cons.1 hx with rfl | q
    · exact ⟨h1, h2⟩
    · have := h.rng x q; omega⟩
theorem Asc.tail {U f m b : Nat} {l : List Nat} (h : Asc U f (m + 1) (b :: l)) : Asc U (b + 1) m l ∧ f ≤ b ∧ b < U := by
  obtain ⟨h1, h2⟩ := List.pairwise_cons.1 h.asc
  refine ⟨⟨by have := h.len; simpa using this, h2, fun x hx => ⟨h1 x hx, (h.rng x (List.mem_cons_of_mem _ hx)).2⟩⟩, (h.rng b List.mem_cons_self).1, (h.rng b List.mem_cons_self).2⟩
/-- What is found, by its places. -/
theorem wekP_list {P : Pb} : ∀ {m x f y : Nat}, wekP P m x f = some y → ∃ l, Asc P.users.toNat f m l ∧ y = x ||| orL l ∧ canB (lesP P y) = false
  | 0, x, f, y, h => by
    unfold wekP at h
    split at h
    · cases h
    · injection h with h
      subst h
      exact ⟨[], ⟨rfl, List.Pairwise.nil, fun _ hx => by cases hx⟩, by show x = x ||| 0; simp, Bool.eq_false_iff.2 ‹_›⟩
  | m + 1, x, f, y, h => by
    unfold wekP at h
    obtain ⟨a, h1, h2⟩ := List.exists_of_findSome?_eq_some h
    have h3 := List.mem_range.1 h1
    obtain ⟨l, h4, h5, h6⟩ := wekP_list h2
    exact ⟨(f + a) :: l, h4.cons (by omega) (by omega), by rw [h5]; show x ||| 2 ^ (f + a) ||| orL l = x ||| (2 ^ (f + a) ||| orL l); rw [Nat.or_assoc], h6⟩
/-- Any such set that is not borne: one no later is found. -/
theorem wekP_first {P : Pb} : ∀ {m x f : Nat} {bs : List Nat}, Asc P.users.toNat f m bs → canB (lesP P (x ||| orL bs)) = false → ∃ l, Asc P.users.toNat f m l ∧ wekP P m x f = some (x ||| orL l) ∧ leL l bs
  | 0, x, f, bs, h, hc => by
    obtain rfl : bs = [] := List.eq_nil_of_length_eq_zero h.len
    refine ⟨[], h, ?_, trivial⟩
    have e : x ||| orL [] = x := by show x ||| 0 = x; simp
    rw [e] at hc ⊢
    unfold wekP
    rw [hc]; rfl
  | m + 1, x, f, bs, h, hc => by
    obtain ⟨b, bs, rfl⟩ : ∃ b l, bs = b :: l := by
      cases bs with
      | nil => have := h.len; cases this
      | cons b l => exact ⟨b, l, rfl⟩
    obtain ⟨ht, hfb, hbU⟩ := h.tail
    have hc2 : canB (lesP P ((x ||| 2 ^ b) ||| orL bs)) = false := by rw [Nat.or_assoc]; exact hc
    obtain ⟨l, h1, h2, h3⟩ := wekP_first ht hc2
    -- the first round that finds
    have hex : ∃ j, j < P.users.toNat - f ∧ (∀ i, i < j → wekP P m (x ||| 2 ^ (f + i)) (f + i + 1) = none) ∧ (wekP P m (x ||| 2 ^ (f + j)) (f + j + 1)).isSome = true ∧ f + j ≤ b := by
      have key : ∀ n, n ≤ b - f + 1 → (∃ j, j < n ∧ (∀ i, i < j → wekP P m (x ||| 2 ^ (f + i)) (f + i + 1) = none) ∧ (wekP P m (x ||| 2 ^ (f + j)) (f + j + 1)).isSome = true) ∨ ∀ i, i < n → wekP P m (x ||| 2 ^ (f + i)) (f + i + 1) = none := by
        intro n
        induction n with
        | zero => exact fun _ => .inr fun i hi => absurd hi (Nat.not_lt_zero _)
        | succ n ih =>
          intro hn
          rcases ih (by omega) with ⟨j, q1, q2, q3⟩ | q
          · exact .inl ⟨j, by omega, q2, q3⟩
          · cases e : wekP P m (x ||| 2 ^ (f + n)) (f + n + 1) with
            | some y => exact .inl ⟨n, Nat.lt_succ_self _, q, by rw [e]; rfl⟩
            | none =>
              refine .inr fun i hi => ?_
              by_cases ei : i = n
              · rw [ei]; exact e
              · exact q i (by omega)
      rcases key (b - f + 1) (Nat.le_refl _) with ⟨j, q1, q2, q3⟩ | q
      · exact ⟨j, by omega, q2, q3, by omega⟩
      · have := q (b - f) (by omega)
        rw [show f + (b - f) = b by omega, h2] at this
        cases this
    obtain ⟨j, hj, hno, hs, hjb⟩ := hex
    obtain ⟨y, hy⟩ := Option.isSome_iff_exists.1 hs
    have hw : wekP P (m + 1) x f = some y := by
      unfold wekP
      exact findR_some hj hno hy
    by_cases e : f + j = b
    · have hy2 := hy
      rw [e, h2] at hy2
      injection hy2 with hy2
      refine ⟨b :: l, h1.cons hfb hbU, ?_, .inr ⟨rfl, h3⟩⟩
      rw [hw, ← hy2]
      show some (x ||| 2 ^ b ||| orL l) = some (x ||| (2 ^ b ||| orL l))
      rw [Nat.or_assoc]
    · obtain ⟨l2, k1, k2, _⟩ := wekP_list hy
      refine ⟨(f + j) :: l2, k1.cons (by omega) (by omega), ?_, .inl (by omega)⟩
      rw [hw, k2]
      show some (x ||| 2 ^ (f + j) ||| orL l2) = some (x ||| (2 ^ (f + j) ||| orL l2))
      rw [Nat.or_assoc]
end Go.Proofs.YtmbdnhgmpmnhmaaDoor.S
namespace Go.Proofs.YtmbdnhgmpmnhmaaDoor.S
open Go.RowKit Go.Shelf
theorem cnt_zero : ∀ n, M.cnt n 0 = 0
  | 0 => rfl
  | n + 1 => by show 0 % 2 + M.cnt n (0 / 2) = 0; rw [Nat.zero_div, cnt_zero n]
theorem numN_len (x : Nat) : (numN x).length = M.cnt 64 x := by unfold numN; rw [List.length_map, M.len_nums]
theorem and_oneH (y : Nat) (hy : y < 18446744073709551616) : bits .and .u64 (y : Int) 1 = ((y % 2 : Nat) : Int) := by
  have h := M.shr_bit y 0 hy
  rw [show ((y : Int) / 2 ^ 0) = (y : Int) by simp] at h
  rw [h, Nat.testBit_zero]
  rcases Nat.mod_two_eq_zero_or_one y with e | e <;> simp [e]
set_option maxRecDepth 100000 in
set_option maxHeartbeats 2000000 in
theorem bitsF (x : Nat) (hx : x < 18446744073709551616) (w : World) : Calls Tryd.prog 14 #[.int .u64 (x : Int)] w fun e w' => e = .returned (.int .i64 ((numN x).length : Int)) ∧ Below w.heap.size w w' := by
  rw [numN_len]
  have hle := M.cnt_le 64 x
  obtain ⟨cx, hcx⟩ : ∃ c, c = M.cnt 64 x := ⟨_, rfl⟩
  have hst : Hid (0 + M.cnt 64 x = cx) := by show _ = _; omega
  rw [← hcx] at hle ⊢
  clear hcx
  go_enter Tryd.func14, Tryd.ntmps14
  go_wp2
  go_loopw [0, 3] (fun p q wr => ∃ (y n j : Nat), j ≤ 64 ∧ p = .int .u64 (y : Int) ∧ q = .int .i64 (n : Int) ∧ y < 18446744073709551616 ∧ y < 2 ^ j ∧ Hid (n + M.cnt j y = cx) ∧ Hid (Below w.heap.size w wr)) (fun p _ _ => (intOf p).toNat)
  case atStart => exact ⟨x, 0, 64, Nat.le_refl _, rfl, rfl, hx, hx, hst, Below.refl _ _⟩
  case round =>
    clear hst
    obtain ⟨y, n, j, hj, rfl, rfl, hy, hyj, hS, hB⟩ := hrel
    by_cases hlt : 0 < y
    · have hlt' : (0 : Int) < (y : Int) := by omega
      obtain ⟨j', rfl⟩ : ∃ j', j = j' + 1 := by
        cases j with
        | zero => simp at hyj; omega
        | succ j' => exact ⟨j', rfl⟩
      have h1 := and_oneH y hy
      have hS2 : Hid ((n + y % 2) + M.cnt j' (y / 2) = cx) := by
        have := hS.out
        show _ = _
        rw [← this]
        show n + y % 2 + _ = n + (y % 2 + M.cnt j' (y / 2))
        omega
      have hn : n + y % 2 ≤ 64 := by have := hS2.out; omega
      have hy2 : y / 2 < 2 ^ j' := by rw [Nat.pow_succ] at hyj; omega
      have hm : (n : Int) + (y : Int) % 2 ≤ 64 := by omega
      have hm0 : (0 : Int) ≤ (y : Int) % 2 := by omega
      go_wp2
      exact ⟨⟨y / 2, n + y % 2, j', by omega, by congr 1 <;> omega, by congr 1 <;> omega, by omega, hy2, hS2, hB⟩, by simp [intOf]; omega⟩
    · obtain rfl : y = 0 := by omega
      rw [cnt_zero, Nat.add_zero] at hS
      have hS' := hS.out
      subst hS'
      clear hyj hS hy hj hx
      go_wp2
      go_ret
      exact ⟨rfl, hB.out⟩
end Go.Proofs.YtmbdnhgmpmnhmaaDoor.S
namespace Go.Proofs.YtmbdnhgmpmnhmaaDoor.S
open Go.RowKit Go.Shelf
/-- Where later stands at u: the first k of a word's places are below u, the others not. -/
structure LtS (L B : List Nat) (u k : Nat) : Prop where
  lo : ∀ x ∈ B.take k, x < u
  hi : ∀ x ∈ B.drop k, u ≤ x
  cmp : leL (L.drop k) (B.drop k)
theorem ltS_no {L : List Nat} {w u k : Nat} (h : LtS L (numN w) u k) (hu : w.testBit u = false) : LtS L (numN w) (u + 1) k :=
  ⟨fun x hx => by have := h.lo x hx; omega, fun x hx => by
    have h1 := h.hi x hx
    have h2 : x ≠ u := fun e => by
      subst e
      have := (numN_mem.1 (List.mem_of_mem_drop hx)).2
      rw [hu] at this; cases this
    omega, h.cmp⟩
theorem ltS_yes {L : List Nat} {w u k : Nat} (h : LtS L (numN w) u k) (hl : L.length = (numN w).length) (hu64 : u < 64) (hu : w.testBit u = true) :
    ∃ a, L[k]? = some a ∧ (a < u ∨ (a = u ∧ LtS L (numN w) (u + 1) (k + 1))) := by
  have hm : u ∈ numN w := numN_mem.2 ⟨hu64, hu⟩
  have hs := numN_asc w
  generalize numN w = B at *
  have hd : u ∈ B.drop k := by
    rw [← List.take_append_drop k B] at hm
    rcases List.mem_append.1 hm with q | q
    · have := h.lo u q; omega
    · exact q
  obtain ⟨b, t, e⟩ : ∃ b t, B.drop k = b :: t := by
    cases e : B.drop k with
    | nil => rw [e] at hd; cases hd
    | cons b t => exact ⟨b, t, rfl⟩
  have hsd : (B.drop k).Pairwise (· < ·) := hs.sublist (List.drop_sublist k B)
  rw [e] at hsd hd
  obtain ⟨h1, _⟩ := List.pairwise_cons.1 hsd
  have hb : b = u := by
    have h2 := h.hi b (by rw [e]; exact List.mem_cons_self)
    rcases List.mem_cons.1 hd with q | q
    · exact q.symm
    · have := h1 u q; omega
  subst hb
  have hk : k < B.length := by
    have := congrArg List.length e
    rw [List.length_drop, List.length_cons] at this
    omega
  obtain ⟨a, ea⟩ : ∃ a, L[k]? = some a := ⟨_, List.getElem?_eq_getElem (by omega)⟩
  have eL : L.drop k = a :: L.drop (k + 1) := by
    obtain ⟨q1, q2⟩ := List.getElem?_eq_some_iff.1 ea
    rw [List.drop_eq_getElem_cons q1, q2]
  have eB : B.drop (k + 1) = t := by
    rw [← List.drop_drop, e]; rfl
  have hc := h.cmp
  rw [eL, e] at hc
  refine ⟨a, ea, ?_⟩
  rcases hc with q | ⟨q, r⟩
  · exact .inl q
  · refine .inr ⟨q, ⟨fun x hx => ?_, fun x hx => ?_, by rw [eB]; exact r⟩⟩
    · rw [List.take_add_one] at hx
      rcases List.mem_append.1 hx with q | q
      · have := h.lo x q; omega
      · have eb : B[k]? = some b := by
          have := congrArg List.head? e
          rw [List.head?_drop] at this
          exact this
        rw [eb] at q
        have : x = b := by simpa using q
        omega
    · rw [eB] at hx
      have := h1 x hx
      omega
set_option maxRecDepth 100000 in
set_option maxHeartbeats 2000000 in
theorem laterF (L : List Nat) (x : Nat) (lv : Value) (w : World) (hx : x < 18446744073709551616) (hL : RowI w lv (ints L)) (hlen : L.length = (numN x).length) (hle : leL L (numN x)) :
    Calls Tryd.prog 15 #[lv, .int .u64 (x : Int)] w fun e w' => e = .returned (.bool false) ∧ Below w.heap.size w w' := by
  have h0 : Hid (LtS L (numN x) 0 0) := ⟨fun y hy => by simp at hy, fun y _ => Nat.zero_le y, by simpa using hle⟩
  have hb : Hid (∀ u, bits .and .u64 ((x : Int) / 2 ^ u) 1 = ((x.testBit u).toNat : Int)) := fun u => M.shr_bit x u hx
  have hlL : L.length ≤ 64 := by rw [hlen, numN_len]; exact M.cnt_le 64 x
  have hlen' := hide' hlen
  obtain ⟨oo, co, rfl, _, hc⟩ := hL
  have hc' : Hid (∀ (k a : Nat), L[k]? = some a → ∃ g o, oo = some ⟨g, o, none⟩ ∧ w.cell? ⟨g, o + k, none⟩ = some (.int .i64 (a : Int))) := fun k a e => hc k a (ints_at e)
  rw [ints_len]
  clear hc hle hlen hx
  go_enter Tryd.func15, Tryd.ntmps15
  go_wp2
  go_loopw [5, 6] (fun p q wr => ∃ k u : Nat, u ≤ 64 ∧ k ≤ L.length ∧ p = .int .i64 (k : Int) ∧ q = .int .i64 (u : Int) ∧ Hid (LtS L (numN x) u k) ∧ Hid (Below w.heap.size w wr)) (fun _ q _ => ((64 : Int) - intOf q).toNat)
  case atStart => exact ⟨0, 0, by omega, Nat.zero_le _, rfl, rfl, h0, Below.refl _ _⟩
  case round =>
    clear h0
    obtain ⟨k, u, hu, hk, rfl, rfl, hS, hB⟩ := hrel
    by_cases hlt : u < 64
    · have hlt' : (u : Int) < 64 := by omega
      have hu0 : ¬ (u : Int) < 0 := by omega
      have hbu := hb.out u
      cases hbt : x.testBit u with
      | false =>
        rw [hbt] at hbu
        have hbt0 : bits .and .u64 ((x : Int) / 2 ^ u) 1 = 0 := hbu
        have hS1 := hide' (ltS_no hS.out hbt)
        clear hbu hbt hS hb
        go_wp2
        exact ⟨⟨k, u + 1, by omega, hk, rfl, by go_num, hS1, hB⟩, by simp [intOf]; omega⟩
      | true =>
        rw [hbt] at hbu
        have hbt1 : bits .and .u64 ((x : Int) / 2 ^ u) 1 = 1 := hbu
        obtain ⟨a, ha, hor⟩ := ltS_yes hS.out hlen'.out hlt hbt
        obtain ⟨hkl, _⟩ := List.getElem?_eq_some_iff.1 ha
        have hkl' : (k : Int) < (L.length : Int) := by omega
        have hkn : ¬ (L.length : Int) ≤ (k : Int) := by omega
        obtain ⟨g, o, rfl, d1⟩ := hc'.out k a ha
        have e1 := M.cell_over d1 hB.out
        clear hbu hbt hS hb d1 ha hc' hlen'
        rcases hor with q | ⟨rfl, hS1⟩
        · have q1 : ¬ ((a : Int) = (u : Int)) := by omega
          have q2 : ¬ ((u : Int) < (a : Int)) := by omega
          have qb : (((a : Int) != (u : Int)) = true) := by simp; omega
          go_wp2
          go_ret
          exact ⟨rfl, hB.out⟩
        · have hS2 := hide' hS1
          clear hS1
          go_wp2
          exact ⟨⟨k + 1, a + 1, by omega, by omega, by go_num, by go_num, hS2, hB⟩, by simp [intOf]; omega⟩
    · obtain rfl : u = 64 := by omega
      clear hc'
      go_wp2
      go_ret
      exact ⟨rfl, hB.out⟩
end Go.Proofs.YtmbdnhgmpmnhmaaDoor.S
namespace Go.Proofs.YtmbdnhgmpmnhmaaDoor.S
open Go.RowKit Go.Shelf
theorem gra_spec {P : Pb} (hC : chkN P = 0) : ∃ g : Nat, g ≤ 4 ∧ graP P = (g : Int) - 1 ∧ (∀ i, i < g → wekP P i 0 0 = none) ∧ (g < 4 → (wekP P g 0 0).isSome = true) := by
  have key : ∀ n, (∃ j, j < n ∧ (∀ i, i < j → wekP P i 0 0 = none) ∧ (wekP P j 0 0).isSome = true) ∨ ∀ i, i < n → wekP P i 0 0 = none := by
    intro n
    induction n with
    | zero => exact .inr fun i hi => absurd hi (Nat.not_lt_zero _)
    | succ n ih =>
      rcases ih with ⟨j, q1, q2, q3⟩ | q
      · exact .inl ⟨j, by omega, q2, q3⟩
      · cases e : wekP P n 0 0 with
        | some y => exact .inl ⟨n, Nat.lt_succ_self _, q, by rw [e]; rfl⟩
        | none =>
          refine .inr fun i hi => ?_
          by_cases ei : i = n
          · rw [ei]; exact e
          · exact q i (by omega)
  unfold graP
  rw [if_pos hC]
  rcases key 4 with ⟨j, q1, q2, q3⟩ | q
  · refine ⟨j, by omega, ?_, q2, fun _ => q3⟩
    rw [findR_some (y := (j : Int) - 1) q1 (fun i hi => by rw [q2 i hi]; rfl) (by rw [if_pos q3])]
    rfl
  · refine ⟨4, Nat.le_refl _, ?_, q, fun h => absurd h (by decide)⟩
    rw [findR_none fun i hi => by rw [q i hi]; rfl]
    rfl
/-- What the law asks of a problem that is one. -/
structure HyG (Q : Pb) (G : Int) : Prop where
  lo : -1 ≤ G
  hi : G ≤ 3
  can : G < 0 ↔ canB Q = false
  weak : ∀ k : Nat, k ≤ 3 → ∀ y, weaP Q (k : Int) = some y → y < 18446744073709551616 ∧ (numN y).length = k ∧ orL (numN y) = y ∧ (∀ x ∈ numN y, (x : Int) < Q.users) ∧ canB (lesP Q y) = false ∧ G < (k : Int)
  yes : ∀ x, x < 18446744073709551616 → canB (lesP Q x) = true → 0 ≤ G
  no : ∀ x, x < 2 ^ Q.users.toNat → canB (lesP Q x) = false → G < ((numN x).length : Int) ∧ ((numN x).length ≤ 3 → ∃ y, weaP Q ((numN x).length : Int) = some y ∧ y < 18446744073709551616 ∧ leL (numN y) (numN x) ∧ (numN y).length = (numN x).length)
theorem hyG_of {Q : Pb} (hk : Pok Q) (hC : chkN Q = 0) : HyG Q (graP Q) := by
  obtain ⟨g12, g0, g64, g32, gF, gW, gR⟩ := chkN_zero hC
  obtain ⟨g, h1, h2, h3, h4⟩ := gra_spec hC
  have hz : wekP Q 0 0 0 = if canB Q then none else some 0 := by unfold wekP; rw [les_zero hk]
  have hcan : graP Q < 0 ↔ canB Q = false := by
    rw [h2]
    constructor
    · intro q
      obtain rfl : g = 0 := by omega
      have := h4 (by decide)
      rw [hz] at this
      cases e : canB Q with
      | false => rfl
      | true => rw [e] at this; cases this
    · intro q
      rcases Nat.eq_zero_or_pos g with e | e
      · omega
      · have := h3 0 e
        rw [hz, q] at this
        cases this
  have hu64 : Q.users.toNat ≤ 64 := by omega
  have hwea : ∀ k : Nat, k ≤ 3 → weaP Q (k : Int) = wekP Q k 0 0 := fun k hk3 => by
    unfold weaP
    rw [if_pos ⟨hC, by omega, by omega⟩, Int.toNat_natCast]
  have hnum : ∀ {m y : Nat}, wekP Q m 0 0 = some y → y < 18446744073709551616 ∧ (numN y).length = m ∧ orL (numN y) = y ∧ (∀ x ∈ numN y, (x : Int) < Q.users) ∧ canB (lesP Q y) = false := fun {m y} e => by
    obtain ⟨l, a1, a2, a3⟩ := wekP_list e
    rw [Nat.zero_or] at a2
    subst a2
    have hl : numN (orL l) = l := numN_orL a1.asc fun x hx => by have := (a1.rng x hx).2; omega
    refine ⟨wekP_lt hu64 (by decide) e, by rw [hl]; exact a1.len, by rw [hl], fun x hx => ?_, a3⟩
    rw [hl] at hx
    have := (a1.rng x hx).2
    omega
  have h2' : ∀ i : Nat, (wekP Q i 0 0).isSome = true → graP Q < (i : Int) := fun i hi => by
    rw [h2]
    rcases Nat.lt_or_ge i g with q | q
    · rw [h3 i q] at hi; cases hi
    · omega
  refine ⟨by omega, by omega, hcan, fun k hk3 y e => ?_, fun x hx hc => ?_, fun x hx hc => ?_⟩
  · rw [hwea k hk3] at e
    obtain ⟨b1, b2, b3, b4, b5⟩ := hnum e
    exact ⟨b1, b2, b3, b4, b5, h2' k (by rw [e]; rfl)⟩
  · rcases Int.lt_or_le (graP Q) 0 with q | q
    · have e := hcan.1 q
      have := les_mono hC (x := 0) (by decide) hx (fun k _ q => by rw [Nat.zero_testBit] at q; cases q) hc
      rw [les_zero hk, e] at this
      cases this
    · exact q
  · have hx64 : x < 18446744073709551616 := Nat.lt_of_lt_of_le hx (Nat.pow_le_pow_right (by decide) hu64 : 2 ^ Q.users.toNat ≤ 2 ^ 64)
    have hasc : Asc Q.users.toNat 0 (numN x).length (numN x) := ⟨rfl, numN_asc x, fun k hk' => ⟨Nat.zero_le _, by
      have hb := (numN_mem.1 hk').2
      rcases Nat.lt_or_ge k Q.users.toNat with q | q
      · exact q
      · rw [Nat.testBit_lt_two_pow (Nat.lt_of_lt_of_le hx (Nat.pow_le_pow_right (by decide) q))] at hb; cases hb⟩⟩
    obtain ⟨l, a1, a2, a3⟩ := wekP_first (x := 0) hasc (by rw [Nat.zero_or, orL_numN hx64]; exact hc)
    rw [Nat.zero_or] at a2
    obtain ⟨b1, b2, b3, b4, b5⟩ := hnum a2
    have hl : numN (orL l) = l := numN_orL a1.asc fun z hz => by have := (a1.rng z hz).2; omega
    refine ⟨h2' _ (by rw [a2]; rfl), fun h3' => ⟨orL l, ?_, b1, by rw [hl]; exact a3, b2⟩⟩
    rw [hwea _ h3']
    exact a2
theorem hyG_no {Q : Pb} (hC : ¬ chkN Q = 0) : graP Q = -1 ∧ nedP Q = 0 := by
  unfold graP nedP
  rw [if_neg hC, if_neg fun q => hC q.1]
  exact ⟨rfl, rfl⟩
end Go.Proofs.YtmbdnhgmpmnhmaaDoor.S
namespace Go.Proofs.YtmbdnhgmpmnhmaaDoor.S
open Go.RowKit Go.Shelf
structure Xb (gs : Nat) (X : Pb) (x1 x2 x3 : Value) (gx : Nat) (V : World) : Prop where
  pv : PbV V X x1 x2 x3
  q : QAt V gx X.users x1 x2 x3
  ne : ∀ ad n c, x1 = .slice (some ad) n c → ad.block ≠ gs
section
variable {gs : Nat} {X : Pb} {x1 x2 x3 : Value} {gx : Nat} {V V' : World} {a b c : Nat}
theorem Xb.over (h : Xb gs X x1 x2 x3 gx V) (hb : Below V.heap.size V V') : Xb gs X x1 x2 x3 gx V' := ⟨h.pv.below hb, h.q.of (hb.block gx h.q.lt), h.ne⟩
theorem Xb.fr (h : Xb gs X x1 x2 x3 gx V) (hg : GgAt V gs a b c) (hf : M.Fr2 V V' gs gs) : Xb gs X x1 x2 x3 gx V' :=
  ⟨pbV_frame h.pv hg h.ne hf, h.q.of (hf.block gx h.q.lt (q_ne_gs h.q hg) (q_ne_gs h.q hg)), h.ne⟩
theorem Xb.cells (h : Xb gs X x1 x2 x3 gx V) : V.cell? ⟨gx, 0, none⟩ = some (.int .i64 X.users) ∧ V.cell? ⟨gx, 1, none⟩ = some x1 ∧ V.cell? ⟨gx, 2, none⟩ = some x2 ∧ V.cell? ⟨gx, 3, none⟩ = some x3 := ⟨h.q.c0, h.q.c1, h.q.c2, h.q.c3⟩
theorem Xb.new {o1 o2 o3 : Option Addr} {n1 c1 n2 c2 n3 c3 sz : Nat} (h : PbV V X (.slice o1 n1 c1) (.slice o2 n2 c2) (.slice o3 n3 c3)) (hl : ∀ ad n c, Value.slice o1 n1 c1 = .slice (some ad) n c → sz ≤ ad.block) (hs : gs < sz) :
    Xb gs X (.slice o1 n1 c1) (.slice o2 n2 c2) (.slice o3 n3 c3) V.heap.size (V.alloc (.cells #[.int .i64 X.users, .slice o1 n1 c1, .slice o2 n2 c2, .slice o3 n3 c3] 26)) :=
  ⟨h.below ((Below.refl _ V).alloc (Nat.le_refl _) _), QAt.block (heap_new V _), fun ad n c e => by have := hl ad n c e; omega⟩
end
theorem shl_u64 {x : Nat} (h : x < 64) : IntKind.u64.wrap ((2 : Int) ^ x) = ((2 ^ x : Nat) : Int) := by
  have : (2 : Nat) ^ x < 18446744073709551616 := Nat.lt_of_lt_of_le (Nat.pow_lt_pow_right (by decide) h) (Nat.le_refl (2 ^ 64))
  rw [IntKind.wrap_u64, show ((2 : Int) ^ x) = ((2 ^ x : Nat) : Int) by push_cast; rfl]
  generalize (2 : Nat) ^ x = q at *
  omega
theorem orL_take {L : List Nat} {i x : Nat} (h : L[i]? = some x) : orL (L.take (i + 1)) = orL (L.take i) ||| 2 ^ x := by
  rw [List.take_add_one, h]
  exact orL_snoc _ _
theorem le3_one {A B C a0 a6 a7 a8 i : Nat} (h0 : a0 ≤ A + B * i) (hB : C + C + C = B) (h6 : a6 ≤ a0 + C) (h7 : a7 ≤ a6 + C) (h8 : a8 ≤ a7 + C) : a8 ≤ A + B * (i + 1) := by
  rw [Nat.mul_succ]; omega
theorem le3_sum {a0 b0 c0 a6 b6 c6 a7 b7 c7 a8 b8 c8 i : Nat} (h0 : a0 ≤ 20000000000000 + 6000000000000 * i ∧ b0 ≤ 20000000000000 + 6000000000000 * i ∧ c0 ≤ 20000000000000 + 6000000000000 * i)
    (h6 : a6 ≤ a0 + 2000000000000 ∧ b6 ≤ b0 + 2000000000000 ∧ c6 ≤ c0 + 2000000000000) (h7 : a7 ≤ a6 + 2000000000000 ∧ b7 ≤ b6 + 2000000000000 ∧ c7 ≤ c6 + 2000000000000) (h8 : a8 ≤ a7 + 2000000000000 ∧ b8 ≤ b7 + 2000000000000 ∧ c8 ≤ c7 + 2000000000000) :
    Hid (a8 ≤ 20000000000000 + 6000000000000 * (i + 1) ∧ b8 ≤ 20000000000000 + 6000000000000 * (i + 1) ∧ c8 ≤ 20000000000000 + 6000000000000 * (i + 1)) :=
  ⟨le3_one h0.1 rfl h6.1 h7.1 h8.1, le3_one h0.2.1 rfl h6.2.1 h7.2.1 h8.2.1, le3_one h0.2.2 rfl h6.2.2 h7.2.2 h8.2.2⟩
end Go.Proofs.YtmbdnhgmpmnhmaaDoor.S
