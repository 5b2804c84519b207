/- The document's Rank. -/
import Derived.Test.YtagkopmegfmhaaaERef2
namespace Go.Proofs.Ytagkopmegfmhaaa
open Go.RowKit
set_option maxRecDepth 100000 in
set_option maxHeartbeats 2000000 in
theorem refRank (l : List Nat) (v : Value) (w : World) (hr : RowI w v (ints l)) (hn : l.length ≤ 25) (hl : Leg 0 l) :
    Calls Try.prog 30 #[v] w fun e w' => e = .returned (.int .u64 ((rk 0 l : Nat) : Int)) ∧ Below w.heap.size w w' := by
  obtain ⟨oa, cap, rfl, _, hc⟩ := hr
  have hc' := hide' hc
  have hl' := hide' hl
  have hrk : rk 0 l ≤ 4638590332229999353 := by
    have h1 := rk_lt hl
    have h2 := ways_small (l := l.length) (b := 0) (by omega)
    omega
  clear hc hl
  rw [ints_len]
  go_enter Try.func30, Try.ntmps30
  go_wp2
  go_loopw [3, 4, 5, 6] (fun q m k _ wr => ∃ c p : Nat, c ≤ l.length ∧ k = .int .i64 c ∧ m = .int .i64 (blks 0 (l.take c) : Nat) ∧ q = .int .u64 (p : Int) ∧ Hid (p + rk (blks 0 (l.take c)) (l.drop c) = rk 0 l) ∧ blks 0 (l.take c) ≤ c ∧ Hid (Below w.heap.size w wr)) (fun _ _ k _ _ => (l.length - intOf k).toNat)
  case atStart => exact ⟨0, 0, Nat.zero_le _, rfl, rfl, rfl, by show _ = _; simp [blks], by simp [blks], Below.refl _ _⟩
  case round =>
    obtain ⟨c, p, hc, rfl, rfl, rfl, hE, hm, hB⟩ := hrel
    by_cases hlt : c < l.length
    · obtain ⟨x, hx⟩ : ∃ x, l[c]? = some x := ⟨_, List.getElem?_eq_getElem hlt⟩
      obtain ⟨g, o, rfl, cx0⟩ := hc'.out c x (ints_at hx)
      have hxl := leg_at hl'.out hx
      have hN := blks_take hx
      have hdr := drop_at hx
      have hE1 := hE.out
      rw [hdr, rk, ← hN, List.length_drop] at hE1
      obtain ⟨lf, hlf⟩ : ∃ lf, l.length - (c + 1) = lf := ⟨_, rfl⟩
      rw [hlf] at hE1
      have hleft : (l.length : Int) - 1 - (c : Int) = (lf : Int) := by omega
      have KW : Hid (∀ V, Calls Try.prog 42 #[.int .i64 (lf : Int), .int .i64 (blks 0 (l.take c) : Nat)] V fun e w' => e = .returned (.int .u64 ((ways lf (blks 0 (l.take c)) : Nat) : Int)) ∧ Below V.heap.size V w') := fun V => refWays lf (blks 0 (l.take c)) (by omega) V
      have hE2 : Hid ((p + x * ways lf (blks 0 (l.take c))) + rk (blks 0 (l.take (c + 1))) (l.drop (c + 1)) = rk 0 l) := by show _ = _; omega
      have hpx : p + x * ways lf (blks 0 (l.take c)) ≤ 4638590332229999353 := by omega
      have hmx : (x : Int) * ((ways lf (blks 0 (l.take c)) : Nat) : Int) = ((x * ways lf (blks 0 (l.take c)) : Nat) : Int) := by simp
      have hN2 : Hid (blks 0 (l.take (c + 1)) ≤ c + 1) := by show _ ≤ _; rw [hN]; omega
      have hS : Hid (∀ V, Below w.heap.size w V → V.cell? ⟨g, o + c, none⟩ = some (.int .i64 (x : Int))) := fun V hV => (hV.cell (p := ⟨g, o + c, none⟩) (cell_lt cx0)).trans cx0
      have hS0 := hide' (hS.out _ hB.out.drew)
      clear hx hE hE1 hdr cx0 hc' hl'
      generalize ways lf (blks 0 (l.take c)) = W at *
      generalize hxW : x * W = xw at *
      generalize blks 0 (l.take c) = m at *
      generalize hq : blks 0 (l.take (c + 1)) = q at *
      generalize hn' : l.length = n at *
      have hx64 : IntKind.u64.wrap (x : Int) = (x : Int) := by rw [IntKind.wrap_u64]; omega
      have hval : Hid (Value.int .u64 (IntKind.u64.wrap ((p : Int) + IntKind.u64.wrap (IntKind.u64.wrap (x : Int) * (W : Int)))) = .int .u64 ((p + xw : Nat) : Int)) := by
        show _ = _
        rw [hx64, hmx, IntKind.wrap_u64, IntKind.wrap_u64]
        congr 1
        omega
      clear hx64 hmx
      go_wp2
      go_region_held3 (fun V => V.cell? ⟨g, o + c, none⟩ = some (.int .i64 (x : Int))) (first | (exact hS0.out) | (exact hS2.out)) (first | (go_at_call 42; refine (KW.out _).mono ?_; rintro e w2 ⟨rfl, hb2⟩; have hB2 := hide' (hB.out.drew.trans (hb2.mono hB.out.drew.size)); have hS2 := hide' (hS.out _ hB2.out); have c2 := hS2.out; clear hb2))
      by_cases hg : x = m
      · have hg' : ((x : Int) == (m : Int)) = true := by simp; omega
        have hN' : Hid (q = m + 1) := by show _ = _; rw [hN]; omega
        clear hN
        go_wp2
        exact ⟨⟨c + 1, p + xw, by omega, by go_num, by rw [hq, hN'.out]; go_num, hval.out, by rw [hq]; exact hE2, by rw [hq]; exact hN2.out, hB2⟩, by simp [intOf]; omega⟩
      · have hg' : ((x : Int) == (m : Int)) = false := by simp; omega
        have hN' : Hid (q = m) := by show _ = _; rw [hN]; omega
        clear hN
        go_wp2
        exact ⟨⟨c + 1, p + xw, by omega, by go_num, by rw [hq, hN'.out], hval.out, by rw [hq]; exact hE2, by rw [hq]; exact hN2.out, hB2⟩, by simp [intOf]; omega⟩
    · obtain rfl : c = l.length := by omega
      have hE2 : Hid (p = rk 0 l) := by
        show _ = _
        have := hE.out
        rwa [List.drop_length, rk, Nat.add_zero] at this
      clear hE
      go_wp2
      go_ret
      exact ⟨by rw [hE2.out]; rfl, hB.out⟩
end Go.Proofs.Ytagkopmegfmhaaa
