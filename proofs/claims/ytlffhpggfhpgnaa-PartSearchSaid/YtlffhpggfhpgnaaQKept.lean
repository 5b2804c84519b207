/- Sieve.kept: what it answers. -/
import Derived.Test.YtlffhpggfhpgnaaPFn
import Derived.Test.YtlffhpggfhpgnaaQMath
namespace Go.Proofs.Ytlffhpggfhpgnaa
open Go.RowKit
def facF (F : List Int) (i : Nat) : Int := match F[i]? with | some z => z.tmod 1000 | none => 1
def wtT (F : List Int) (l : List Nat) : Nat → Int
  | 0 => 0
  | c + 1 => wtT F l c + ((l.getD c 0 : Nat) : Int) * facF F c
def modM (m : Int) : Int := m.tmod 50 + 51
/-- Is a beginning kept? -/
def keptP (F : List Int) (mo ba : Int) (l : List Nat) : Bool := ((wtT F l l.length).tmod (modM mo) + modM mo).tmod (modM mo) != (ba.tmod (modM mo) + modM mo).tmod (modM mo)
theorem tmod_bd (z : Int) {k : Int} (hk : 0 < k) : -k < z.tmod k ∧ z.tmod k < k := ⟨by have h := Int.tmod_lt_of_pos (-z) hk; rw [Int.neg_tmod] at h; omega, Int.tmod_lt_of_pos z hk⟩
theorem fac_bd (F : List Int) (i : Nat) : -1000 < facF F i ∧ facF F i < 1000 := by
  unfold facF
  split
  · exact tmod_bd _ (by decide)
  · decide
theorem mul_bd {x : Nat} {f : Int} (hx : x ≤ 25) (h1 : -1000 < f) (h2 : f < 1000) : -25000 ≤ (x : Int) * f ∧ (x : Int) * f ≤ 25000 := by
  have h3 : (x : Int) * f ≤ (x : Int) * 1000 := Int.mul_le_mul_of_nonneg_left (by omega) (by omega)
  have h4 : (x : Int) * (-1000) ≤ (x : Int) * f := Int.mul_le_mul_of_nonneg_left (by omega) (by omega)
  omega
theorem wt_bd (F : List Int) (l : List Nat) (hl : ∀ x ∈ l, x ≤ 25) (c : Nat) : -(25000 * (c : Int)) ≤ wtT F l c ∧ wtT F l c ≤ 25000 * (c : Int) := by
  induction c with
  | zero => simp [wtT]
  | succ c ih =>
    have hx : l.getD c 0 ≤ 25 := by
      rw [List.getD_eq_getElem?_getD]
      cases h : l[c]? with
      | none => simp
      | some x => exact hl x (List.mem_of_getElem? h)
    have := fac_bd F c
    have := mul_bd hx this.1 this.2
    unfold wtT
    omega
set_option maxRecDepth 100000 in
set_option maxHeartbeats 1000000 in
theorem keptS (F : List Int) (fv : Value) (nn mm mo ba : Int) (l : List Nat) (v : Value) (w : World) (hfv : RowI w fv F) (hr : RowI w v (ints l)) (hn : l.length ≤ 25) (hl : ∀ x ∈ l, x ≤ 25) :
    Calls Try.prog 8 #[.agg #[.int .i64 nn, .int .i64 mm, fv, .int .i64 mo, .int .i64 ba], v] w fun e w' => e = .returned (.bool (keptP F mo ba l)) ∧ Below w.heap.size w w' := by
  obtain ⟨of, cf, rfl, hcF, hcf⟩ := hfv
  obtain ⟨oa, cap, rfl, _, hc⟩ := hr
  have hc' := hide' hc
  have hcf' := hide' hcf
  have hwb := hide' (wt_bd F l hl)
  have hl' := hide' hl
  clear hc hcf hl
  rw [ints_len]
  have hm1 := (tmod_bd mo (k := 50) (by decide)).1
  have hm2 := (tmod_bd mo (k := 50) (by decide)).2
  have hmm : mo.tmod 50 + 51 = modM mo := rfl
  have hM1 : 2 ≤ modM mo := by unfold modM; omega
  have hM2 : modM mo ≤ 100 := by unfold modM; omega
  go_enter Try.func8, Try.ntmps8
  go_wp2
  clear hmm hm1 hm2
  go_loop [6, 7, 8] (fun a k _ => ∃ c : Nat, c ≤ l.length ∧ k = .int .i64 c ∧ a = .int .i64 (wtT F l c)) (fun _ k _ => (l.length - intOf k).toNat)
  case atStart => exact ⟨0, Nat.zero_le _, rfl, rfl⟩
  case round =>
    obtain ⟨c, hc, rfl, rfl⟩ := hrel
    by_cases hlt : c < l.length
    · obtain ⟨x, hx⟩ : ∃ x, l[c]? = some x := ⟨_, List.getElem?_eq_getElem hlt⟩
      obtain ⟨g, o, rfl, cx0⟩ := hc'.out c x (ints_at hx)
      have cx := cell_new (o := Obj.cells #[Value.int IntKind.i64 nn, Value.int IntKind.i64 mm, Value.slice of F.length cf, Value.int IntKind.i64 mo, Value.int IntKind.i64 ba] 24) cx0
      have hxl := hl'.out x (List.mem_of_getElem? hx)
      have hw1 := (hwb.out c).1
      have hw2 := (hwb.out c).2
      have hN : Hid (wtT F l (c + 1) = wtT F l c + (x : Int) * facF F c) := by show wtT F l c + ((l.getD c 0 : Nat) : Int) * facF F c = _; rw [List.getD_eq_getElem?_getD, hx]; rfl
      have hf1 := (fac_bd F c).1
      have hf2 := (fac_bd F c).2
      have hp1 := (mul_bd hxl hf1 hf2).1
      have hp2 := (mul_bd hxl hf1 hf2).2
      clear hx cx0
      generalize wtT F l c = a at *
      by_cases hcF2 : c < F.length
      · obtain ⟨z, hz⟩ : ∃ z, F[c]? = some z := ⟨_, List.getElem?_eq_getElem hcF2⟩
        obtain ⟨gf, o2, rfl, cz0⟩ := hcf'.out c z hz
        have cz := cell_new (o := Obj.cells #[Value.int IntKind.i64 nn, Value.int IntKind.i64 mm, Value.slice (some ⟨gf, o2, none⟩) F.length cf, Value.int IntKind.i64 mo, Value.int IntKind.i64 ba] 24) cz0
        have hfac : z.tmod 1000 = facF F c := by unfold facF; rw [hz]
        clear hz cz0
        generalize hq : facF F c = q at *
        generalize hpr : (x : Int) * q = pr at *
        go_wp2
        go_round
        case rel => exact ⟨c + 1, by omega, by go_num, by rw [hN.out]⟩
        case measure => simp [intOf]; omega
      · have hfac : Hid (facF F c = 1) := by show _ = _; unfold facF; rw [List.getElem?_eq_none (by omega)]
        rw [hfac.out] at hN
        clear hfac hf1 hf2 hp1 hp2
        go_wp2
        go_round
        case rel => exact ⟨c + 1, by omega, by go_num, by rw [hN.out, Int.mul_one]⟩
        case measure => simp [intOf]; omega
    · obtain rfl : c = l.length := by omega
      have hw1 := (hwb.out l.length).1
      have hw2 := (hwb.out l.length).2
      have hK : Hid (keptP F mo ba l = (((wtT F l l.length).tmod (modM mo) + modM mo).tmod (modM mo) != (ba.tmod (modM mo) + modM mo).tmod (modM mo))) := rfl
      generalize modM mo = m at *
      generalize wtT F l l.length = a at *
      have b1 := tmod_bd a (k := m) (by omega)
      have b2 := tmod_bd ba (k := m) (by omega)
      obtain ⟨b11, b12⟩ := b1
      obtain ⟨b21, b22⟩ := b2
      have w1 : Hid ((a.tmod m + m).tmod m = a.tmod m % m) := by show _ = _; rw [Int.tmod_eq_emod_of_nonneg (by omega)]; simp
      have w2 : Hid ((ba.tmod m + m).tmod m = ba.tmod m % m) := by show _ = _; rw [Int.tmod_eq_emod_of_nonneg (by omega)]; simp
      clear hwb hc' hcf' hl'
      go_wp2
      go_region
      go_wp2
      go_ret
      exact ⟨ret_bool (by rw [hK.out, w1.out, w2.out]), ((Below.refl _ _).alloc (Nat.le_refl _) _).drew⟩
end Go.Proofs.Ytlffhpggfhpgnaa
