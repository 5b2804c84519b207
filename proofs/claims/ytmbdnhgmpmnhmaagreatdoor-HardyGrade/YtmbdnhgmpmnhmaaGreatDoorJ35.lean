/- The first full matching, row by row (plain). -/
import Derived.Test.YtmbdnhgmpmnhmaaGreatDoorJ10
import Derived.Deep.AppendLies
namespace Go.Proofs.YtmbdnhgmpmnhmaaGreatDoor.M
open Go.RowKit Go.Shelf
theorem own_geM {w : World} {B : Nat} {e : TypeId} {size : Nat} {v : Value} {n : Nat} {xs : List Value} (h : w.ownsRow B e size v n xs) : ∀ j, v.ownBlock = some j → B ≤ j := fun j ej => (h.lt j ej).1
theorem own_shapeM {w : World} {B : Nat} {e : TypeId} {size : Nat} {v : Value} {n : Nat} {xs : List Value} (h : w.ownsRow B e size v n xs) : ∃ oa cap, v = .slice oa n cap := by
  rcases h.2 with ⟨rfl, h0⟩ | ⟨g, cap, cur, rfl, _⟩
  · exact ⟨none, 0, by rw [h0]⟩
  · exact ⟨_, _, rfl⟩
theorem owns_belowM {W W' : World} {B : Nat} {e : TypeId} {size : Nat} {v : Value} {n : Nat} {xs : List Value} (h : W.ownsRow B e size v n xs) (hb : Below W.heap.size W W') : W'.ownsRow B e size v n xs := by
  refine ⟨h.1, ?_⟩
  rcases h.2 with hn | ⟨g, cap, cur, rfl, hb0, hg, rest⟩
  · exact .inl hn
  · exact .inr ⟨g, cap, cur, rfl, hb0, (hb.block g (Array.getElem?_eq_some_iff.1 hg).1).trans hg, rest⟩
/-- A word laid behind a row of one's own. -/
theorem app_oneU {o : Oper} {a : Act} {K : Act → World → Prop} {Q : Exit → Act → World → Prop} (s x : Operand) (B : Nat) (W : World) (v : Value) (L : List Nat) (z : Nat) (ho : o.op = .call { callee := .builtin .append, args := #[s, x], argTypes := #[22, 22] })
    (es : a.eval s = v) (ex : a.eval x = .slice (some ⟨W.heap.size, 0, none⟩) 1 1) (hT : W.ownsRow B 27 1 v L.length (cellsU L)) (hB : B ≤ W.heap.size) (hn : L.length ≤ 1000000)
    (hK : ∀ v2 w2, Hid (w2.ownsRow B 27 1 v2 (L ++ [z]).length (cellsU (L ++ [z]))) → Hid (Below B W w2) → K (a.put o.dst v2) w2) : o.wp Tryz.prog a (W.alloc (.cells #[.int .u64 (z : Int)] 27)) K Q := by
  obtain ⟨i0, hi, hz0, hz1, hz2⟩ := info_parts infoU
  refine wp_append_own _ s x 22 ho B 27 i0 (.int .u64 0) 1 8 Tryz.underlying22 hi hz0 hz1 hz2 rfl (by decide) v L.length (cellsU L) es (hT.alloc _) ⟨W.heap.size, 0, none⟩ 1 1 [.int .u64 (z : Int)] ex rfl (World.news_of_block (cs := #[.int .u64 (z : Int)]) (I.heap_new _ _)) (by simp [Value.oneCell']) (by unfold maxLen; omega) (by omega) (by simp; omega) ?_
  intro v2 w2 hown hgrow _
  refine hK _ _ ?_ (((Below.refl B W).alloc hB _).grown hgrow (by simp; omega) (fun j ej => own_geM hT j ej))
  show World.ownsRow _ _ _ _ _ _ _
  rw [List.length_append]
  simpa [cellsU] using hown
/-- The rows behind the first, without a place. -/
def givL (L : List Nat) (u : Nat) : List Nat := (L.drop 1).map fun z => z &&& (18446744073709551615 - 2 ^ u)
def givK (L : List Nat) (u k : Nat) : List Nat := ((L.take k).drop 1).map fun z => z &&& (18446744073709551615 - 2 ^ u)
theorem givK_len (L : List Nat) (u k : Nat) (hk : k ≤ L.length) : (givK L u k).length = k - 1 := by simp [givK]; omega
theorem givK_succ {L : List Nat} {u k z : Nat} (hk : 1 ≤ k) (h : L[k]? = some z) : givK L u (k + 1) = givK L u k ++ [z &&& (18446744073709551615 - 2 ^ u)] := by
  have hl := (List.getElem?_eq_some_iff.1 h).1
  unfold givK
  rw [List.take_add_one, h, List.drop_append_of_le_length (by simp; omega)]
  simp
theorem givK_end (L : List Nat) (u : Nat) : givK L u L.length = givL L u := by simp [givK, givL]
theorem givL_word {L : List Nat} {u : Nat} (h : ∀ z ∈ L, z < 18446744073709551616) : ∀ z ∈ givL L u, z < 18446744073709551616 := fun z hz => by
  obtain ⟨y, hy, rfl⟩ := List.mem_map.1 hz
  exact Nat.lt_of_le_of_lt Nat.and_le_left (h y (List.mem_of_mem_drop hy))
set_option maxRecDepth 100000 in
set_option maxHeartbeats 2000000 in
theorem givenF (L : List Nat) (v : Value) (u : Nat) (hu : u < 64) (w : World) (hr : RowU w v L) (hw : ∀ z ∈ L, z < 18446744073709551616) (hn : L.length ≤ 1000) :
    Calls Tryz.prog 102 #[v, .int .i64 (u : Int)] w fun e w' => ∃ v', e = .returned v' ∧ Hid (w'.ownsRow w.heap.size 27 1 v' (givL L u).length (cellsU (givL L u))) ∧ Hid (Below w.heap.size w w') := by
  obtain ⟨oa, cap, rfl, hcap, hc⟩ := hr
  have hc' := hide' hc
  have hw' := hide' hw
  have hsh := shlc u hu
  have hp64 : 2 ^ u < 18446744073709551616 := Nat.pow_lt_pow_right (a := 2) (m := u) (n := 64) (by decide) hu
  have hg : Hid (∀ k z, 1 ≤ k → L[k]? = some z → givK L u (k + 1) = givK L u k ++ [z &&& (18446744073709551615 - 2 ^ u)]) := fun k z h1 h2 => givK_succ h1 h2
  have hge := hide' (givK_end L u)
  have hgl : Hid (∀ k, k ≤ L.length → (givK L u k).length = k - 1) := fun k hk => givK_len L u k hk
  have hg1 : Hid (givK L u 1 = []) := by show _ = _; cases L <;> simp [givK]
  have hg0 : Hid (L.length = 0 → givL L u = []) := fun h => by rw [List.eq_nil_of_length_eq_zero h]; rfl
  generalize givL L u = G at *
  generalize givK L u = gk at *
  generalize 2 ^ u = pu at *
  clear hc hw hcap
  go_enter Tryz.func102, Tryz.ntmps102
  go_wp2
  go_loopw [5, 6] (fun l p wr => ∃ k : Nat, 1 ≤ k ∧ (k ≤ L.length ∨ L.length = 0 ∧ k = 1) ∧ p = .int .i64 (k : Int) ∧ Hid (wr.ownsRow w.heap.size 27 1 l (gk k).length (cellsU (gk k))) ∧ Hid (Below w.heap.size w wr)) (fun _ p _ => ((L.length : Int) - intOf p).toNat)
  case atStart => exact ⟨1, Nat.le_refl _, by omega, rfl, by rw [hg1.out]; exact World.ownsRow_nil _ _ _ _, Below.refl _ _⟩
  case round =>
    obtain ⟨k, hk1, hk, rfl, hO, hB⟩ := hrel
    by_cases hlt : k < L.length
    · have hlt' : (k : Int) < (L.length : Int) := by omega
      obtain ⟨z, hz⟩ : ∃ z, L[k]? = some z := ⟨_, List.getElem?_eq_getElem hlt⟩
      obtain ⟨g, o, rfl, hcz⟩ := hc'.out k z hz
      have hzl := hw'.out z (List.mem_of_getElem? hz)
      have hand := u64_andNot_nat z pu hzl hp64
      have hgk := hide' (hg.out k z hk1 hz)
      have hzz := hide' hz
      clear hz
      generalize z &&& (18446744073709551615 - pu) = y at *
      have cz : wr.cell? ⟨g, o + k, none⟩ = some (.int .u64 (z : Int)) := (hB.out.cell (p := ⟨g, o + k, none⟩) (cell_lt hcz)).trans hcz
      have hcz' := hide' hcz
      have hgl' := hgl.out k (by omega)
      have hSv : Hid (∀ V, Below w.heap.size w V → V.cell? ⟨g, o + k, none⟩ = some (.int .u64 (z : Int))) := fun V hV => (hV.cell (p := ⟨g, o + k, none⟩) (cell_lt hcz'.out)).trans hcz'.out
      have hBd : Hid (Below w.heap.size w wr.drew) := hB.out.drew
      have hBa : Hid (Below w.heap.size w (wr.drew.alloc (.cells #[.int .u64 (y : Int)] 27))) := hBd.out.alloc hBd.out.size _
      clear hcz cz
      go_wp2
      go_region_held3 (fun V => V.cell? ⟨g, o + k, none⟩ = some (.int .u64 (z : Int))) (first | (exact hSv.out _ hBd.out) | (exact hSv.out _ hBa.out) | (exact hSv.out _ hb2.out)) (first | (rw [if_pos (by rfl)]; refine app_oneU (.tmp 13) (.tmp 21) w.heap.size wr.drew _ (gk k) y rfl rfl rfl hO.out hBd.out.size (by omega) ?_; intro v2 w2 hO2 hb2'; have hb2 : Hid (Below w.heap.size w w2) := hBd.out.trans hb2'.out))
      all_goals
        go_wp2
        exact ⟨⟨k + 1, by omega, by omega, by go_num, by rw [hgk.out]; exact hO2, hb2⟩, by simp [intOf]; omega⟩
    · have hlt' : ¬ (k : Int) < (L.length : Int) := by omega
      have hend : Hid (gk k = G) := by
        show _ = _
        rcases hk with h | ⟨h, rfl⟩
        · obtain rfl : k = L.length := by omega
          exact hge.out
        · rw [hg1.out, hg0.out h]
      rw [hend.out] at hO
      go_wp2
      go_ret
      exact ⟨_, rfl, hO, hB⟩
end Go.Proofs.YtmbdnhgmpmnhmaaGreatDoor.M
namespace Go.Proofs.YtmbdnhgmpmnhmaaGreatDoor.M
def consF (u : Nat) (h : Nat → Nat) : Nat → Nat
  | 0 => u
  | r + 1 => h r
theorem givL_len (M : List Nat) (u : Nat) : (givL M u).length = M.length - 1 := by simp [givL]
theorem mask_bit {z u : Nat} (hu : u < 64) (hz : z < 18446744073709551616) (v : Nat) : (z &&& (18446744073709551615 - 2 ^ u)).testBit v = true ↔ z.testBit v = true ∧ v ≠ u := by
  rcases Nat.lt_or_ge v 64 with e | e
  · have hp64 : 2 ^ u < 2 ^ 64 := Nat.pow_lt_pow_right (by decide) hu
    have := minus_bits 64 z (2 ^ u) hp64 v e
    rw [show (18446744073709551615 : Nat) = 2 ^ 64 - 1 by decide, this, Nat.testBit_two_pow]
    by_cases h : u = v
    · subst h; simp
    · have h' : ¬ v = u := fun e => h e.symm
      simp [h, h']
  · have h1 : z.testBit v = false := Nat.testBit_lt_two_pow (Nat.lt_of_lt_of_le hz (Nat.pow_le_pow_right (n := 2) (by decide) e))
    rw [Nat.testBit_and, h1]; simp
theorem fn_giv {M : List Nat} {u r : Nat} (hr : r < M.length - 1) : fn (givL M u) r = fn M (r + 1) &&& (18446744073709551615 - 2 ^ u) := by
  have h1 : M[r + 1]? = some (fn M (r + 1)) := fn_get (by omega)
  refine fn_at ?_
  simp only [givL, List.getElem?_map, List.getElem?_drop]
  rw [show 1 + r = r + 1 by omega, h1]; rfl
theorem giv_bit {M : List Nat} (hw : ∀ z ∈ M, z < 18446744073709551616) {u r : Nat} (hu : u < 64) (hr : r < M.length - 1) (v : Nat) : (fn (givL M u) r).testBit v = true ↔ (fn M (r + 1)).testBit v = true ∧ v ≠ u := by
  rw [fn_giv hr]; exact mask_bit hu (fn_lt hw _) v
theorem giv_full {M : List Nat} (hw : ∀ z ∈ M, z < 18446744073709551616) {u : Nat} (hu : u < 64) (hM : 0 < M.length) (hb : (fn M 0).testBit u = true) (h : Nat → Nat) : FullM (M.length - 1) (fn (givL M u)) h ↔ FullM M.length (fn M) (consF u h) := by
  constructor
  · intro hf
    refine ⟨fun r hr => ?_, fun r s hr hs e => ?_⟩
    · cases r with
      | zero => exact hb
      | succ r => exact ((giv_bit hw hu (by omega) _).1 (hf.bit r (by omega))).1
    · cases r with
      | zero =>
        cases s with
        | zero => rfl
        | succ s =>
          have := ((giv_bit hw hu (by omega) _).1 (hf.bit s (by omega))).2
          exact absurd e.symm this
      | succ r =>
        cases s with
        | zero =>
          have := ((giv_bit hw hu (by omega) _).1 (hf.bit r (by omega))).2
          exact absurd e this
        | succ s => rw [hf.inj r s (by omega) (by omega) e]
  · intro hf
    refine ⟨fun r hr => ?_, fun r s hr hs e => ?_⟩
    · refine (giv_bit hw hu hr _).2 ⟨hf.bit (r + 1) (by omega), fun e => ?_⟩
      have := hf.inj (r + 1) 0 (by omega) hM e
      omega
    · have := hf.inj (r + 1) (s + 1) (by omega) (by omega) e
      omega
theorem consF_tail (g : Nat → Nat) : consF (g 0) (fun r => g (r + 1)) = g := by
  funext r
  cases r <;> rfl
/-- There is a full matching. -/
def Has (M : List Nat) : Prop := ∃ g, FullM M.length (fn M) g
theorem has_giv {M : List Nat} (hw : ∀ z ∈ M, z < 18446744073709551616) {u : Nat} (hu : u < 64) (hM : 0 < M.length) (hb : (fn M 0).testBit u = true) : Has (givL M u) ↔ ∃ g, FullM M.length (fn M) g ∧ g 0 = u := by
  unfold Has
  rw [givL_len]
  constructor
  · rintro ⟨h, hf⟩
    exact ⟨consF u h, (giv_full hw hu hM hb h).1 hf, rfl⟩
  · rintro ⟨g, hf, rfl⟩
    exact ⟨fun r => g (r + 1), (giv_full hw hu hM hb _).2 (by rw [consF_tail]; exact hf)⟩
/-- The list that is told, row by row. -/
inductive LexL : List Nat → List Nat → Prop
  | nil : LexL [] []
  | cons {M : List Nat} {u : Nat} {l : List Nat} (hM : 0 < M.length) (hu : u < 64) (hb : (fn M 0).testBit u = true) (hlow : ∀ v, v < u → (fn M 0).testBit v = true → ¬ Has (givL M v)) (hl : LexL (givL M u) l) : LexL M (u :: l)
theorem LexL.lex {M l : List Nat} (h : LexL M l) : (∀ z ∈ M, z < 18446744073709551616) → l.length = M.length ∧ Lex M.length (fn M) (fn l) M.length := by
  induction h with
  | nil => exact fun _ => ⟨rfl, ⟨fun r hr => absurd hr (Nat.not_lt_zero _), fun r s hr => absurd hr (Nat.not_lt_zero _)⟩, fun j hj => absurd hj (Nat.not_lt_zero _)⟩
  | @cons M u l hM hu hb hlow hl ih =>
    intro hw
    obtain ⟨h1, h2⟩ := ih (givL_word hw)
    rw [givL_len] at h1 h2
    have hfn : fn (u :: l) = consF u (fn l) := by
      funext r
      cases r <;> rfl
    refine ⟨by simp only [List.length_cons]; omega, by rw [hfn]; exact (giv_full hw hu hM hb _).1 h2.full, fun j hj v hv g hg hag hgv => ?_⟩
    rw [hfn] at hv hag
    cases j with
    | zero =>
      have hbv : (fn M 0).testBit v = true := by rw [← hgv]; exact hg.bit 0 hM
      exact hlow v hv hbv ((has_giv hw (by have : v < u := hv; omega) hM hbv).2 ⟨g, hg, hgv⟩)
    | succ j =>
      have hg0 : g 0 = u := hag 0 (by omega)
      refine h2.least j (by omega) v hv (fun r => g (r + 1)) ((giv_full hw hu hM hb _).2 (by rw [← hg0, consF_tail]; exact hg)) (fun i hi => hag (i + 1) (by omega)) hgv
end Go.Proofs.YtmbdnhgmpmnhmaaGreatDoor.M
