/- The document's given: the rows behind the first, without a place. -/
import Derived.Test.YtbbmjfjedonfaaaDoorMRSize
import Derived.Deep.AppendLies
namespace Go.Proofs.YtbbmjfjedonfaaaDoor.M
open Go.RowKit Go.Shelf
theorem own_geM {w : World} {B : Nat} {e : TypeId} {size : Nat} {v : Value} {n : Nat} {xs : List Value} (h : w.ownsRow B e size v n xs) : ∀ j, v.ownBlock = some j → B ≤ j := fun j ej => (h.lt j ej).1
theorem own_shapeM {w : World} {B : Nat} {e : TypeId} {size : Nat} {v : Value} {n : Nat} {xs : List Value} (h : w.ownsRow B e size v n xs) : ∃ oa cap, v = .slice oa n cap := by
  rcases h.2 with ⟨rfl, h0⟩ | ⟨g, cap, cur, rfl, _⟩
  · exact ⟨none, 0, by rw [h0]⟩
  · exact ⟨_, _, rfl⟩
theorem owns_belowM {W W' : World} {B : Nat} {e : TypeId} {size : Nat} {v : Value} {n : Nat} {xs : List Value} (h : W.ownsRow B e size v n xs) (hb : Below W.heap.size W W') : W'.ownsRow B e size v n xs := by
  refine ⟨h.1, ?_⟩
  rcases h.2 with hn | ⟨g, cap, cur, rfl, hb0, hg, rest⟩
  · exact .inl hn
  · exact .inr ⟨g, cap, cur, rfl, hb0, (hb.block g (Array.getElem?_eq_some_iff.1 hg).1).trans hg, rest⟩
/-- A word laid behind a row of one's own. -/
theorem app_oneU {o : Oper} {a : Act} {K : Act → World → Prop} {Q : Exit → Act → World → Prop} (s x : Operand) (B : Nat) (W : World) (v : Value) (L : List Nat) (z : Nat) (ho : o.op = .call { callee := .builtin .append, args := #[s, x], argTypes := #[22, 22] })
    (es : a.eval s = v) (ex : a.eval x = .slice (some ⟨W.heap.size, 0, none⟩) 1 1) (hT : W.ownsRow B 23 1 v L.length (cellsU L)) (hB : B ≤ W.heap.size) (hn : L.length ≤ 1000000)
    (hK : ∀ v2 w2, Hid (w2.ownsRow B 23 1 v2 (L ++ [z]).length (cellsU (L ++ [z]))) → Hid (Below B W w2) → K (a.put o.dst v2) w2) : o.wp Tryd.prog a (W.alloc (.cells #[.int .u64 (z : Int)] 23)) K Q := by
  obtain ⟨i0, hi, hz0, hz1, hz2⟩ := info_parts infoU
  refine wp_append_own _ s x 22 ho B 23 i0 (.int .u64 0) 1 8 Tryd.underlying22 hi hz0 hz1 hz2 rfl (by decide) v L.length (cellsU L) es (hT.alloc _) ⟨W.heap.size, 0, none⟩ 1 1 [.int .u64 (z : Int)] ex rfl (World.news_of_block (cs := #[.int .u64 (z : Int)]) (I.heap_new _ _)) (by simp [Value.oneCell']) (by unfold maxLen; omega) (by omega) (by simp; omega) ?_
  intro v2 w2 hown hgrow _
  refine hK _ _ ?_ (((Below.refl B W).alloc hB _).grown hgrow (by simp; omega) (fun j ej => own_geM hT j ej))
  show World.ownsRow _ _ _ _ _ _ _
  rw [List.length_append]
  simpa [cellsU] using hown
/-- The rows behind the first, without a place. -/
def givL (L : List Nat) (u : Nat) : List Nat := (L.drop 1).map fun z => z &&& (18446744073709551615 - 2 ^ u)
def givK (L : List Nat) (u k : Nat) : List Nat := ((L.take k).drop 1).map fun z => z &&& (18446744073709551615 - 2 ^ u)
theorem givK_len (L : List Nat) (u k : Nat) (hk : k ≤ L.length) : (givK L u k).length = k - 1 := by simp [givK]; omega
theorem givK_succ {L : List Nat} {u k z : Nat} (hk : 1 ≤ k) (h : L[k]? = some z) : givK L u (k + 1) = givK L u k ++ [z &&& (18446744073709551615 - 2 ^ u)] := by
  have hl := (List.getElem?_eq_some_iff.1 h).1
  unfold givK
  rw [List.take_add_one, h, List.drop_append_of_le_length (by simp; omega)]
  simp
theorem givK_end (L : List Nat) (u : Nat) : givK L u L.length = givL L u := by simp [givK, givL]
theorem givL_word {L : List Nat} {u : Nat} (h : ∀ z ∈ L, z < 18446744073709551616) : ∀ z ∈ givL L u, z < 18446744073709551616 := fun z hz => by
  obtain ⟨y, hy, rfl⟩ := List.mem_map.1 hz
  exact Nat.lt_of_le_of_lt Nat.and_le_left (h y (List.mem_of_mem_drop hy))
set_option maxRecDepth 100000 in
set_option maxHeartbeats 2000000 in
theorem givenF (L : List Nat) (v : Value) (u : Nat) (hu : u < 64) (w : World) (hr : RowU w v L) (hw : ∀ z ∈ L, z < 18446744073709551616) (hn : L.length ≤ 1000) :
    Calls Tryd.prog 12 #[v, .int .i64 (u : Int)] w fun e w' => ∃ v', e = .returned v' ∧ Hid (w'.ownsRow w.heap.size 23 1 v' (givL L u).length (cellsU (givL L u))) ∧ Hid (Below w.heap.size w w') := by
  obtain ⟨oa, cap, rfl, hcap, hc⟩ := hr
  have hc' := hide' hc
  have hw' := hide' hw
  have hsh := shlc u hu
  have hp64 : 2 ^ u < 18446744073709551616 := Nat.pow_lt_pow_right (a := 2) (m := u) (n := 64) (by decide) hu
  have hg : Hid (∀ k z, 1 ≤ k → L[k]? = some z → givK L u (k + 1) = givK L u k ++ [z &&& (18446744073709551615 - 2 ^ u)]) := fun k z h1 h2 => givK_succ h1 h2
  have hge := hide' (givK_end L u)
  have hgl : Hid (∀ k, k ≤ L.length → (givK L u k).length = k - 1) := fun k hk => givK_len L u k hk
  have hg1 : Hid (givK L u 1 = []) := by show _ = _; cases L <;> simp [givK]
  have hg0 : Hid (L.length = 0 → givL L u = []) := fun h => by rw [List.eq_nil_of_length_eq_zero h]; rfl
  generalize givL L u = G at *
  generalize givK L u = gk at *
  generalize 2 ^ u = pu at *
  clear hc hw hcap
  go_enter Tryd.func12, Tryd.ntmps12
  go_wp2
  go_loopw [5, 6] (fun l p wr => ∃ k : Nat, 1 ≤ k ∧ (k ≤ L.length ∨ L.length = 0 ∧ k = 1) ∧ p = .int .i64 (k : Int) ∧ Hid (wr.ownsRow w.heap.size 23 1 l (gk k).length (cellsU (gk k))) ∧ Hid (Below w.heap.size w wr)) (fun _ p _ => ((L.length : Int) - intOf p).toNat)
  case atStart => exact ⟨1, Nat.le_refl _, by omega, rfl, by rw [hg1.out]; exact World.ownsRow_nil _ _ _ _, Below.refl _ _⟩
  case round =>
    obtain ⟨k, hk1, hk, rfl, hO, hB⟩ := hrel
    by_cases hlt : k < L.length
    · have hlt' : (k : Int) < (L.length : Int) := by omega
      obtain ⟨z, hz⟩ : ∃ z, L[k]? = some z := ⟨_, List.getElem?_eq_getElem hlt⟩
      obtain ⟨g, o, rfl, hcz⟩ := hc'.out k z hz
      have hzl := hw'.out z (List.mem_of_getElem? hz)
      have hand := u64_andNot_nat z pu hzl hp64
      have hgk := hide' (hg.out k z hk1 hz)
      have hzz := hide' hz
      clear hz
      generalize z &&& (18446744073709551615 - pu) = y at *
      have cz : wr.cell? ⟨g, o + k, none⟩ = some (.int .u64 (z : Int)) := (hB.out.cell (p := ⟨g, o + k, none⟩) (cell_lt hcz)).trans hcz
      have hcz' := hide' hcz
      have hgl' := hgl.out k (by omega)
      have hSv : Hid (∀ V, Below w.heap.size w V → V.cell? ⟨g, o + k, none⟩ = some (.int .u64 (z : Int))) := fun V hV => (hV.cell (p := ⟨g, o + k, none⟩) (cell_lt hcz'.out)).trans hcz'.out
      have hBd : Hid (Below w.heap.size w wr.drew) := hB.out.drew
      have hBa : Hid (Below w.heap.size w (wr.drew.alloc (.cells #[.int .u64 (y : Int)] 23))) := hBd.out.alloc hBd.out.size _
      clear hcz cz
      go_wp2
      go_region_held3 (fun V => V.cell? ⟨g, o + k, none⟩ = some (.int .u64 (z : Int))) (first | (exact hSv.out _ hBd.out) | (exact hSv.out _ hBa.out) | (exact hSv.out _ hb2.out)) (first | (rw [if_pos (by rfl)]; refine app_oneU (.tmp 13) (.tmp 21) w.heap.size wr.drew _ (gk k) y rfl rfl rfl hO.out hBd.out.size (by omega) ?_; intro v2 w2 hO2 hb2'; have hb2 : Hid (Below w.heap.size w w2) := hBd.out.trans hb2'.out))
      all_goals
        go_wp2
        exact ⟨⟨k + 1, by omega, by omega, by go_num, by rw [hgk.out]; exact hO2, hb2⟩, by simp [intOf]; omega⟩
    · have hlt' : ¬ (k : Int) < (L.length : Int) := by omega
      have hend : Hid (gk k = G) := by
        show _ = _
        rcases hk with h | ⟨h, rfl⟩
        · obtain rfl : k = L.length := by omega
          exact hge.out
        · rw [hg1.out, hg0.out h]
      rw [hend.out] at hO
      go_wp2
      go_ret
      exact ⟨_, rfl, hO, hB⟩
end Go.Proofs.YtbbmjfjedonfaaaDoor.M
