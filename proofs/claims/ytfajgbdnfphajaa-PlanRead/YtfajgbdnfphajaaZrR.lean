/- The document's rules: what bytes say of rules. -/
import Derived.Test.YtfajgbdnfphajaaZrV
import Derived.Test.YtfajgbdnfphajaaZrM
import Derived.Test.YtfajgbdnfphajaaZdK
namespace Go.Proofs.Ytfajgbdnfphajaa.S
open Go.RowKit Go.Shelf
/-- Are these the bytes of so many rules, and no others? -/
def ruOk (n : Nat) (L : List Nat) : Bool := !(crS n (L, false)).2 && decide ((crS n (L, false)).1.length = 0)
theorem cr_late {s : RdS} {a b : Nat} (h : (crS a s).2 = true) (hab : a ≤ b) : (crS b s).2 = true := by
  obtain ⟨k, rfl⟩ : ∃ k, b = a + k := ⟨b - a, by omega⟩
  clear hab
  induction k with
  | zero => exact h
  | succ k ih => exact rdRS_bad ih
theorem ruOk_no {n c : Nat} {L T : List Nat} (hc : c < n) (e : crS c (L, false) = (T, false)) (h : T.length < 6 ∨ ∃ m, T[5]? = some m ∧ T.length < 6 + m) : ruOk n L = false := by
  have h1 : (crS (c + 1) (L, false)).2 = true := by
    show (rdRS (crS c (L, false))).2 = true
    rw [e]; exact rule_no false h
  unfold ruOk
  rw [cr_late h1 (by omega)]
  rfl
theorem RowC.drop {W : World} {g o cap : Nat} {L : List Nat} (h : RowC W (.slice (some ⟨g, o, none⟩) L.length cap) L) {k : Nat} (hk : k ≤ L.length) : RowC W (.slice (some ⟨g, o + k, none⟩) (L.length - k) (cap - k)) (L.drop k) := by
  obtain ⟨oa, cap', e, h0, hc⟩ := h
  cases e
  refine ⟨_, _, by rw [List.length_drop], ⟨by rw [List.length_drop]; omega, fun e => by cases e⟩, fun i z hz => ⟨_, _, rfl, ?_⟩⟩
  rw [List.getElem?_drop] at hz
  obtain ⟨g', o', e', hcell⟩ := hc (k + i) z hz
  cases e'
  rw [Nat.add_assoc]
  exact hcell
theorem RowC.dropE {W : World} {g o cap : Nat} {L : List Nat} (h : RowC W (.slice (some ⟨g, o, none⟩) L.length cap) L) {k : Nat} (hk : k ≤ L.length) (hc : cap = k) : RowC W (.slice (some ⟨g, o, none⟩) (L.length - k) 0) (L.drop k) := by
  obtain ⟨oa, cap', e, h0, _⟩ := h
  cases e
  have hd : L.drop k = [] := List.drop_eq_nil_of_le (by omega)
  rw [hd]
  exact ⟨_, _, by rw [show L.length - k = 0 by omega]; rfl, ⟨Nat.le_refl _, fun e => by cases e⟩, fun i z hz => by cases hz⟩
theorem RowC.mid {W : World} {g o cap : Nat} {L : List Nat} (h : RowC W (.slice (some ⟨g, o, none⟩) L.length cap) L) {a k : Nat} (hk : a + k ≤ L.length) (c : Nat) : RowB W (.slice (some ⟨g, o + a, none⟩) k c) ((L.drop a).take k) := by
  obtain ⟨oa, cap', e, h0, hc⟩ := h
  cases e
  refine ⟨_, _, by rw [List.length_take, List.length_drop, Nat.min_eq_left (by omega)], fun i z hz => ⟨_, _, rfl, ?_⟩⟩
  rw [List.getElem?_take] at hz
  split at hz
  · rw [List.getElem?_drop] at hz
    obtain ⟨g', o', e', hcell⟩ := hc (a + i) z hz
    cases e'
    rw [Nat.add_assoc]
    exact hcell
  · cases hz
theorem RowC.at' {W : World} {g o cap n : Nat} {L : List Nat} (h : RowC W (.slice (some ⟨g, o, none⟩) n cap) L) {i z : Nat} (hz : L[i]? = some z) : W.cell? ⟨g, o + i, none⟩ = some (.int .u8 (z : Int)) := by
  obtain ⟨oa, cap', e, h0, hc⟩ := h
  injection e with e1 e2 e3
  subst e1
  obtain ⟨g', o', e', hcell⟩ := hc i z hz
  cases e'
  exact hcell
theorem RowC.addr {W : World} {v : Value} {L : List Nat} (h : RowC W v L) (h0 : 0 < L.length) : ∃ g o cap, v = .slice (some ⟨g, o, none⟩) L.length cap ∧ L.length ≤ cap := by
  obtain ⟨oa, cap', e, h1, hc⟩ := h
  obtain ⟨g, o, e', _⟩ := hc 0 _ (List.getElem?_eq_getElem h0)
  exact ⟨g, o, cap', by rw [e, e'], h1.1⟩
/-- What stands while a rule is made. -/
structure Dr (Wg : World) (k1 k2 : Int) (W : World) (u sv : Value) (l : List Int) : Prop where
  be : Below Wg.heap.size Wg W
  bx : W.rowIs Wg.heap.size 62 3 (ruV k1 k2 u)
  own : W.ownsRow (Wg.heap.size + 1) 3 1 sv l.length (cellsI l)
section
variable {Wg W W' : World} {k1 k2 : Int} {u sv sv' : Value} {l l' : List Int}
theorem Dr.sz (h : Dr Wg k1 k2 W u sv l) : Wg.heap.size + 1 ≤ W.heap.size := World.rowIs.lt h.bx
theorem Dr.app (h : Dr Wg k1 k2 W u sv l) (ho : W'.ownsRow (Wg.heap.size + 1) 3 1 sv' l'.length (cellsI l')) (hb : Below (Wg.heap.size + 1) W W') : Dr Wg k1 k2 W' u sv' l' :=
  ⟨h.be.trans (hb.mono (Nat.le_succ _)), World.rowIs.of_block h.bx (hb.block _ (Nat.lt_succ_self _)), ho⟩
theorem Dr.over (h : Dr Wg k1 k2 W u sv l) (hb : Below W.heap.size W W') : Dr Wg k1 k2 W' u sv l := h.app (own_lowB h.own hb) (hb.mono h.sz)
theorem Dr.shp (h : Dr Wg k1 k2 W u sv l) : ∃ oa n cap, sv = .slice oa n cap := by obtain ⟨a, c, e⟩ := own_shp h.own; exact ⟨a, _, c, e⟩
theorem Dr.b2 (h : Dr Wg k1 k2 W u sv l) : W.cell? ⟨Wg.heap.size, 2, none⟩ = some u := World.rowIs.cell h.bx (i := 2) (by decide)
theorem Dr.put (h : Dr Wg k1 k2 W u sv l) : Dr Wg k1 k2 (W.setCell ⟨Wg.heap.size, 2, none⟩ sv) sv sv l := by
  have hb : Below Wg.heap.size W (W.setCell ⟨Wg.heap.size, 2, none⟩ sv) := (Below.refl _ W).setCell (p := ⟨Wg.heap.size, 2, none⟩) (Nat.le_refl _) _
  refine ⟨h.be.trans hb, ?_, ?_⟩
  · exact World.rowIs.congr (World.rowIs.set h.bx 2 _) fun i hi => by
      match i, hi with
      | 0, _ => rfl
      | 1, _ => rfl
      | 2, _ => rfl
  · exact own_same h.own fun g hg e => Below.heap_setCell _ _ _ _ (by have := own_ge' h.own e; show g ≠ Wg.heap.size; omega)
end
/-- The document's rules: their answer. -/
def RuD (w : World) (n : Nat) (L : List Nat) (e : Ending) (w' : World) : Prop :=
  ∃ oa m cap, e = .returned (.tuple #[.slice oa m cap, .bool (ruOk n L)]) ∧ Hid (ruOk n L = true → ∃ E, E.map Prod.fst = crL n (L, false) ∧ TwS w.heap.size w' (.slice oa m cap) E) ∧ Hid (Below w.heap.size w w')
set_option maxRecDepth 100000 in
set_option maxHeartbeats 4000000 in
theorem rulesD (L : List Nat) (n : Nat) (v : Value) (w : World) (h : RowC w v L) (hb : ∀ b ∈ L, b < 256) (hn : n < 256) (hl : L.length ≤ 100000) :
    Calls Try.prog 19 #[v, .int .i64 (n : Int)] w (RuD w n L) := by
  have h' := hide' h
  have hb' := hide' hb
  clear h hb
  go_enter Try.func19, Try.ntmps19
  go_wp2
  go_loopw [0, 6, 7, 8, 9, 10] (fun b lv k _ _ _ wr => ∃ (c : Nat) (T : List Nat) (E : List (Rl × Value)), c ≤ n ∧ k = .int .i64 (c : Int) ∧ Hid (crS c (L, false) = (T, false)) ∧ Hid (RowC w b T) ∧ Hid (∀ b ∈ T, b < 256) ∧ Hid (T.length ≤ 100000) ∧ Hid (TwS w.heap.size wr lv E) ∧ Hid (E.map Prod.fst = crL c (L, false)) ∧ Hid (Below w.heap.size w wr)) (fun _ _ k _ _ _ _ => ((n : Int) - intOf k).toNat)
  case atStart => exact ⟨0, L, [], Nat.zero_le _, rfl, rfl, h', hb', hl, TwS.nil _ _, rfl, Below.refl _ _⟩
  case round =>
    clear h' hb' hl
    obtain ⟨c, T, E, hc, rfl, hS, hR, hb, hl, hT, hE, hB⟩ := hrel
    obtain ⟨oe, ce, rfl⟩ : ∃ oe ce, u6 = .slice oe E.length ce := own_shp hT.out.row
    by_cases hlt : c < n
    · have hlt' : (c : Int) < (n : Int) := by omega
      by_cases h6 : T.length < 6
      · have h6' : (T.length : Int) < 6 := by omega
        have hF := hide' (ruOk_no hlt hS.out (.inl h6))
        obtain ⟨oa, cap, rfl, _, _⟩ := hR.out
        clear hS hR hT hE hb hl h6
        go_wp2
        go_ret2
        exact ⟨none, 0, 0, (by rw [hF.out]; rfl), (fun e => by rw [hF.out] at e; cases e), hB⟩
      · obtain ⟨g, o, cap, rfl, hcap⟩ := hR.out.addr (by omega)
        obtain ⟨m, hm⟩ : ∃ m, T[5]? = some m := ⟨_, List.getElem?_eq_getElem (by omega)⟩
        obtain ⟨x, hx⟩ : ∃ m, T[0]? = some m := ⟨_, List.getElem?_eq_getElem (by omega)⟩
        have c5 := M.cell_over (hR.out.at' hm) hB.out
        have hmb := hb.out m (List.mem_of_getElem? hm)
        have h6' : ¬ (T.length : Int) < 6 := by omega
        have h65 : (5 : Int) < (T.length : Int) := by omega
        by_cases h7 : T.length < 6 + m
        · have h7' : (T.length : Int) < 6 + (m : Int) := by omega
          have hF := hide' (ruOk_no hlt hS.out (.inr ⟨m, hm, h7⟩))
          clear hS hR hT hE hb hl h6 hm hx h7
          go_wp2
          go_ret2
          exact ⟨none, 0, 0, (by rw [hF.out]; rfl), (fun e => by rw [hF.out] at e; cases e), hB⟩
        · have h7' : ¬ (T.length : Int) < 6 + (m : Int) := by omega
          have hY := hide' (rule_yes false hx hm (by omega))
          have hxb := hb.out x (List.mem_of_getElem? hx)
          as_aux_lemma =>
          have c0 : wr.cell? ⟨g, o, none⟩ = some (.int .u8 (x : Int)) := by have := M.cell_over (hR.out.at' hx) hB.out; rwa [Nat.add_zero] at this
          have hvl := hide' (RowC.mid hR.out (a := 1) (k := 4) (by omega) (cap - 1))
          have hvb : Hid (∀ b ∈ (T.drop 1).take 4, b < 256) := fun b hb2 => hb.out b (List.mem_of_mem_drop (List.mem_of_mem_take hb2))
          have hv4 : ((T.drop 1).take 4).length = 4 := by rw [List.length_take, List.length_drop]; omega
          have KV : Hid (∀ V, Below w.heap.size w V → Calls Try.prog 18 #[.slice (some ⟨g, o + 1, none⟩) 4 (cap - 1)] V fun e w' => e = .returned (.int .u64 (valB ((T.drop 1).take 4) : Int)) ∧ w' = V) := fun V hV => by
            have h1 : RowB V (.slice (some ⟨g, o + 1, none⟩) 4 (cap - 1)) ((T.drop 1).take 4) := by
              obtain ⟨oa, c', e, hc⟩ := hvl.out
              exact ⟨oa, c', e, fun i z hz => by obtain ⟨g', o', e1, e2⟩ := hc i z hz; exact ⟨g', o', e1, M.cell_over e2 hV⟩⟩
            exact valueF _ _ V h1 hvb.out (by omega)
          have hk2 : valB ((T.drop 1).take 4) < 4294967296 := by have := valB_lt _ hvb.out; rwa [hv4] at this
          have hcI : (6 : Int) ≤ (cap : Int) := by omega
          have hcN : 6 ≤ cap := by omega
          have hc1 := eq_false (show ¬ cap = 1 by omega)
          have hBd : Hid (Below w.heap.size w wr.drew) := hB.out.drew
          have c0d : wr.drew.cell? ⟨g, o, none⟩ = some (.int .u8 (x : Int)) := c0
          clear hvl hvb hv4 hm hx hlt
          generalize hk2e : valB ((T.drop 1).take 4) = k2 at *
          have hBd2 : Hid (Below w.heap.size w (wr.drew.alloc (.cells #[.int .i64 0, .int .i64 0, .slice none 0 0] 62))) := hBd.out.alloc hBd.out.size _
          have h60 : (0 : Int) < (T.length : Int) := by omega
          have h60' : 0 < T.length := by omega
          have hwx : IntKind.i64.wrap (x : Int) = (x : Int) := by unfold IntKind.wrap; simp [IntKind.bits, IntKind.signed]; omega
          have hc5 : (5 : Int) ≤ (cap : Int) := by omega
          have hc5' : 5 ≤ cap := by omega
          have hw2 : IntKind.i64.wrap (k2 : Int) = (k2 : Int) := by unfold IntKind.wrap; simp [IntKind.bits, IntKind.signed]; omega
          have hD0 : Hid (Dr wr (x : Int) (k2 : Int) (wr.alloc (.cells #[.int .i64 (x : Int), .int .i64 (k2 : Int), .slice none 0 0] 62)).drew (.slice none 0 0) (.slice none 0 0) []) := by
            refine Dr.over (W := wr.alloc (.cells #[.int .i64 (x : Int), .int .i64 (k2 : Int), .slice none 0 0] 62)) ⟨(Below.refl _ _).alloc (Nat.le_refl _) _, ?_, World.ownsRow_nil _ _ _ _⟩ (Below.refl _ _).drew
            exact World.rowIs_alloc wr #[.int .i64 (x : Int), .int .i64 (k2 : Int), .slice none 0 0] _ _ fun i hi => by
              have hi : i < 3 := hi
              rcases (show i = 0 ∨ i = 1 ∨ i = 2 by omega) with rfl | rfl | rfl <;> rfl
          go_upto_region 7 with fail
          go_region_held3 (fun V => V.cell? ⟨g, o, none⟩ = some (.int .u8 (x : Int))) (first | (exact c0d) | (exact M.cell_over c0 ((Below.refl _ wr).alloc (Nat.le_refl _) _).drew) | (exact M.cell_over c0 ((Below.refl _ wr).drew.alloc (Nat.le_refl _) _))) (first | (go_at_call 18; refine (KV.out _ (by first | exact hBd.out | exact hBd2.out)).mono ?_; rintro e w5 ⟨rfl, rfl⟩))
          all_goals
            have hc1' := hc1
            clear KV hBd hBd2 c0d c0 hw2 hwx hc1
            have c5' := M.cell_over c5 hD0.out.be
            generalize (wr.alloc (.cells #[.int .i64 (x : Int), .int .i64 (k2 : Int), .slice none 0 0] 62)).drew = W1 at *
            obtain ⟨Wg, rfl⟩ : ∃ W, W = wr := ⟨_, rfl⟩
            clear c5
            go_upto_block 2 with fail
            go_wp2
            go_loopw [10] (fun p wr => ∃ (i : Nat) (sv : Value), i ≤ m ∧ p = .int .i64 (i : Int) ∧ Hid (Dr Wg (x : Int) (k2 : Int) wr sv sv (((T.drop 6).take i).map (fun z : Nat => (z : Int))))) (fun p _ => ((m : Int) - intOf p).toNat)
            case atStart => exact ⟨0, _, Nat.zero_le _, rfl, hD0⟩
            case round =>
              clear hD0 c5'
              obtain ⟨i, sv, hi, rfl, hD⟩ := hrel
              obtain ⟨os, ns, cs, rfl⟩ := hD.out.shp
              by_cases hlt2 : i < m
              · as_aux_lemma =>
                have hlt3 : (i : Int) < (m : Int) := by omega
                obtain ⟨z, hz⟩ : ∃ z, T[6 + i]? = some z := ⟨_, List.getElem?_eq_getElem (by omega)⟩
                have hzb := hb.out z (List.mem_of_getElem? hz)
                have cz0 := hR.out.at' hz
                have hKc : Hid (∀ V u sv l, Dr Wg (x : Int) (k2 : Int) V u sv l → V.cell? ⟨g, o + (6 + i), none⟩ = some (.int .u8 (z : Int))) := fun V u sv l hV => M.cell_over cz0 (hB.out.trans (hV.be.mono hB.out.size))
                have hE2 : Hid (((T.drop 6).take (i + 1)).map (fun z : Nat => (z : Int)) = ((T.drop 6).take i).map (fun z : Nat => (z : Int)) ++ [(z : Int)]) := by
                  unfold Hid
                  rw [List.take_add_one, List.getElem?_drop, hz]
                  simp
                have hlL : (((T.drop 6).take i).map (fun z : Nat => (z : Int))).length ≤ 1000000 := by rw [List.length_map, List.length_take]; omega
                have hDd := hide' (hD.out.over (Below.refl _ wr).drew)
                generalize ((T.drop 6).take i).map (fun z : Nat => (z : Int)) = lj at *
                have c2d := hDd.out.b2
                have c2e := (hDd.out.over ((Below.refl _ wr.drew).alloc (Nat.le_refl _) (.cells #[.int .i64 (z : Int)] 3))).b2
                have c2f : (wr.alloc (.cells #[.int .i64 (z : Int)] 3)).drew.cell? ⟨Wg.heap.size, 2, none⟩ = some (.slice os ns cs) := c2e
                have hsd := hDd.out.sz
                have hw6 : IntKind.i64.wrap (6 + (i : Int)) = 6 + (i : Int) := by unfold IntKind.wrap; simp [IntKind.bits, IntKind.signed]; omega
                have hwz : IntKind.i64.wrap (z : Int) = (z : Int) := by unfold IntKind.wrap; simp [IntKind.bits, IntKind.signed]; omega
                have hi0 : (0 : Int) ≤ 6 + (i : Int) := by omega
                have ht6 : ((6 : Int) + (i : Int)).toNat = 6 + i := by omega
                have hi1 : (6 : Int) + (i : Int) < (T.length : Int) := by omega
                clear hD hz cz0 hE hT hS hY hk2e hk2
                go_wp2
                refine wp_region_held_drew (S := (fun V => V.cell? ⟨g, o + (6 + i), none⟩ = some (.int .u8 (z : Int)))) (by kernel_rfl) ?_ (fun hHeld => ?_)
                · exact hKc.out _ _ _ _ hDd.out
                refine wpAnyH_take (i := 0) (oi := { dst := some 47, op := Op.fieldAddr 62 (Operand.tmp 8) 2, type := 0, pos := "ref.go:94", after := #[], guard := none }) (v := ?_) rfl (by kernel_rfl) (by kernel_rfl) (by kernel_rfl) (fun _ _ _ h => h) (Or.inl ⟨by rfl, ?_⟩) (by assumption) ?_
                rotate_left
                · intro w hSw; (try dsimp only at hSw); go_simp <;> with_reducible rfl
                simp only [Act.put, List.setIfInBounds_toArray, List.set_cons_zero, List.set_cons_succ]
                refine wpAnyH_take (i := 2) (oi := { dst := some 49, op := Op.move (Operand.tmp 0), type := 22, pos := "ref.go:94", after := #[], guard := none }) (v := ?_) rfl (by kernel_rfl) (by kernel_rfl) (by kernel_rfl) (fun _ _ _ h => h) (Or.inl ⟨by rfl, ?_⟩) (by assumption) ?_
                rotate_left
                · intro w hSw; (try dsimp only at hSw); go_simp <;> with_reducible rfl
                simp only [Act.put, List.setIfInBounds_toArray, List.set_cons_zero, List.set_cons_succ]
                refine wpAnyH_take (i := 3) (oi := { dst := some 50, op := Op.move (Operand.tmp 10), type := 3, pos := "ref.go:94", after := #[], guard := none }) (v := ?_) rfl (by kernel_rfl) (by kernel_rfl) (by kernel_rfl) (fun _ _ _ h => h) (Or.inl ⟨by rfl, ?_⟩) (by assumption) ?_
                rotate_left
                · intro w hSw; (try dsimp only at hSw); go_simp <;> with_reducible rfl
                simp only [Act.put, List.setIfInBounds_toArray, List.set_cons_zero, List.set_cons_succ]
                refine wpAnyH_take (i := 4) (oi := { dst := some 51, op := Op.binOp BinOp.add 3 (Operand.const (Value.int IntKind.i64 6)) (Operand.tmp 50) 3, type := 3, pos := "ref.go:94", after := #[{ on := 3, ground := Ground.data }], guard := none }) (v := ?_) rfl (by kernel_rfl) (by kernel_rfl) (by kernel_rfl) (fun _ _ _ h => h) (Or.inl ⟨by rfl, ?_⟩) (by assumption) ?_
                rotate_left
                · intro w hSw; (try dsimp only at hSw); go_simp <;> with_reducible rfl
                simp only [Act.put, List.setIfInBounds_toArray, List.set_cons_zero, List.set_cons_succ]
                refine wpAnyH_take (i := 5) (oi := { dst := some 52, op := Op.indexAddr 22 (Operand.tmp 49) (Operand.tmp 51), type := 0, pos := "ref.go:94", after := #[{ on := 2, ground := Ground.data }, { on := 4, ground := Ground.data }], guard := none }) (v := ?_) rfl (by kernel_rfl) (by kernel_rfl) (by kernel_rfl) (fun _ _ _ h => h) (Or.inl ⟨by rfl, ?_⟩) (by assumption) ?_
                rotate_left
                · intro w hSw; (try dsimp only at hSw); go_simp <;> with_reducible rfl
                simp only [Act.put, List.setIfInBounds_toArray, List.set_cons_zero, List.set_cons_succ]
                refine wpAnyH_take (i := 6) (oi := { dst := some 53, op := Op.load 5 (Operand.tmp 52), type := 5, pos := "ref.go:94", after := #[{ on := 5, ground := Ground.data }], guard := none }) (v := ?_) rfl (by kernel_rfl) (by kernel_rfl) (by kernel_rfl) (fun _ _ _ h => h) (Or.inl ⟨by rfl, ?_⟩) (by assumption) ?_
                rotate_left
                · intro w hSw; (try dsimp only at hSw); go_simp <;> with_reducible rfl
                simp only [Act.put, List.setIfInBounds_toArray, List.set_cons_zero, List.set_cons_succ]
                refine wpAnyH_take (i := 7) (oi := { dst := some 54, op := Op.convert 5 3 (Operand.tmp 53), type := 3, pos := "ref.go:94", after := #[{ on := 6, ground := Ground.data }], guard := none }) (v := ?_) rfl (by kernel_rfl) (by kernel_rfl) (by kernel_rfl) (fun _ _ _ h => h) (Or.inl ⟨by rfl, ?_⟩) (by assumption) ?_
                rotate_left
                · intro w hSw; (try dsimp only at hSw); go_simp <;> with_reducible rfl
                simp only [Act.put, List.setIfInBounds_toArray, List.set_cons_zero, List.set_cons_succ]
                refine wpAnyH_ready (rs := [1, 8]) (by kernel_rfl) (by simp) ?_
                refine AllReadyH.cons (o := { dst := some 48, op := Op.load 24 (Operand.tmp 47), type := 24, pos := "ref.go:94", after := #[{ on := 0, ground := Ground.data }], guard := none }) rfl (fun K hK => ?_) ?_
                · skip
                  go_simp
                  refine hK.out _ _ ?_ (fun hHeld => ?_)
                  · first | (exact hKc.out _ _ _ _ hDd.out) | (exact hKc.out _ _ _ _ (hDd.out.over ((Below.refl _ wr.drew).alloc (Nat.le_refl _) _))) | (exact hKc.out _ _ _ _ hD6.out) | (exact hKc.out _ _ _ _ hD6.out.put)
                  clear hK K
                  try simp only [Act.put, List.setIfInBounds_toArray, List.set_cons_zero, List.set_cons_succ]
                  refine wpAnyH_ready (rs := [8]) (by kernel_rfl) (by simp) ?_
                  refine AllReadyH.cons (o := { dst := some 55, op := Op.buildSlice 24 1 #[(0, Operand.tmp 54)], type := 24, pos := "ref.go:94", after := #[{ on := 7, ground := Ground.data }], guard := none }) rfl (fun K hK => ?_) AllReadyH.nil
                  go_simp
                  refine hK.out _ _ ?_ (fun hHeld => ?_)
                  · first | (exact hKc.out _ _ _ _ hDd.out) | (exact hKc.out _ _ _ _ (hDd.out.over ((Below.refl _ wr.drew).alloc (Nat.le_refl _) _))) | (exact hKc.out _ _ _ _ hD6.out) | (exact hKc.out _ _ _ _ hD6.out.put)
                  clear hK K
                  try simp only [Act.put, List.setIfInBounds_toArray, List.set_cons_zero, List.set_cons_succ]
                  refine wpAnyH_ready (rs := [9]) (by kernel_rfl) (by simp) ?_
                  refine AllReadyH.cons (o := { dst := some 56, op := Op.call { callee := Callee.builtin Builtin.append, args := #[Operand.tmp 48, Operand.tmp 55], argTypes := #[24, 24] }, type := 24, pos := "ref.go:94", after := #[{ on := 1, ground := Ground.data }, { on := 8, ground := Ground.data }], guard := none }) rfl (fun K hK => ?_) AllReadyH.nil
                  rw [if_pos (by rfl)]
                  refine app_oneR (.tmp 48) (.tmp 55) (Wg.heap.size + 1) wr.drew (.slice os ns cs) lj (z : Int) rfl rfl rfl hDd.out.own hsd hlL ?_; intro v6 w6 hO6 hb6; have hD6 := hide' (hDd.out.app hO6 hb6); clear hO6 hb6; obtain ⟨o6, n6, c6, rfl⟩ := hD6.out.shp; have f6 := World.rowIs.frozen hD6.out.bx 2; have d6 := hD6.out.b2; (try dsimp only)
                  refine hK.out _ _ ?_ (fun hHeld => ?_)
                  · first | (exact hKc.out _ _ _ _ hDd.out) | (exact hKc.out _ _ _ _ (hDd.out.over ((Below.refl _ wr.drew).alloc (Nat.le_refl _) _))) | (exact hKc.out _ _ _ _ hD6.out) | (exact hKc.out _ _ _ _ hD6.out.put)
                  clear hK K
                  try simp only [Act.put, List.setIfInBounds_toArray, List.set_cons_zero, List.set_cons_succ]
                  refine wpAnyH_take (i := 10) (oi := { dst := some 57, op := Op.fieldAddr 62 (Operand.tmp 8) 2, type := 0, pos := "ref.go:94", after := #[{ on := 0, ground := Ground.phase }, { on := 1, ground := Ground.phase }, { on := 2, ground := Ground.phase }, { on := 3, ground := Ground.phase }, { on := 4, ground := Ground.phase }, { on := 5, ground := Ground.phase }, { on := 6, ground := Ground.phase }, { on := 7, ground := Ground.phase }, { on := 8, ground := Ground.phase }, { on := 9, ground := Ground.phase }], guard := none }) (v := ?_) rfl (by kernel_rfl) (by kernel_rfl) (by kernel_rfl) (fun _ _ _ h => h) (Or.inl ⟨by rfl, ?_⟩) (by assumption) ?_
                  rotate_left
                  · intro w hSw; (try dsimp only at hSw); go_simp <;> with_reducible rfl
                  simp only [Act.put, List.setIfInBounds_toArray, List.set_cons_zero, List.set_cons_succ]
                  refine wpAnyH_ready (rs := [11]) (by kernel_rfl) (by simp) ?_
                  refine AllReadyH.cons (o := { dst := none, op := Op.store 24 (Operand.tmp 57) (Operand.tmp 56), type := 0, pos := "ref.go:94", after := #[{ on := 10, ground := Ground.data }, { on := 9, ground := Ground.data }, { on := 9, ground := Ground.chain }, { on := 0, ground := Ground.phase }, { on := 1, ground := Ground.phase }, { on := 2, ground := Ground.phase }, { on := 3, ground := Ground.phase }, { on := 4, ground := Ground.phase }, { on := 5, ground := Ground.phase }, { on := 6, ground := Ground.phase }, { on := 7, ground := Ground.phase }, { on := 8, ground := Ground.phase }, { on := 9, ground := Ground.phase }], guard := none }) rfl (fun K hK => ?_) AllReadyH.nil
                  go_simp
                  refine hK.out _ _ ?_ (fun hHeld => ?_)
                  · first | (exact hKc.out _ _ _ _ hDd.out) | (exact hKc.out _ _ _ _ (hDd.out.over ((Below.refl _ wr.drew).alloc (Nat.le_refl _) _))) | (exact hKc.out _ _ _ _ hD6.out) | (exact hKc.out _ _ _ _ hD6.out.put)
                  clear hK K
                  try simp only [Act.put, List.setIfInBounds_toArray, List.set_cons_zero, List.set_cons_succ]
                  refine wpAnyH_done (by kernel_rfl) ?_ _
                  skip
                  have hD7 := hide' hD6.out.put
                  clear hD6 f6 d6 c2d c2e c2f hDd
                  go_wp2
                  exact ⟨⟨i + 1, .slice o6 n6 c6, by omega, by go_num, by rw [hE2.out]; exact hD7⟩, by simp [intOf]; omega⟩
                refine AllReadyH.cons (o := { dst := some 55, op := Op.buildSlice 24 1 #[(0, Operand.tmp 54)], type := 24, pos := "ref.go:94", after := #[{ on := 7, ground := Ground.data }], guard := none }) rfl (fun K hK => ?_) AllReadyH.nil
                go_simp
                refine hK.out _ _ ?_ (fun hHeld => ?_)
                · first | (exact hKc.out _ _ _ _ hDd.out) | (exact hKc.out _ _ _ _ (hDd.out.over ((Below.refl _ wr.drew).alloc (Nat.le_refl _) _))) | (exact hKc.out _ _ _ _ hD6.out) | (exact hKc.out _ _ _ _ hD6.out.put)
                clear hK K
                try simp only [Act.put, List.setIfInBounds_toArray, List.set_cons_zero, List.set_cons_succ]
                refine wpAnyH_ready (rs := [1]) (by kernel_rfl) (by simp) ?_
                refine AllReadyH.cons (o := { dst := some 48, op := Op.load 24 (Operand.tmp 47), type := 24, pos := "ref.go:94", after := #[{ on := 0, ground := Ground.data }], guard := none }) rfl (fun K hK => ?_) AllReadyH.nil
                go_simp
                refine hK.out _ _ ?_ (fun hHeld => ?_)
                · first | (exact hKc.out _ _ _ _ hDd.out) | (exact hKc.out _ _ _ _ (hDd.out.over ((Below.refl _ wr.drew).alloc (Nat.le_refl _) _))) | (exact hKc.out _ _ _ _ hD6.out) | (exact hKc.out _ _ _ _ hD6.out.put)
                clear hK K
                try simp only [Act.put, List.setIfInBounds_toArray, List.set_cons_zero, List.set_cons_succ]
                refine wpAnyH_ready (rs := [9]) (by kernel_rfl) (by simp) ?_
                refine AllReadyH.cons (o := { dst := some 56, op := Op.call { callee := Callee.builtin Builtin.append, args := #[Operand.tmp 48, Operand.tmp 55], argTypes := #[24, 24] }, type := 24, pos := "ref.go:94", after := #[{ on := 1, ground := Ground.data }, { on := 8, ground := Ground.data }], guard := none }) rfl (fun K hK => ?_) AllReadyH.nil
                rw [if_pos (by rfl)]
                refine app_oneR (.tmp 48) (.tmp 55) (Wg.heap.size + 1) wr.drew (.slice os ns cs) lj (z : Int) rfl rfl rfl hDd.out.own hsd hlL ?_; intro v6 w6 hO6 hb6; have hD6 := hide' (hDd.out.app hO6 hb6); clear hO6 hb6; obtain ⟨o6, n6, c6, rfl⟩ := hD6.out.shp; have f6 := World.rowIs.frozen hD6.out.bx 2; have d6 := hD6.out.b2; (try dsimp only)
                refine hK.out _ _ ?_ (fun hHeld => ?_)
                · first | (exact hKc.out _ _ _ _ hDd.out) | (exact hKc.out _ _ _ _ (hDd.out.over ((Below.refl _ wr.drew).alloc (Nat.le_refl _) _))) | (exact hKc.out _ _ _ _ hD6.out) | (exact hKc.out _ _ _ _ hD6.out.put)
                clear hK K
                try simp only [Act.put, List.setIfInBounds_toArray, List.set_cons_zero, List.set_cons_succ]
                refine wpAnyH_take (i := 10) (oi := { dst := some 57, op := Op.fieldAddr 62 (Operand.tmp 8) 2, type := 0, pos := "ref.go:94", after := #[{ on := 0, ground := Ground.phase }, { on := 1, ground := Ground.phase }, { on := 2, ground := Ground.phase }, { on := 3, ground := Ground.phase }, { on := 4, ground := Ground.phase }, { on := 5, ground := Ground.phase }, { on := 6, ground := Ground.phase }, { on := 7, ground := Ground.phase }, { on := 8, ground := Ground.phase }, { on := 9, ground := Ground.phase }], guard := none }) (v := ?_) rfl (by kernel_rfl) (by kernel_rfl) (by kernel_rfl) (fun _ _ _ h => h) (Or.inl ⟨by rfl, ?_⟩) (by assumption) ?_
                rotate_left
                · intro w hSw; (try dsimp only at hSw); go_simp <;> with_reducible rfl
                simp only [Act.put, List.setIfInBounds_toArray, List.set_cons_zero, List.set_cons_succ]
                refine wpAnyH_ready (rs := [11]) (by kernel_rfl) (by simp) ?_
                refine AllReadyH.cons (o := { dst := none, op := Op.store 24 (Operand.tmp 57) (Operand.tmp 56), type := 0, pos := "ref.go:94", after := #[{ on := 10, ground := Ground.data }, { on := 9, ground := Ground.data }, { on := 9, ground := Ground.chain }, { on := 0, ground := Ground.phase }, { on := 1, ground := Ground.phase }, { on := 2, ground := Ground.phase }, { on := 3, ground := Ground.phase }, { on := 4, ground := Ground.phase }, { on := 5, ground := Ground.phase }, { on := 6, ground := Ground.phase }, { on := 7, ground := Ground.phase }, { on := 8, ground := Ground.phase }, { on := 9, ground := Ground.phase }], guard := none }) rfl (fun K hK => ?_) AllReadyH.nil
                go_simp
                refine hK.out _ _ ?_ (fun hHeld => ?_)
                · first | (exact hKc.out _ _ _ _ hDd.out) | (exact hKc.out _ _ _ _ (hDd.out.over ((Below.refl _ wr.drew).alloc (Nat.le_refl _) _))) | (exact hKc.out _ _ _ _ hD6.out) | (exact hKc.out _ _ _ _ hD6.out.put)
                clear hK K
                try simp only [Act.put, List.setIfInBounds_toArray, List.set_cons_zero, List.set_cons_succ]
                refine wpAnyH_done (by kernel_rfl) ?_ _
                skip
                have hD7 := hide' hD6.out.put
                clear hD6 f6 d6 c2d c2e c2f hDd
                go_wp2
                exact ⟨⟨i + 1, .slice o6 n6 c6, by omega, by go_num, by rw [hE2.out]; exact hD7⟩, by simp [intOf]; omega⟩
              · as_aux_lemma =>
                obtain rfl : i = m := by omega
                have a0 : wr.cell? ⟨Wg.heap.size, 0, none⟩ = some (.int .i64 (x : Int)) := World.rowIs.cell hD.out.bx (i := 0) (by decide)
                have a1 : wr.cell? ⟨Wg.heap.size, 1, none⟩ = some (.int .i64 (k2 : Int)) := World.rowIs.cell hD.out.bx (i := 1) (by decide)
                have a2 := hD.out.b2
                have hTv := hide' (hT.out.below hD.out.be (Nat.le_refl _))
                have hBv : Hid (Below w.heap.size w wr) := hB.out.trans (hD.out.be.mono hB.out.size)
                have hp : Hid (wr.ownsRow w.heap.size 3 1 (.slice os ns cs) (((T.drop 6).take i).map (fun z : Nat => (z : Int))).length (cellsI (((T.drop 6).take i).map (fun z : Nat => (z : Int))))) := owns_lowS hD.out.own (by have := hB.out.size; omega)
                have hne : Hid (∀ gg, (Value.slice oe E.length ce).ownBlock = some gg → (Value.slice os ns cs).ownBlock ≠ some gg) := fun gg h1 h2 => by
                  have q1 := own_lt' hT.out.row h1
                  have q2 := own_ge' hD.out.own h2
                  omega
                have hEn : Hid (E.length ≤ 1000000) := by
                  have := congrArg List.length hE.out
                  rw [List.length_map, crL_len] at this
                  show E.length ≤ 1000000
                  omega
                have hS2 : Hid (crS (c + 1) (L, false) = (T.drop (6 + i), false)) := by
                  show rdRS (crS c (L, false)) = _
                  rw [hS.out]; exact hY.out.2
                have hE2 : Hid ((E ++ [((⟨(x : Int), (k2 : Int), ((T.drop 6).take i).map (fun z : Nat => (z : Int))⟩ : Rl), Value.slice os ns cs)]).map Prod.fst = crL (c + 1) (L, false)) := by
                  show _ = crL c (L, false) ++ [rdR (crS c (L, false))]
                  rw [hS.out, hY.out.1, List.map_append, hE.out]
                  rfl
                have hb2 : Hid (∀ b ∈ T.drop (6 + i), b < 256) := fun b hh => hb.out b (List.mem_of_mem_drop hh)
                have hl2 : Hid ((T.drop (6 + i)).length ≤ 100000) := by show _ ≤ _; rw [List.length_drop]; have := hl.out; omega
                have hw6 : IntKind.i64.wrap (6 + (i : Int)) = 6 + (i : Int) := by unfold IntKind.wrap; simp [IntKind.bits, IntKind.signed]; omega
                have ht6 : ((6 : Int) + (i : Int)).toNat = 6 + i := by omega
                have hi0 : (0 : Int) ≤ 6 + (i : Int) := by omega
                have hi1 : (6 : Int) + (i : Int) ≤ (T.length : Int) := by omega
                have hi2 : (T.length : Int) ≤ (cap : Int) := by omega
                have hi3 : (6 : Int) + (i : Int) ≤ (cap : Int) := by omega
                have hlt4 : ¬ (i : Int) < (i : Int) := by omega
                have hRa := hide' (RowC.drop hR.out (k := 6 + i) (by omega))
                have hRe : Hid (cap = 6 + i → RowC w (.slice (some ⟨g, o, none⟩) (T.length - (6 + i)) 0) (T.drop (6 + i))) := fun e => RowC.dropE hR.out (by omega) e
                clear hD hT hB hE hS hY hR hk2e hk2 hb hl
                generalize hlj : ((T.drop 6).take i).map (fun z : Nat => (z : Int)) = lj at *
                clear hlj
                by_cases hcc : cap = 6 + i
                · have hcc2 : Hid (RowC w (.slice (some ⟨g, o, none⟩) 0 0) (T.drop (6 + i))) := by have := hRe.out hcc; rwa [show T.length - (6 + i) = 0 by omega] at this
                  subst hcc
                  go_wp2_with (at_builtin; refine wpList_plain rfl fun _ hK => app_rule (.tmp 58) (.tmp 60) w.heap.size wr (.slice oe E.length ce) E (⟨(x : Int), (k2 : Int), lj⟩, .slice os ns cs) rfl rfl rfl hTv.out hp.out hne.out hBv.out.size hEn.out fun v2 w2 hT2 hb2 => hK _ _ ?_; have hT3 := hide' hT2; have hB3 : Hid (Below w.heap.size w w2) := hBv.out.trans hb2; clear hT2 hb2)
                  exact ⟨⟨c + 1, T.drop (6 + i), _, by omega, by go_num, hS2, hcc2, hb2, hl2, hT3, hE2, hB3⟩, by simp [intOf]; omega⟩
                · have hcc1 := eq_false hcc
                  have hcc2 := eq_false (show ¬ (cap : Int) = 6 + (i : Int) by omega)
                  go_wp2_with (at_builtin; refine wpList_plain rfl fun _ hK => app_rule (.tmp 58) (.tmp 60) w.heap.size wr (.slice oe E.length ce) E (⟨(x : Int), (k2 : Int), lj⟩, .slice os ns cs) rfl rfl rfl hTv.out hp.out hne.out hBv.out.size hEn.out fun v2 w2 hT2 hb2 => hK _ _ ?_; have hT3 := hide' hT2; have hB3 : Hid (Below w.heap.size w w2) := hBv.out.trans hb2; clear hT2 hb2)
                  exact ⟨⟨c + 1, T.drop (6 + i), _, by omega, by go_num, hS2, hRa, hb2, hl2, hT3, hE2, hB3⟩, by simp [intOf]; omega⟩
    · obtain rfl : c = n := by omega
      have hq : Hid (ruOk c L = decide (T.length = 0)) := by unfold Hid ruOk; rw [hS.out]; rfl
      obtain ⟨oa, cap, rfl, _, _⟩ := hR.out
      clear hR hb hl
      have hf : Hid (ruOk c L = true → ∃ E', E'.map Prod.fst = crL c (L, false) ∧ TwS w.heap.size wr (.slice oe E.length ce) E') := fun _ => ⟨E, hE.out, hT.out⟩
      clear hT hE hS
      by_cases h0 : T.length = 0
      · have h0' : (T.length : Int) = 0 := by omega
        have hq2 : Hid (ruOk c L = true) := by unfold Hid; rw [hq.out, h0]; rfl
        clear h0
        go_wp2
        go_ret2
        exact ⟨oe, _, ce, (by rw [hq2.out]; rfl), hf, hB⟩
      · have h0' : ¬ (T.length : Int) = 0 := by omega
        have h0b : ((T.length : Int) == 0) = false := by rw [beq_eq_false_iff_ne]; exact h0'
        have hq2 : Hid (ruOk c L = false) := by unfold Hid; rw [hq.out]; exact decide_eq_false h0
        go_wp2
        go_ret2
        exact ⟨oe, _, ce, (by rw [hq2.out]; rfl), hf, hB⟩
end Go.Proofs.Ytfajgbdnfphajaa.S
