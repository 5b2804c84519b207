/- The document's Least. -/
import Derived.Test.YtmbdnhgmpmnhmaaGreatDoorJ35
import Derived.Lib.OwnKind
namespace Go.Proofs.YtmbdnhgmpmnhmaaGreatDoor.M
open Go.RowKit Go.Shelf
def ints (l : List Nat) : List Int := l.map fun z : Nat => (z : Int)
theorem ints_len (l : List Nat) : (ints l).length = l.length := by simp [ints]
def lenV : Value → Nat
  | .slice _ n _ => n
  | _ => 0
/-- The words that are left, and what has been told. -/
structure RlI (w : World) (L M l : List Nat) (vm lv : Value) (V : World) : Prop where
  row : RowU V vm M
  word : ∀ z ∈ M, z < 18446744073709551616
  has : Has M
  few : M.length ≤ 12
  lex : ∀ l2, LexL M l2 → LexL L (l ++ l2)
  told : V.ownsRow w.heap.size 3 1 lv l.length (I.cellsI (ints l))
  ten : l.length ≤ 12 - M.length
  old : Below w.heap.size w V
  apt : 0 < M.length → ∀ g o n c, vm = .slice (some ⟨g, o, none⟩) n c → g < w.heap.size ∨ ∃ cs f, V.heap[g]? = some (.cells cs 27 f)
theorem RlI.below {w : World} {L M l : List Nat} {vm lv : Value} {V V' : World} (h : RlI w L M l vm lv V) (hb : Below V.heap.size V V') : RlI w L M l vm lv V' :=
  ⟨h.row.below hb (Nat.le_refl _), h.word, h.has, h.few, h.lex, owns_belowM h.told hb, h.ten, h.old.trans (hb.mono h.old.size), fun hM g o n c e => by
    rcases h.apt hM g o n c e with h | ⟨cs, f, h⟩
    · exact .inl h
    · exact .inr ⟨cs, f, (hb.block g (Array.getElem?_eq_some_iff.1 h).1).trans h⟩⟩
/-- What the document's Least answers. -/
def LeaR (w : World) (L : List Nat) (e : Ending) (w' : World) : Prop :=
  Hid (Below w.heap.size w w') ∧ ((L.length ≤ 12 ∧ ∃ l v, e = .returned (.tuple #[v, .bool true]) ∧ Hid (LexL L l) ∧ Hid (w'.ownsRow w.heap.size 3 1 v l.length (I.cellsI (ints l)))) ∨
    (e = .returned (.tuple #[.slice none 0 0, .bool false]) ∧ Hid (L.length ≤ 12 → ¬ Has L)))
set_option maxRecDepth 100000 in
set_option maxHeartbeats 2000000 in
theorem rLeastF (L : List Nat) (v : Value) (w : World) (hr : RowU w v L) (hw : ∀ z ∈ L, z < 18446744073709551616) (ht : Tab w) : Calls Tryz.prog 83 #[v] w (LeaR w L) := by
  obtain ⟨oa, cap, rfl⟩ := hr.shape
  have KF := hide' (rFullF (hr.rwa ht hw))
  have ht' := hide' ht
  have hr' := hide' hr
  have hw' := hide' hw
  clear hr hw ht
  cases hfu : fulB L.length (fn L) with
  | false =>
    rw [hfu] at KF
    have hno : Hid (L.length ≤ 12 → ¬ Has L) := fun h1 h2 => by
      have := (fulB_iff _ _).2 ⟨h1, h2⟩
      rw [hfu] at this
      cases this
    go_enter Tryz.func83, Tryz.ntmps83
    go_wp2_with fail
    refine KF.out.mono ?_
    rintro e w1 ⟨rfl, hb⟩
    go_wp2
    go_ret2
    exact ⟨hb, .inr ⟨rfl, hno⟩⟩
  | true =>
    rw [hfu] at KF
    obtain ⟨hn, hhas⟩ := (fulB_iff _ _).1 hfu
    have h0 : Hid (RlI w L L [] (.slice oa L.length cap) (.slice none 0 0) w) := ⟨hr'.out, hw'.out, hhas, hn, fun _ h => h, World.ownsRow_nil _ _ _ _, by simp, Below.refl _ _, fun hM g o n c e => by
      obtain ⟨_, _, e9, _, hcel⟩ := hr'.out
      cases e9
      cases e
      obtain ⟨g', o', e', hc'⟩ := hcel 0 _ (fn_get hM)
      cases e'
      exact .inl (cell_lt hc')⟩
    clear hfu hhas hr'
    go_enter Tryz.func83, Tryz.ntmps83
    go_wp2_with fail
    refine KF.out.mono ?_
    rintro e w1 ⟨rfl, hb⟩
    have h1 := hide' (h0.out.below hb)
    clear KF hb h0
    go_wp2
    go_loopw [0, 4, 5] (fun vm lv _ wr => ∃ (M l : List Nat) (om : Option Addr) (cm : Nat), vm = .slice om M.length cm ∧ Hid (RlI w L M l (.slice om M.length cm) lv wr)) (fun vm _ _ _ => lenV vm)
    case atStart => exact ⟨L, [], oa, cap, rfl, h1⟩
    case round =>
      clear h1
      obtain ⟨M, l, om, cm, rfl, hI⟩ := hrel
      obtain ⟨i0, hi0, hz0, hz1, hz2⟩ := info_parts I.info3
      by_cases hM : 0 < M.length
      · have hM' : (0 : Int) < (M.length : Int) := by omega
        obtain ⟨_, _, e9, _, hcel⟩ := hI.out.row
        cases e9
        obtain ⟨g, o, rfl, hcr⟩ := hcel 0 _ (fn_get hM)
        have hx := fn_lt hI.out.word 0
        obtain ⟨g0, hg0⟩ := hI.out.has
        have hb0 := hg0.bit 0 hM
        have hu0 : g0 0 < 64 := by
          rcases Nat.lt_or_ge (g0 0) 64 with q | q
          · exact q
          · rw [Nat.testBit_lt_two_pow (Nat.lt_of_lt_of_le hx (Nat.pow_le_pow_right (n := 2) (by decide) q))] at hb0; cases hb0
        have hg0' : Hid (Has (givL M (g0 0))) := (has_giv hI.out.word hu0 hM hb0).2 ⟨g0, hg0, rfl⟩
        have hcr' := hide' hcr
        have hb0' := hide' hb0
        clear hcel hg0 hcr hb0
        obtain ⟨Wk, hWk⟩ : ∃ W, W = wr := ⟨_, rfl⟩
        rw [← hWk] at hI hcr'
        go_wp2
        rw [← hWk]
        clear hWk
        generalize g0 0 = ux at *
        go_loopw [5] (fun p wx => ∃ u : Nat, u ≤ ux ∧ p = .int .i64 (u : Int) ∧ Hid (Below Wk.heap.size Wk wx) ∧ Hid (∀ v, v < u → (fn M 0).testBit v = true → ¬ Has (givL M v))) (fun p _ => (64 - intOf p).toNat)
        case atStart => exact ⟨0, Nat.zero_le _, rfl, Below.refl _ _, fun v h => absurd h (Nat.not_lt_zero _)⟩
        case round =>
          obtain ⟨u, hu, rfl, hBx, hlow⟩ := hrel
          have hu64 : u < 64 := by omega
          have hu64' : (u : Int) < 64 := by omega
          have hIx := hide' (hI.out.below hBx.out)
          have cx := cell_over hcr'.out hBx.out
          simp only [Nat.add_zero] at cx
          by_cases hbit : (fn M 0).testBit u = true
          · have hs1 := shr_bitT hx hbit
            have KG := hide' (givenF M _ u hu64 wr hIx.out.row hIx.out.word (by have := hIx.out.few; omega))
            have htx : Hid (Tab wr) := ht'.out.over hIx.out.old
            go_wp2_with fail
            refine KG.out.mono ?_
            rintro e w2 ⟨vg, rfl, hO2, hb2⟩
            obtain ⟨og, cg, rfl⟩ := own_shapeM hO2.out
            have KF2 := hide' (rFullF ((RowU.of_owns hO2.out).rwa (htx.out.over hb2.out) (givL_word hIx.out.word)))
            have hI2 := hide' (hIx.out.below hb2.out)
            have hBx2 : Hid (Below Wk.heap.size Wk w2) := hBx.out.trans (hb2.out.mono hBx.out.size)
            have hgl := givL_len M u
            have hgf := hI2.out.few
            cases hfu : fulB (givL M u).length (fn (givL M u)) with
            | false =>
              rw [hfu] at KF2
              have hno : ¬ Has (givL M u) := fun h => by
                have := (fulB_iff _ _).2 ⟨by omega, h⟩
                rw [hfu] at this
                cases this
              have hlow2 : Hid (∀ v, v < u + 1 → (fn M 0).testBit v = true → ¬ Has (givL M v)) := fun v hv hb => by
                by_cases e : v = u
                · subst e; exact hno
                · exact hlow.out v (by omega) hb
              have hu2 : u + 1 ≤ ux := by
                rcases Nat.lt_or_ge u ux with h | h
                · omega
                · obtain rfl : u = ux := by omega
                  exact absurd hg0'.out hno
              clear KG hO2 hb2 hno hfu hgl
              generalize (givL M u).length = gl at *
              go_wp2_with fail
              refine KF2.out.mono ?_
              rintro e w3 ⟨rfl, hb3⟩
              have hBx3 : Hid (Below Wk.heap.size Wk w3) := hBx2.out.trans (hb3.mono hBx2.out.size)
              clear hb3 KF2
              go_wp2
              exact ⟨⟨u + 1, hu2, by go_num, hBx3, hlow2⟩, by simp [intOf]; omega⟩
            | true =>
              rw [hfu] at KF2
              have hyes : Has (givL M u) := ((fulB_iff _ _).1 hfu).2
              have hlx : Hid (∀ l2, LexL (givL M u) l2 → LexL L ((l ++ [u]) ++ l2)) := fun l2 h => by
                rw [List.append_assoc]
                exact hI.out.lex _ (LexL.cons hM hu64 hbit hlow.out h)
              have hyes' := hide' hyes
              clear KG hO2 hb2 hyes hfu hgl
              go_wp2_with fail
              refine KF2.out.mono ?_
              rintro e w3 ⟨rfl, hb3⟩
              have hI3 := hide' (hI2.out.below hb3)
              have hO3 := hide' hI3.out.told
              have h12 := hI3.out.ten
              clear hb3 KF2 hI2
              as_aux_lemma =>
              go_wp2_with (at_builtin; refine wpList_append_own _ rfl _ _ 23 rfl w.heap.size 3 i0 (.int .i64 0) 1 8 Tryz.underlying23 hi0 hz0 hz1 hz2 rfl (by decide) _ l.length (I.cellsI (ints l)) rfl (hO3.out.alloc _) ⟨w3.heap.size, 0, none⟩ 1 1 [.int .i64 (u : Int)] rfl rfl (World.news_of_block (cs := #[.int .i64 (u : Int)]) (I.heap_new _ _)) (by simp [Value.oneCell']) (by unfold maxLen; omega) (by omega) (by have := hI3.out.old.size; simp; omega) ?_; intro v4 w4 hown4 hgrow4 hnil4)
              have hold4 : Below w.heap.size w w4 := (hI3.out.old.trans (((Below.refl _ w3).alloc (Nat.le_refl _) _).mono hI3.out.old.size)).grown hgrow4 (by have := hI3.out.old.size; simp; omega) (fun j ej => own_geM hO3.out j ej)
              have hrow4 : RowU w4 (.slice (some ⟨g, o, none⟩) M.length cm) M := by
                obtain ⟨oa', cap', e9, e0, hcel⟩ := hI3.out.row
                cases e9
                refine ⟨_, _, rfl, e0, fun i z hz => ?_⟩
                obtain ⟨g', o', e', hc'⟩ := hcel i z hz
                refine ⟨g', o', e', ?_⟩
                have hlt' := cell_lt hc'
                cases e'
                have hne : u4.ownBlock ≠ some g := fun e => by
                  rcases hI3.out.apt hM g o _ _ rfl with h | ⟨cs, f, h⟩
                  · have := own_geM hO3.out g e
                    omega
                  · obtain ⟨c2, f2, h2⟩ := Go.Lib.ownsRow_kind hO3.out g e
                    rw [h] at h2
                    cases h2
                have hbl := (hgrow4.block g (by simp; omega) (fun e => hne e.symm)).trans (Below.heap_alloc w3 _ g hlt')
                rw [← hc']
                simp only [World.cell?, hbl]
              have hown4' : w4.ownsRow w.heap.size 3 1 v4 (l ++ [u]).length (I.cellsI (ints (l ++ [u]))) := by
                rw [List.length_append]
                simpa [I.cellsI, ints] using hown4
              have hw4 := hide' hI3.out.word
              have hf4 := hI3.out.few
              have KG4 := hide' (givenF M _ u hu64 w4 hrow4 hw4.out (by omega))
              have hold4' := hide' hold4
              have hown4'' := hide' hown4'
              clear hown4 hgrow4 hnil4 hrow4 hI3 hO3 hold4 hown4'
              refine KG4.out.mono ?_
              rintro e w5 ⟨vg, rfl, hO5, hb5⟩
              obtain ⟨og, cg, rfl⟩ := own_shapeM hO5.out
              have hgl := givL_len M u
              have hI5 : Hid (RlI w L (givL M u) (l ++ [u]) (.slice og (givL M u).length cg) v4 w5) := ⟨RowU.of_owns hO5.out, givL_word hw4.out, hyes'.out, by omega, hlx.out, owns_belowM hown4''.out hb5.out, by simp only [List.length_append, List.length_cons, List.length_nil]; omega, hold4'.out.trans (hb5.out.mono hold4'.out.size), fun hM2 g2 o2 n2 c2 e2 => by
                cases e2
                rcases hO5.out.2 with ⟨e3, h3⟩ | ⟨g3, _, _, e3, _⟩
                · cases e3
                · cases e3
                  exact .inr (Go.Lib.ownsRow_kind hO5.out g2 rfl)⟩
              have hgl' := hide' hgl
              clear KG4 hO5 hb5 hown4'' hold4' hgl
              go_wp2
              exact ⟨⟨givL M u, l ++ [u], og, cg, rfl, hI5⟩, by show (givL M u).length < M.length; rw [hgl'.out]; omega⟩
          · have hbit0 : (fn M 0).testBit u = false := by simpa using hbit
            have hs1 := shr_bitF hx hbit0
            have hu2 : u + 1 ≤ ux := by
              rcases Nat.lt_or_ge u ux with h | h
              · omega
              · obtain rfl : u = ux := by omega
                exact absurd hb0'.out hbit
            have hlow2 : Hid (∀ v, v < u + 1 → (fn M 0).testBit v = true → ¬ Has (givL M v)) := fun v hv hb => by
              by_cases e : v = u
              · subst e; exact absurd hb hbit
              · exact hlow.out v (by omega) hb
            go_wp2
            exact ⟨⟨u + 1, hu2, by go_num, hBx, hlow2⟩, by simp [intOf]; omega⟩
      · have hM' : ¬ (0 : Int) < (M.length : Int) := by omega
        have hMe : M = [] := List.eq_nil_of_length_eq_zero (by omega)
        have hend : Hid (LexL L l) := by
          have := hI.out.lex [] (by rw [hMe]; exact LexL.nil)
          rwa [List.append_nil] at this
        go_wp2
        go_ret2
        exact ⟨hI.out.old, .inl ⟨hn, l, _, rfl, hend, hI.out.told⟩⟩
end Go.Proofs.YtmbdnhgmpmnhmaaGreatDoor.M
