/- What stands between a law's calls: the problem that was cut, its box, and a solver. -/
import Derived.Test.YtlijlelejobchaaGreatDoorJ26
import Derived.Test.YtlijlelejobchaaGreatDoorJ28
namespace Go.Proofs.YtlijlelejobchaaGreatDoor.S
open Go.RowKit Go.Shelf
theorem cutR_cut (r : Rl) : cutR (cutR r) = cutR r := by
  unfold cutR
  simp [List.take_take]
theorem cutP_cut (P : Pb) : cutP (cutP P) = cutP P := by
  unfold cutP
  simp only [List.take_take, Nat.min_self, ← List.map_take, List.map_map]
  congr 1
  exact List.map_congr_left fun r _ => cutR_cut r
theorem cutP_ok {P : Pb} (hb : ∀ z ∈ P.who, z < 18446744073709551616) : Pok (cutP P) :=
  ⟨by show (P.who.take 20).length ≤ 1000; rw [List.length_take]; omega, by show (P.fixed.take 20).length ≤ 1000; rw [List.length_take]; omega,
    by show ((P.rules.take 40).map cutR).length ≤ 1000; rw [List.length_map, List.length_take]; omega,
    fun r hr => by
      obtain ⟨q, _, rfl⟩ := List.mem_map.1 (show r ∈ (P.rules.take 40).map cutR from hr)
      show (q.steps.take 20).length ≤ 1000
      rw [List.length_take]; omega,
    fun z hz => hb z (List.mem_of_mem_take (show z ∈ P.who.take 20 from hz))⟩
/-- Cut, as the laws use it. -/
theorem cutA (P : Pb) (wv fv rv : Value) (w : World) (h : PbV w P wv fv rv) :
    Calls Tryz.prog 5 #[pbV P wv fv rv] w fun e w' => ∃ va vb vc, e = .returned (pbV (cutP P) va vb vc) ∧ Hid (PbV w' (cutP P) va vb vc) ∧ Hid (Below w.heap.size w w') := by
  refine (cutF P wv fv rv w h).mono ?_
  rintro e w' ⟨va, vb, vc, E, rfl, hO, hB⟩
  obtain ⟨o1, o2, o3, o4⟩ := hO.out
  refine ⟨va, vb, vc, rfl, ⟨RowW.of_owns o1, RowI.of_owns o2, ?_⟩, hB⟩
  have := o3.rowR
  rw [o4] at this
  exact this
/-- Cut of what was cut. -/
theorem cutB (P : Pb) (wv fv rv : Value) (w : World) (h : PbV w (cutP P) wv fv rv) :
    Calls Tryz.prog 5 #[pbV (cutP P) wv fv rv] w fun e w' => ∃ va vb vc, e = .returned (pbV (cutP P) va vb vc) ∧ Hid (PbV w' (cutP P) va vb vc) ∧ Hid (Below w.heap.size w w') := by
  have := cutA (cutP P) wv fv rv w h
  rw [cutP_cut] at this
  exact this
end Go.Proofs.YtlijlelejobchaaGreatDoor.S
namespace Go.Proofs.YtlijlelejobchaaGreatDoor.S
open Go.RowKit Go.Shelf
/-- Cut, and where its rows lie. -/
theorem cutC (P : Pb) (wv fv rv : Value) (w : World) (h : PbV w P wv fv rv) :
    Calls Tryz.prog 5 #[pbV P wv fv rv] w fun e w' => ∃ va vb vc, e = .returned (pbV (cutP P) va vb vc) ∧ Hid (PbV w' (cutP P) va vb vc) ∧ Hid (Below w.heap.size w w') ∧ Hid (∀ ad n c, va = .slice (some ad) n c → w.heap.size ≤ ad.block ∧ ad.block < w'.heap.size) := by
  refine (cutF P wv fv rv w h).mono ?_
  rintro e w' ⟨va, vb, vc, E, rfl, hO, hB⟩
  obtain ⟨o1, o2, o3, o4⟩ := hO.out
  refine ⟨va, vb, vc, rfl, ⟨RowW.of_owns o1, RowI.of_owns o2, ?_⟩, hB, fun ad n c e => o1.lt ad.block (by rw [e]; rfl)⟩
  have := o3.rowR
  rw [o4] at this
  exact this
theorem cutD (P : Pb) (wv fv rv : Value) (w : World) (h : PbV w (cutP P) wv fv rv) :
    Calls Tryz.prog 5 #[pbV (cutP P) wv fv rv] w fun e w' => ∃ va vb vc, e = .returned (pbV (cutP P) va vb vc) ∧ Hid (PbV w' (cutP P) va vb vc) ∧ Hid (Below w.heap.size w w') ∧ Hid (∀ ad n c, va = .slice (some ad) n c → w.heap.size ≤ ad.block ∧ ad.block < w'.heap.size) := by
  have := cutC (cutP P) wv fv rv w h
  rw [cutP_cut] at this
  exact this
structure SvS (w : World) (Q : Pb) (qw qf qr : Value) (g gs a b c : Nat) (V : World) : Prop where
  pb : PbB V g Q qw qf qr
  pv : PbV V Q qw qf qr
  gg : GgAt V gs a b c
  tab : M.Tab V
  be : Below w.heap.size w V
theorem SvS.over {w : World} {Q : Pb} {qw qf qr : Value} {g gs a b c : Nat} {V V' : World} (h : SvS w Q qw qf qr g gs a b c V) (hb : Below V.heap.size V V') : SvS w Q qw qf qr g gs a b c V' :=
  ⟨h.pb.below hb, h.pv.below hb, h.gg.below hb, h.tab.over hb, h.be.trans (hb.mono h.be.size)⟩
theorem SvS.fr {w : World} {Q : Pb} {qw qf qr : Value} {g gs a b c a' b' c' : Nat} {V V' : World} (h : SvS w Q qw qf qr g gs a b c V) (hf : M.Fr2 V V' gs gs) (hg : GgAt V' gs a' b' c') (hgs : w.heap.size ≤ gs) (hne : ∀ ad n c, qw = .slice (some ad) n c → ad.block ≠ gs) (hgp : g ≠ gs) (hG : 1 ≤ gs) : SvS w Q qw qf qr g gs a' b' c' V' :=
  ⟨(hf.block g (Array.getElem?_eq_some_iff.1 h.pb).1 hgp hgp).trans h.pb, pbV_frame h.pv h.gg hne hf, hg, tab_frame h.tab hG hf, hf.new h.be hgs hgs h.be.size⟩
theorem SvS.start {w w1 w3 : World} {Q : Pb} {qw qf qr : Value} (hB1 : Below w.heap.size w w1) (hq : PbV w1 Q qw qf qr) (ht : M.Tab w)
    (hg : GgAt w3 (w1.alloc (.cells #[.int .i64 Q.users, qw, qf, qr] 26)).heap.size 0 0 0)
    (hb3 : Below (w1.alloc (.cells #[.int .i64 Q.users, qw, qf, qr] 26)).heap.size (w1.alloc (.cells #[.int .i64 Q.users, qw, qf, qr] 26)) w3) :
    SvS w Q qw qf qr w1.heap.size (w1.alloc (.cells #[.int .i64 Q.users, qw, qf, qr] 26)).heap.size 0 0 0 w3 := by
  have h1 : Below w1.heap.size w1 (w1.alloc (.cells #[.int .i64 Q.users, qw, qf, qr] 26)) := (Below.refl _ w1).alloc (Nat.le_refl _) _
  have h2 : Below w1.heap.size w1 w3 := h1.trans (hb3.mono h1.size)
  have hp : PbB (w1.alloc (.cells #[.int .i64 Q.users, qw, qf, qr] 26)) w1.heap.size Q qw qf qr := heap_new w1 _
  have h3 : Below w.heap.size w w3 := hB1.trans (h2.mono hB1.size)
  exact ⟨hp.below hb3, hq.below h2, hg, ht.over h3, h3⟩
theorem rowW_shapeS {W : World} {v : Value} {l : List Int} (h : RowI W v l) : ∃ o c, v = .slice o l.length c := by obtain ⟨o, c, e, _⟩ := h; exact ⟨o, c, e⟩
/-- The users of a plan are small numbers. -/
theorem plan_wf {P : Pb} {L : List Int} (h : holP P L = true) : ∀ z ∈ L, (Lit.int .i64 z).wf = true := fun z hz => by
  obtain ⟨i, hi⟩ := List.getElem?_of_mem hz
  obtain ⟨h1, _, h3, _⟩ := holP_of h
  have h4 := h3 i z hi
  have h5 := (chkN_zero h1).2.2.1
  unfold okU isU at h4
  simp only [Bool.and_eq_true, decide_eq_true_eq] at h4
  simp [Lit.wf, IntKind.min, IntKind.max, IntKind.signed, IntKind.bits]
  omega
/-- No plan comes ahead of the first. -/
theorem first_ahead {P : Pb} {l L : List Int} (h : LsP P (some l)) (hL : holP P L = true) : befB L l = false := by
  rcases h.2 L hL with rfl | e
  · exact befB_same _
  · cases q : befB L l with
    | false => rfl
    | true => have := befB_trans e q; rw [befB_same] at this; cases this
/-- Lists of ints as they are handed in. -/
def RowX (w : World) (v : Value) (L : List (List Int)) : Prop := ∃ oa cap, v = .slice oa L.length cap ∧ ∀ (i : Nat) l, L[i]? = some l → ∃ g o sv, oa = some ⟨g, o, none⟩ ∧ w.cell? ⟨g, o + i, none⟩ = some sv ∧ RowI w sv l
theorem RowX.below {w w' : World} {v : Value} {L : List (List Int)} (h : RowX w v L) (hb : Below w.heap.size w w') : RowX w' v L := by
  obtain ⟨oa, cap, e, hc⟩ := h
  refine ⟨oa, cap, e, fun i l hi => ?_⟩
  obtain ⟨g, o, sv, e1, e2, e3⟩ := hc i l hi
  exact ⟨g, o, sv, e1, (hb.cell (p := ⟨g, o + i, none⟩) (cell_lt e2)).trans e2, e3.below hb (Nat.le_refl _)⟩
end Go.Proofs.YtlijlelejobchaaGreatDoor.S
