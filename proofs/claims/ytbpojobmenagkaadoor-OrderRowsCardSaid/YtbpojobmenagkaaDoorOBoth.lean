/- both: the program's order and the document's, or none of either. -/
import Derived.Test.YtbpojobmenagkaaDoorOWakes
import Derived.Test.YtbpojobmenagkaaDoorRNew
namespace Go.Proofs.YtbpojobmenagkaaDoor
open Go.RowKit Go.Shelf
/-- An answer of New, by its two parts. -/
def NewC (w : World) (n : Int) (L : List (Int × Int)) (po : Option Addr) (z : Int) (w' : World) : Prop :=
  (¬ goodP n L ∧ po = none ∧ z = 1) ∨ (goodP n L ∧ cycL n.toNat L ∧ po = none ∧ z = 6) ∨
  (goodP n L ∧ ¬ cycL n.toNat L ∧ z = 0 ∧ ∃ go gp gs Pf Sf, po = some ⟨go, 0, none⟩ ∧ w.heap.size ≤ go ∧ OrdAt w' go gp gs n.toNat Pf Sf ∧ Ord n.toNat (ordL n.toNat L) Pf Sf)
theorem newT (n : Int) (v : Value) (L : List (Int × Int)) (w : World) (hv : PairsAt w v L) (hl : L.length ≤ 9000000000000000000) (ht : Tab w) :
    Calls Tryd.prog 11 #[.int .i64 n, v] w fun e w' => ∃ po z, e = .returned (.tuple #[.pointer po, .int .i64 z]) ∧ Hid (NewC w n L po z w') ∧ Below w.heap.size w w' :=
  (newO n v L w hv hl ht).mono fun e w' ⟨hb, hor⟩ => by
    rcases hor with ⟨h, he⟩ | ⟨h1, h2, he⟩ | ⟨h1, h2, go, gp, gs, Pf, Sf, he, h3, ho, hO⟩
    · exact ⟨none, 1, he, .inl ⟨h, rfl, rfl⟩, hb⟩
    · exact ⟨none, 6, he, .inr (.inl ⟨h1, h2, rfl, rfl⟩), hb⟩
    · exact ⟨some ⟨go, 0, none⟩, 0, he, .inr (.inr ⟨h1, h2, rfl, go, gp, gs, Pf, Sf, rfl, h3, ho, hO⟩), hb⟩
/-- An answer of the document's New. -/
def RefC (w : World) (n : Int) (L : List (Int × Int)) (po : Option Addr) (z : Int) (w' : World) : Prop :=
  (¬ goodP n L ∧ po = none ∧ z = 1) ∨ (goodP n L ∧ cycL n.toNat L ∧ po = none ∧ z = 6) ∨
  (goodP n L ∧ ¬ cycL n.toNat L ∧ z = 0 ∧ ∃ go ov gr, po = some ⟨go, 0, none⟩ ∧ Mat w go n.toNat n.toNat (ordL n.toNat L) ov gr w')
theorem refT (n : Int) (v : Value) (L : List (Int × Int)) (w : World) (hv : PairsAt w v L) (hl : L.length ≤ 9000000000000000000) :
    Calls Tryd.prog 13 #[.int .i64 n, v] w fun e w' => ∃ po z, e = .returned (.tuple #[.pointer po, .int .i64 z]) ∧ Hid (RefC w n L po z w') ∧ Below w.heap.size w w' :=
  (refNew n v L w hv hl).mono fun e w' ⟨hb, hor⟩ => by
    rcases hor with ⟨h, he⟩ | ⟨h1, h2, he⟩ | ⟨h1, h2, go, ov, gr, he, hM⟩
    · exact ⟨none, 1, he, .inl ⟨h, rfl, rfl⟩, hb⟩
    · exact ⟨none, 6, he, .inr (.inl ⟨h1, h2, rfl, rfl⟩), hb⟩
    · exact ⟨some ⟨go, 0, none⟩, 0, he, .inr (.inr ⟨h1, h2, rfl, go, ov, gr, rfl, hM⟩), hb⟩
/-- What both answers. -/
def BothR (w : World) (n : Int) (L : List (Int × Int)) (e : Ending) (w' : World) : Prop :=
  Below w.heap.size w w' ∧ ∃ po pr, e = .returned (.tuple #[.pointer po, .pointer pr, .bool true]) ∧
    ((po = none ∧ pr = none) ∨ ∃ (m : Nat) (go gp gs : Nat) (Pf Sf : Nat → Nat) (gr : Nat) (ov : Value) (rr : Nat → Nat) (w0 : World), n = (m : Int) ∧ (∀ p ∈ L, okP m p) ∧ po = some ⟨go, 0, none⟩ ∧ pr = some ⟨gr, 0, none⟩ ∧ OrdAt w' go gp gs m Pf Sf ∧ Ord m (ordL m L) Pf Sf ∧ Mat w0 gr m m (ordL m L) ov rr w')
theorem keep2c {W0 W w1 : World} {b : Nat} {u0 u1 : Value} (h : W.cell? ⟨b, 0, none⟩ = some u0 ∧ W.cell? ⟨b, 1, none⟩ = some u1 ∧ Below W0.heap.size W0 W) (hb : Below W.heap.size W w1) :
    w1.cell? ⟨b, 0, none⟩ = some u0 ∧ w1.cell? ⟨b, 1, none⟩ = some u1 ∧ Below W0.heap.size W0 w1 := ⟨cell_over h.1 hb, cell_over h.2.1 hb, h.2.2.trans (hb.mono h.2.2.size)⟩
set_option maxRecDepth 100000 in
set_option maxHeartbeats 1000000 in
theorem bothP (n : Int) (v : Value) (L : List (Int × Int)) (A B s : Int) (ob : Option Addr) (lb cb : Nat) (mo : Int) (w : World) (hv : PairsAt w v L) (hn : L.length * 16 ≤ 140737488351232) (ht : Tab w) :
    Calls Tryd.prog 4 #[.agg #[.int .i64 n, v, .int .i64 A, .int .i64 B, .int .u64 s, .slice ob lb cb, .int .u64 mo]] w (BothR w n L) := by
  obtain ⟨oa, cap, hve, _⟩ := id hv
  subst hve
  have hB0 : Below w.heap.size w (w.alloc (.cells #[.int .i64 n, .slice oa L.length cap, .int .i64 A, .int .i64 B, .int .u64 s, .slice ob lb cb, .int .u64 mo] 26)) := (Below.refl _ w).alloc (Nat.le_refl _) _
  have c0 : (w.alloc (.cells #[.int .i64 n, .slice oa L.length cap, .int .i64 A, .int .i64 B, .int .u64 s, .slice ob lb cb, .int .u64 mo] 26)).cell? ⟨w.heap.size, 0, none⟩ = some (.int .i64 n) := by simp
  have c1 : (w.alloc (.cells #[.int .i64 n, .slice oa L.length cap, .int .i64 A, .int .i64 B, .int .u64 s, .slice ob lb cb, .int .u64 mo] 26)).cell? ⟨w.heap.size, 1, none⟩ = some (.slice oa L.length cap) := by simp
  go_enter Tryd.func4, Tryd.ntmps4
  go_wp2
  generalize hW0 : w.alloc (.cells #[.int .i64 n, .slice oa L.length cap, .int .i64 A, .int .i64 B, .int .u64 s, .slice ob lb cb, .int .u64 mo] 26) = W0 at *
  clear hW0
  have hv0 := hv.over hB0
  have t0 := ht.over hB0
  have KT : Hid (∀ W, Below W0.heap.size W0 W → Calls Tryd.prog 12 #[.slice oa L.length cap] W fun e w' => ∃ v', e = .returned v' ∧ PairsAt w' v' L ∧ Below W.heap.size W w') := fun W hW => twinP L _ W (hv0.over hW) hn
  have KN : Hid (∀ W v', PairsAt W v' L → Below W0.heap.size W0 W → Calls Tryd.prog 11 #[.int .i64 n, v'] W fun e w' => ∃ po z, e = .returned (.tuple #[.pointer po, .int .i64 z]) ∧ Hid (NewC W n L po z w') ∧ Below W.heap.size W w') := fun W v' hv' hW => newT n v' L W hv' (by omega) (t0.over hW)
  have KR : Hid (∀ W, Below W0.heap.size W0 W → Calls Tryd.prog 13 #[.int .i64 n, .slice oa L.length cap] W fun e w' => ∃ po z, e = .returned (.tuple #[.pointer po, .int .i64 z]) ∧ Hid (RefC W n L po z w') ∧ Below W.heap.size W w') := fun W hW => refT n _ L W (hv0.over hW) (by omega)
  have hi0 : Hid (W0.drew.cell? ⟨w.heap.size, 0, none⟩ = some (.int .i64 n) ∧ W0.drew.cell? ⟨w.heap.size, 1, none⟩ = some (.slice oa L.length cap) ∧ Below W0.heap.size W0 W0.drew) := ⟨c0, c1, (Below.refl _ _).drew⟩
  go_region_held3 (fun V => V.cell? ⟨w.heap.size, 0, none⟩ = some (.int .i64 n) ∧ V.cell? ⟨w.heap.size, 1, none⟩ = some (.slice oa L.length cap) ∧ Below W0.heap.size W0 V) (first | (exact keep2c (by assumption) hb) | (exact keep2c hi0.out hb) | (exact hi0.out)) (first | (go_at_call 12; refine (KT.out _ (by first | exact ‹_ ∧ _ ∧ _›.2.2 | exact (Below.refl _ _).drew)).mono ?_; rintro e w1 ⟨v1, rfl, hv1, hb⟩) | (go_at_call 11; refine (KN.out _ _ hv1 (by first | exact ‹_ ∧ _ ∧ _›.2.2 | exact (Below.refl _ _).drew)).mono ?_; rintro e w2 ⟨po, z, rfl, hC, hb⟩))
  all_goals
    have hS := ‹w2.cell? ⟨w.heap.size, 0, none⟩ = some (.int .i64 n) ∧ w2.cell? ⟨w.heap.size, 1, none⟩ = some (.slice oa L.length cap) ∧ Below W0.heap.size W0 w2›
    obtain ⟨d0, d1, hB2⟩ := hS
    clear KT KN hi0 c0 c1
    go_wp2_with fail
    refine (KR.out _ hB2).mono ?_
    rintro e w3 ⟨pr', z', rfl, hR, hb3⟩
    have hB3 := hB2.trans (hb3.mono hB2.size)
    have B3 := hB0.trans (hB3.mono hB0.size)
    have KW := hide' (wakes3 w3 (ht.over B3))
    clear KR d0 d1
    rcases hC.out with ⟨g1, rfl, rfl⟩ | ⟨g1, g2, rfl, rfl⟩ | ⟨g1, g2, rfl, go, gp, gs, Pf, Sf, rfl, hgo, ho', hO⟩
    · rcases hR.out with ⟨g3, rfl, rfl⟩ | ⟨g3, g4, rfl, rfl⟩ | ⟨g3, g4, rfl, gr, ov, rr, rfl, hM⟩
      · clear hC hR
        go_wp2_with (go_at_call 14; refine KW.out.mono ?_; rintro e w4 ⟨rfl, hb4⟩)
        exact bodyPost_ret (v := .tuple #[.pointer none, .pointer none, .bool true]) (by simp [results, Tryd.results4, go_sem]) rfl ⟨B3.trans (hb4.mono B3.size), _, _, rfl, .inl ⟨rfl, rfl⟩⟩
      · exact absurd g3 g1
      · exact absurd g3 g1
    · rcases hR.out with ⟨g3, rfl, rfl⟩ | ⟨g3, g4, rfl, rfl⟩ | ⟨g3, g4, rfl, gr, ov, rr, rfl, hM⟩
      · exact absurd g1 g3
      · clear hC hR
        go_wp2_with (go_at_call 14; refine KW.out.mono ?_; rintro e w4 ⟨rfl, hb4⟩)
        exact bodyPost_ret (v := .tuple #[.pointer none, .pointer none, .bool true]) (by simp [results, Tryd.results4, go_sem]) rfl ⟨B3.trans (hb4.mono B3.size), _, _, rfl, .inl ⟨rfl, rfl⟩⟩
      · exact absurd g2 g4
    · rcases hR.out with ⟨g3, rfl, rfl⟩ | ⟨g3, g4, rfl, rfl⟩ | ⟨g3, g4, rfl, gr, ov, rr, rfl, hM⟩
      · exact absurd g1 g3
      · exact absurd g4 g2
      · have hok := g1.2
        obtain ⟨m, rfl⟩ := Int.eq_ofNat_of_zero_le g1.1.1
        rw [Int.toNat_natCast] at ho' hO hM
        have hfin : Hid (∀ w4, Below w3.heap.size w3 w4 → OrdAt w4 go gp gs m Pf Sf ∧ Mat _ gr m m (ordL m L) ov rr w4) := fun w4 hb => ⟨(ho'.over hb3).over hb, hM.over hb⟩
        have hO' := hide' hO
        have hok' := hide' hok
        clear hC hR g1 g2 g3 g4 ho' hM hO hok
        go_wp2_with (go_at_call 14; refine KW.out.mono ?_; rintro e w4 ⟨rfl, hb4⟩)
        have hF := hfin.out _ hb4
        exact bodyPost_ret (v := .tuple #[.pointer (some ⟨go, 0, none⟩), .pointer (some ⟨gr, 0, none⟩), .bool true]) (by simp [results, Tryd.results4, go_sem]) rfl ⟨B3.trans (hb4.mono B3.size), _, _, rfl, .inr ⟨m, go, gp, gs, Pf, Sf, gr, ov, rr, _, rfl, hok'.out, rfl, rfl, hF.1, hO'.out, hF.2⟩⟩
end Go.Proofs.YtbpojobmenagkaaDoor
