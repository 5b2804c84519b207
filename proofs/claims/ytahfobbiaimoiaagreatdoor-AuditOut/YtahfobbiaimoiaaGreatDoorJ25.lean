/- both: the program's order and the document's, or none of either. -/
import Derived.Test.YtahfobbiaimoiaaGreatDoorJ23
import Derived.Test.YtahfobbiaimoiaaGreatDoorJ24
namespace Go.Proofs.YtahfobbiaimoiaaGreatDoor.O
open Go.RowKit Go.Shelf
/-- An answer of New, by its two parts. -/
def NewC (w : World) (n : Int) (L : List (Int × Int)) (po : Option Addr) (z : Int) (w' : World) : Prop :=
  (¬ goodP n L ∧ po = none ∧ z = 1) ∨ (goodP n L ∧ cycL n.toNat L ∧ po = none ∧ z = 6) ∨
  (goodP n L ∧ ¬ cycL n.toNat L ∧ z = 0 ∧ ∃ go gp gs Pf Sf, po = some ⟨go, 0, none⟩ ∧ (w.heap.size ≤ go ∧ w.heap.size ≤ gp ∧ w.heap.size ≤ gs) ∧ OrdAt w' go gp gs n.toNat Pf Sf ∧ Ord n.toNat (ordL n.toNat L) Pf Sf)
theorem newT (n : Int) (v : Value) (L : List (Int × Int)) (w : World) (hv : PairsAt w v L) (hl : L.length ≤ 9000000000000000000) (ht : Tab w) :
    Calls Tryz.prog 139 #[.int .i64 n, v] w fun e w' => ∃ po z, e = .returned (.tuple #[.pointer po, .int .i64 z]) ∧ Hid (NewC w n L po z w') ∧ Below w.heap.size w w' :=
  (newO n v L w hv hl ht).mono fun e w' ⟨hb, hor⟩ => by
    rcases hor with ⟨h, he⟩ | ⟨h1, h2, he⟩ | ⟨h1, h2, go, gp, gs, Pf, Sf, he, h3, ho, hO⟩
    · exact ⟨none, 1, he, .inl ⟨h, rfl, rfl⟩, hb⟩
    · exact ⟨none, 6, he, .inr (.inl ⟨h1, h2, rfl, rfl⟩), hb⟩
    · exact ⟨some ⟨go, 0, none⟩, 0, he, .inr (.inr ⟨h1, h2, rfl, go, gp, gs, Pf, Sf, rfl, h3, ho, hO⟩), hb⟩
/-- An answer of the document's New. -/
def RefC (w : World) (n : Int) (L : List (Int × Int)) (po : Option Addr) (z : Int) (w' : World) : Prop :=
  (¬ goodP n L ∧ po = none ∧ z = 1) ∨ (goodP n L ∧ cycL n.toNat L ∧ po = none ∧ z = 6) ∨
  (goodP n L ∧ ¬ cycL n.toNat L ∧ z = 0 ∧ ∃ go ov gr, po = some ⟨go, 0, none⟩ ∧ Mat w go n.toNat n.toNat (ordL n.toNat L) ov gr w')
theorem refT (n : Int) (v : Value) (L : List (Int × Int)) (w : World) (hv : PairsAt w v L) (hl : L.length ≤ 9000000000000000000) :
    Calls Tryz.prog 82 #[.int .i64 n, v] w fun e w' => ∃ po z, e = .returned (.tuple #[.pointer po, .int .i64 z]) ∧ Hid (RefC w n L po z w') ∧ Below w.heap.size w w' :=
  (refNew n v L w hv hl).mono fun e w' ⟨hb, hor⟩ => by
    rcases hor with ⟨h, he⟩ | ⟨h1, h2, he⟩ | ⟨h1, h2, go, ov, gr, he, hM⟩
    · exact ⟨none, 1, he, .inl ⟨h, rfl, rfl⟩, hb⟩
    · exact ⟨none, 6, he, .inr (.inl ⟨h1, h2, rfl, rfl⟩), hb⟩
    · exact ⟨some ⟨go, 0, none⟩, 0, he, .inr (.inr ⟨h1, h2, rfl, go, ov, gr, rfl, hM⟩), hb⟩
/-- What both answers. -/
def BothR (w : World) (n : Int) (L : List (Int × Int)) (e : Ending) (w' : World) : Prop :=
  Below w.heap.size w w' ∧ ∃ po pr, e = .returned (.tuple #[.pointer po, .pointer pr, .bool true]) ∧
    ((po = none ∧ pr = none) ∨ ∃ (m : Nat) (go gp gs : Nat) (Pf Sf : Nat → Nat) (gr : Nat) (ov : Value) (rr : Nat → Nat) (w0 : World), n = (m : Int) ∧ (∀ p ∈ L, okP m p) ∧ po = some ⟨go, 0, none⟩ ∧ pr = some ⟨gr, 0, none⟩ ∧ OrdAt w' go gp gs m Pf Sf ∧ Ord m (ordL m L) Pf Sf ∧ Mat w0 gr m m (ordL m L) ov rr w')
theorem keep2c {W0 W w1 : World} {b : Nat} {u0 u1 : Value} (h : W.cell? ⟨b, 0, none⟩ = some u0 ∧ W.cell? ⟨b, 1, none⟩ = some u1 ∧ Below W0.heap.size W0 W) (hb : Below W.heap.size W w1) :
    w1.cell? ⟨b, 0, none⟩ = some u0 ∧ w1.cell? ⟨b, 1, none⟩ = some u1 ∧ Below W0.heap.size W0 w1 := ⟨cell_over h.1 hb, cell_over h.2.1 hb, h.2.2.trans (hb.mono h.2.2.size)⟩
end Go.Proofs.YtahfobbiaimoiaaGreatDoor.O
