/- kindsOfBytes: the kinds that a text is cut by. -/
import Derived.Test.YtghodeggobgclaaLFn2
namespace Go.Proofs.Ytghodeggobgclaa
open Go.RowKit Go.Shelf
/-- Eight kinds, as function values. -/
structure Kd where
  g0 : Nat
  g1 : Nat
  g2 : Nat
  g3 : Nat
  g4 : Nat
  g5 : Nat
  g6 : Nat
  g7 : Nat
  l0 : Array Value
  l1 : Array Value
  l2 : Array Value
  l3 : Array Value
  l4 : Array Value
  l5 : Array Value
  l6 : Array Value
  l7 : Array Value
abbrev fv (g : Nat) (l : Array Value) : Value := .func (.func g) #[] l
def Kd.v (K : Kd) : Value := .agg #[fv K.g0 K.l0, fv K.g1 K.l1, fv K.g2 K.l2, fv K.g3 K.l3, fv K.g4 K.l4, fv K.g5 K.l5, fv K.g6 K.l6, fv K.g7 K.l7]
structure KOk (K : Kd) (w : World) : Prop where
  bl : PK 0 K.g0 K.l0 isBl w
  rm : PK 0 K.g1 K.l1 isRm w
  en : PK 0 K.g2 K.l2 isEnd w
  ln : PK 0 K.g3 K.l3 inLn w
  le : PK 0 K.g4 K.l4 isLet w
  di : PK 0 K.g5 K.l5 isDig w
  nm : PK 0 K.g6 K.l6 isIn w
  mr : PK 0 K.g7 K.l7 isMk w
/-- The same, with the blocks from lo on alone. -/
structure KOkL (lo : Nat) (K : Kd) (w : World) : Prop where
  bl : PK lo K.g0 K.l0 isBl w
  rm : PK lo K.g1 K.l1 isRm w
  en : PK lo K.g2 K.l2 isEnd w
  ln : PK lo K.g3 K.l3 inLn w
  le : PK lo K.g4 K.l4 isLet w
  di : PK lo K.g5 K.l5 isDig w
  nm : PK lo K.g6 K.l6 isIn w
  mr : PK lo K.g7 K.l7 isMk w
theorem PK.low {lo g : Nat} {lb : Array Value} {p : UInt8 → Bool} {w W : World} (h : PK lo g lb p w) (hb : Kp lo w W) : PK 0 g lb p W :=
  ⟨h.1, fun W' x hb' => h.2 W' x (hb.trans ⟨hb'.1, fun k _ h2 => hb'.2 k (Nat.zero_le _) h2⟩)⟩
theorem KOkL.low {lo : Nat} {K : Kd} {w W : World} (h : KOkL lo K w) (hb : Kp lo w W) : KOk K W :=
  ⟨h.bl.low hb, h.rm.low hb, h.en.low hb, h.ln.low hb, h.le.low hb, h.di.low hb, h.nm.low hb, h.mr.low hb⟩
theorem Kp.setCell {lo : Nat} {w W : World} (h : Kp lo w W) {p : Addr} (hp : p.block < lo) (v : Value) : Kp lo w (W.setCell p v) := by
  refine ⟨by simpa using h.1, fun k h1 h2 => ?_⟩
  rw [← h.2 k h1 h2]
  exact Below.heap_setCell W p v k (by omega)
theorem KOk.later {K : Kd} {w W : World} (h : KOk K w) (hb : Below w.heap.size w W) : KOk K W :=
  ⟨h.bl.later hb, h.rm.later hb, h.en.later hb, h.ln.later hb, h.le.later hb, h.di.later hb, h.nm.later hb, h.mr.later hb⟩
theorem PK.cong {lo g : Nat} {lb : Array Value} {p q : UInt8 → Bool} {w : World} (h : PK lo g lb p w) (e : ∀ x, p x = q x) : PK lo g lb q w := by
  have : p = q := funext e
  rwa [this] at h
set_option maxRecDepth 100000 in
set_option maxHeartbeats 2000000 in
theorem kindsOB (w : World) : Calls Try.prog 35 #[] w fun e w' => ∃ K : Kd, e = .returned K.v ∧ KOk K w' ∧ Below w.heap.size w w' := by
  obtain ⟨lo, hlo⟩ : ∃ lo, lo = w.heap.size + 1 := ⟨_, rfl⟩
  go_enter Try.func35, Try.ntmps35
  go_wp2_with fail
  refine (mkBetw lo 97 122 _ (by simp [hlo])).mono ?_
  rintro e w1 ⟨l4, rfl, k4, b1⟩
  have z1 : lo ≤ w1.heap.size := Nat.le_trans (by simp [hlo]) b1.size
  go_wp2_with fail
  refine (mkBetw lo 48 57 _ z1).mono ?_
  rintro e w2 ⟨l5, rfl, k5, b2⟩
  have z2 : lo ≤ w2.heap.size := Nat.le_trans z1 b2.size
  go_wp2_with fail
  refine (mkAmong lo [10] _ z2).mono ?_
  rintro e w3 ⟨l2, rfl, k2, b3⟩
  have z3 : lo ≤ w3.heap.size := Nat.le_trans z2 b3.size
  go_wp2_with fail
  refine (mkAmong lo [32, 9] _ z3).mono ?_
  rintro e w4 ⟨l0, rfl, k0, b4⟩
  have z4 : lo ≤ w4.heap.size := Nat.le_trans z3 b4.size
  go_wp2_with fail
  refine (mkAmong lo [35] _ z4).mono ?_
  rintro e w5 ⟨l1, rfl, k1, b5⟩
  have z5 : lo ≤ w5.heap.size := Nat.le_trans z4 b5.size
  have k2' := k2.later (b4.trans (b5.mono b4.size))
  go_wp2_with fail
  refine (mkExc lo 96 l2 _ w5 z5 k2').mono ?_
  rintro e w6 ⟨l3, rfl, k3, b6⟩
  have z6 : lo ≤ w6.heap.size := Nat.le_trans z5 b6.size
  go_wp2_with fail
  refine (mkAmong lo [45] _ z6).mono ?_
  rintro e w7 ⟨l8, rfl, k8, b7⟩
  have z7 : lo ≤ w7.heap.size := Nat.le_trans z6 b7.size
  have B37 : Below w3.heap.size w3 w7 := ((b4.trans (b5.mono b4.size)).trans (b6.mono (Nat.le_trans b4.size b5.size))).trans (b7.mono (Nat.le_trans (Nat.le_trans b4.size b5.size) b6.size))
  have k4' := (k4.later (b2.trans (b3.mono b2.size))).later B37
  have k5' := (k5.later b3).later B37
  have k2'' := k2.later B37
  have hz1 := b1.size
  simp only [World.size_alloc] at hz1
  go_wp2_with fail
  have a7 : Below w7.heap.size w7 (w7.alloc (.cells #[.func (.func 95) #[] l4, .func (.func 95) #[] l5, .func (.func 96) #[] l8] 86)) := (Below.refl _ w7).alloc (Nat.le_refl _) _
  refine (mkEith lo 95 95 96 l4 l5 l8 _ _ _ w7.heap.size _ (by simp) (by simp) (by simp) (k4'.later a7) (k5'.later a7) (k8.later a7) (by simp) z7).mono ?_
  rintro e w8 ⟨l6, rfl, k6, b8⟩
  have z8 : lo ≤ w8.heap.size := Nat.le_trans z7 (Nat.le_trans a7.size b8.size)
  go_wp2_with fail
  refine (mkAmong lo [44, 58, 60, 62, 61, 40, 41] _ z8).mono ?_
  rintro e w9 ⟨l7, rfl, k7, b9⟩
  have B79 : Below w7.heap.size w7 w9 := (a7.trans (b8.mono a7.size)).trans (b9.mono (Nat.le_trans a7.size b8.size))
  have B39 := B37.trans (B79.mono B37.size)
  have B19 := (b2.trans (b3.mono b2.size)).trans (B39.mono (Nat.le_trans b2.size b3.size))
  have B09 := b1.trans (B19.mono b1.size)
  have hblk : w9.heap[w.heap.size]? = some (.cells #[.nilFunc, .nilFunc, .nilFunc, .nilFunc, .nilFunc, .nilFunc, .nilFunc, .nilFunc] 88) := by
    rw [B09.block _ (by simp)]
    exact heap_alloc_new w _
  have BB : Hid (Below w.heap.size w w9) := (((Below.refl _ w).alloc (Nat.le_refl _) _).trans (B09.mono (by simp)))
  have KK : Hid (KOkL lo ⟨96, 96, 96, 98, 95, 95, 99, 96, l0, l1, l2, l3, l4, l5, l6, l7⟩ w9) := by
    refine ⟨?_, ?_, ?_, ?_, ?_, ?_, ?_, ?_⟩
    · exact ((k0.later b5).later (b6.trans (b7.mono b6.size))).later B79 |>.cong fun x => by simp [isBl]
    · exact ((k1.later (b6.trans (b7.mono b6.size))).later B79).cong fun x => by simp [isRm]
    · exact (k2''.later B79).cong fun x => by simp [isEnd]
    · exact ((k3.later b7).later B79).cong fun x => by simp [inLn, isEnd]
    · exact (k4'.later B79).cong fun x => rfl
    · exact (k5'.later B79).cong fun x => rfl
    · exact (k6.later b9).cong fun x => by simp [isIn, isLet, isDig]
    · exact k7
  clear k0 k1 k2 k2' k2'' k3 k4 k4' k5 k5' k6 k7 k8 b1 b2 b3 b4 b5 b6 b7 b8 b9 B37 B79 B39 B19 B09 a7 hz1
  have c0 : w9.cell? ⟨w.heap.size, 0, none⟩ = some .nilFunc := by simp [World.cell?, hblk]
  have f0 : w9.frozen? ⟨w.heap.size, 0, none⟩ = false := by simp [World.frozen?, hblk]
  have c1 : w9.cell? ⟨w.heap.size, 1, none⟩ = some .nilFunc := by simp [World.cell?, hblk]
  have f1 : w9.frozen? ⟨w.heap.size, 1, none⟩ = false := by simp [World.frozen?, hblk]
  have c2 : w9.cell? ⟨w.heap.size, 2, none⟩ = some .nilFunc := by simp [World.cell?, hblk]
  have f2 : w9.frozen? ⟨w.heap.size, 2, none⟩ = false := by simp [World.frozen?, hblk]
  have c3 : w9.cell? ⟨w.heap.size, 3, none⟩ = some .nilFunc := by simp [World.cell?, hblk]
  have f3 : w9.frozen? ⟨w.heap.size, 3, none⟩ = false := by simp [World.frozen?, hblk]
  have c4 : w9.cell? ⟨w.heap.size, 4, none⟩ = some .nilFunc := by simp [World.cell?, hblk]
  have f4 : w9.frozen? ⟨w.heap.size, 4, none⟩ = false := by simp [World.frozen?, hblk]
  have c5 : w9.cell? ⟨w.heap.size, 5, none⟩ = some .nilFunc := by simp [World.cell?, hblk]
  have f5 : w9.frozen? ⟨w.heap.size, 5, none⟩ = false := by simp [World.frozen?, hblk]
  have c6 : w9.cell? ⟨w.heap.size, 6, none⟩ = some .nilFunc := by simp [World.cell?, hblk]
  have f6 : w9.frozen? ⟨w.heap.size, 6, none⟩ = false := by simp [World.frozen?, hblk]
  have c7 : w9.cell? ⟨w.heap.size, 7, none⟩ = some .nilFunc := by simp [World.cell?, hblk]
  have f7 : w9.frozen? ⟨w.heap.size, 7, none⟩ = false := by simp [World.frozen?, hblk]
  clear hblk
  go_wp2_with fail
  refine bodyPost_ret (v := Kd.v ⟨96, 96, 96, 98, 95, 95, 99, 96, l0, l1, l2, l3, l4, l5, l6, l7⟩) ?_ rfl ⟨_, rfl, KK.out.low ?_, ?_⟩
  · simp [results, Try.results35, go_sem, Kd.v, c0, c1, c2, c3, c4, c5, c6, c7]
  · exact ((((((((Kp.refl lo w9).setCell (by simp [hlo]) _).setCell (by simp [hlo]) _).setCell (by simp [hlo]) _).setCell (by simp [hlo]) _).setCell (by simp [hlo]) _).setCell (by simp [hlo]) _).setCell (by simp [hlo]) _).setCell (by simp [hlo]) _
  · exact (((((((BB.out.setCell (by simp) _).setCell (by simp) _).setCell (by simp) _).setCell (by simp) _).setCell (by simp) _).setCell (by simp) _).setCell (by simp) _).setCell (by simp) _
end Go.Proofs.Ytghodeggobgclaa
