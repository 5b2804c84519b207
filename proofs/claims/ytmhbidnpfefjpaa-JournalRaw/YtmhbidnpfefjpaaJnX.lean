/- The journal's runs; disks. -/
import Derived.Test.YtmhbidnpfefjpaaJnV
import Derived.Test.YtmhbidnpfefjpaaDkR
import Derived.Lib.SlBytesConst
namespace Go.Proofs.Ytmhbidnpfefjpaa
open Go.RowKit
def wkD : Dk := wrD (newD 6) 0 (headB (bt1 0))
def wkR : List Nat := [97, 98, 99]
theorem wk_look : lookR (newD 6).bytes 6 = some ([], 1, 0) := by decide +kernel
theorem wk_E : apE 6 wkD ⟨1, 0, bt1 0, false⟩ wkR = 0 := by decide +kernel
theorem wk_e : (apJ 6 wkD ⟨1, 0, bt1 0, false⟩ wkR).e = 3 := by decide +kernel
theorem wk_c : (apJ 6 wkD ⟨1, 0, bt1 0, false⟩ wkR).c = 1 := by decide +kernel
theorem wk_b : (apJ 6 wkD ⟨1, 0, bt1 0, false⟩ wkR).b = 1 := by decide +kernel
theorem wk_l : (apD 6 wkD ⟨1, 0, bt1 0, false⟩ wkR).bytes.length = 96 := by decide +kernel
theorem wk_i : (apD 6 wkD ⟨1, 0, bt1 0, false⟩ wkR).bytes[32]? = some 97 ∧ (apD 6 wkD ⟨1, 0, bt1 0, false⟩ wkR).bytes[33]? = some 98 ∧ (apD 6 wkD ⟨1, 0, bt1 0, false⟩ wkR).bytes[34]? = some 99 := by decide +kernel
theorem wk_s : strB wkR = { data := #[97, 98, 99] } := by decide +kernel
theorem newD_256 (n : Nat) : ∀ z ∈ (newD n).bytes, z < 256 := fun z hz => by
  have := List.eq_of_mem_replicate hz
  omega
set_option maxRecDepth 100000 in
set_option maxHeartbeats 4000000 in
theorem wakesJ (w : World) : Calls Try.prog 9 #[] w fun e w' => e = .returned (.bool true) ∧ Below w.heap.size w w' := by
  have K := hide' (newF 6 w (by omega) (by omega))
  unfold NewP at K
  rw [show ((6 : Nat) : Int) = 6 from rfl] at K
  go_enter Try.func9, Try.ntmps9
  go_wp2_with fail
  refine K.out.mono ?_
  rintro e w1 ⟨g, gb, rfl, hd, hge, hb⟩
  have hk := newD_ok (n := 6) (by omega) (by omega)
  have KO := hide' (openJ hd.out hk (by omega) rfl (newD_256 6) (by simp [newD]))
  unfold OpP at KO
  rw [wk_look] at KO
  have hk1 := hide' (wrD_ok (b := 0) (L := headB (bt1 0)) hk (by omega) (headB_len _) (by simp [newD]))
  clear hk
  go_wp2_with fail
  refine KO.out.mono ?_
  rintro e w2 (⟨rfl, hn, _⟩ | ⟨gj, oa, cap, G, p, b, rfl, hO, hpn, hj2, hd2, hr2, hgj, hk2⟩)
  · exact absurd hn.out (by simp)
  · have hO' := hO.out
    simp only [Option.some.injEq, Prod.mk.injEq] at hO'
    obtain ⟨hG, rfl, rfl⟩ := hO'
    obtain rfl : G = [] := by
      cases G with
      | nil => rfl
      | cons a l => simp at hG
    have hcs := Lib.run_convert_bytes_const (P := Try.prog) w2 34 5 #[.int .u8 97, .int .u8 98, .int .u8 99] 3 3 Try.underlying34 Try.underlying5
    rw [show (#[Value.int .u8 97, .int .u8 98, .int .u8 99] : Array Value).size = 3 from rfl] at hcs
    have hj2' : Hid (JnA w2 gj g ⟨1, 0, bt1 0, false⟩) := hj2.out
    clear hj2
    have hj2 := hj2'
    clear hj2'
    have hrow : Hid (RowC (w2.alloc (.cells #[.int .u8 97, .int .u8 98, .int .u8 99] 5 (3, 4))) (.slice (some ⟨w2.heap.size, 0, none⟩) 3 3) wkR) := by
      refine ⟨_, 3, rfl, ⟨Nat.le_refl _, fun e => by cases e⟩, fun i z hz => ⟨_, 0, rfl, ?_⟩⟩
      have hh := heap_new w2 (.cells #[.int .u8 97, .int .u8 98, .int .u8 99] 5 (3, 4))
      match i, hz with
      | 0, hz => cases hz; simp only [World.cell?]; rw [hh]; rfl
      | 1, hz => cases hz; simp only [World.cell?]; rw [hh]; rfl
      | 2, hz => cases hz; simp only [World.cell?]; rw [hh]; rfl
      | _ + 3, hz => simp [wkR] at hz
    have hB3 : Hid (Below w2.heap.size w2 (w2.alloc (.cells #[.int .u8 97, .int .u8 98, .int .u8 99] 5 (3, 4)))) := (Below.refl _ _).alloc (Nat.le_refl _) _
    have hj3 := hide' (hj2.out.below hB3.out (blk_lt hj2.out))
    have hd3 := hide' (hd2.out.below hB3.out (Nat.le_refl _))
    have KA := hide' (appendJ (n := 6) hj3.out hd3.out hk1.out hrow.out (fun x o n c e => by
      injection e with e1
      injection e1 with e1
      injection e1 with e1
      have h1 := blk_lt hd2.out.1
      have h2 := blk_lt hd2.out.2
      omega) (by decide) (by decide) (by decide) (by simp [wrD, newD]))
    unfold ApP at KA
    clear hO hG hpn hr2 KO
    go_wp2_with fail
    refine KA.out.mono ?_
    rintro e w4 ⟨r, rfl, hr4, hd4, hj4, hk4⟩
    obtain rfl : r = 0 := hr4.out.trans wk_E
    have KLn := hide' (lenF hj4.out)
    have KBt := hide' (bootsF hj4.out (by show (apJ 6 wkD _ wkR).b < _; rw [wk_b]; omega))
    have KRm := hide' (roomF (n := 6) hj4.out hd4.out wk_l (by omega) (by show (apJ 6 wkD _ wkR).e ≤ _; rw [wk_e]; omega))
    rw [show (apJ 6 (wrD (newD 6) 0 (headB (bt1 0))) ⟨1, 0, bt1 0, false⟩ wkR).c = 1 from wk_c, show ((1 : Nat) : Int) = 1 from rfl] at KLn
    rw [show (apJ 6 (wrD (newD 6) 0 (headB (bt1 0))) ⟨1, 0, bt1 0, false⟩ wkR).b = 1 from wk_b, show ((1 : Nat) : Int) = 1 from rfl] at KBt
    rw [show (apJ 6 (wrD (newD 6) 0 (headB (bt1 0))) ⟨1, 0, bt1 0, false⟩ wkR).e = 3 from wk_e, show roomI 6 3 = 16 by decide] at KRm
    have hwk := hide' wk_i
    have hwl := hide' wk_l
    have KIm := hide' (fun V (hV : Below w4.heap.size w4 V) => imageF (hd4.out.below hV (Nat.le_refl _)) (by show (apD 6 wkD _ wkR).bytes.length ≤ _; rw [wk_l]; omega))
    unfold CoP at KIm
    rw [show (apD 6 (wrD (newD 6) 0 (headB (bt1 0))) ⟨1, 0, bt1 0, false⟩ wkR) = apD 6 wkD ⟨1, 0, bt1 0, false⟩ wkR from rfl, wk_l] at KIm
    generalize apD 6 wkD ⟨1, 0, bt1 0, false⟩ wkR = D4 at *
    clear KA hr4 hk1
    go_wp2_with (first | (go_at_call 23; refine KLn.out.mono ?_; rintro e' w5 ⟨rfl, hw5⟩; obtain rfl : w4 = w5 := hw5.symm) | (go_at_call 28; refine KBt.out.mono ?_; rintro e' w5 ⟨rfl, hw5⟩; obtain rfl : w4 = w5 := hw5.symm) | (go_at_call 29; refine KRm.out.mono ?_; rintro e' w6 ⟨rfl, hb6⟩; have hb6' := hide' hb6; clear hb6))
    refine (KIm.out _ hb6'.out).mono ?_
    rintro e w7 ⟨rfl, hb7, hbe7⟩
    have hcv := conv_bytes (RowC.of_bk (o := 32) (n := 3) (cap := 64) (M := wkR) hb7.out (fun i z hz => by
      obtain ⟨i0, i1, i2⟩ := hwk.out
      match i, hz with
      | 0, hz => rw [← hz]; exact i0
      | 1, hz => rw [← hz]; exact i1
      | 2, hz => rw [← hz]; exact i2
      | _ + 3, hz => simp [wkR] at hz) rfl (by omega))
    rw [wk_s] at hcv
    have hlow : Hid (w.heap.size ≤ gj) := Nat.le_trans hb.out.size hgj.out
    go_wp2
    go_ret
    refine ⟨rfl, ?_⟩
    have b2 : Below w.heap.size w w2 := hb.out.trans (hk2.out.below hge.out.1 hge.out.2 hb.out.size)
    have b3 := b2.trans (hB3.out.mono b2.size)
    have b4 : Below w.heap.size w w4 := b3.trans (hk4.out.below hge.out.1 hge.out.2 hlow.out b3.size)
    have b6 := b4.trans (hb6'.out.mono b4.size)
    exact b6.trans (hbe7.out.mono b6.size)
theorem tmod40 (f : Int) : (f.tmod 40).natAbs < 40 := by
  rw [Int.natAbs_tmod]
  exact Nat.mod_lt _ (by decide)
/-- What disks makes: the program's disk and the document's. -/
def DsP (w : World) (e : Ending) (w' : World) : Prop :=
  ∃ (n g gb r rb cap : Nat), e = .returned (.tuple #[.pointer (some ⟨g, 0, none⟩), .pointer (some ⟨r, 0, none⟩)]) ∧ Hid (0 < n ∧ n ≤ 40) ∧ Hid (DkA w' g gb (newD n)) ∧ Hid (RkA w' r rb cap (newD n)) ∧ Hid (w.heap.size ≤ g ∧ w.heap.size ≤ gb ∧ g < r ∧ g < rb ∧ gb < r ∧ gb < rb) ∧ Hid (Below w.heap.size w w')
set_option maxRecDepth 100000 in
set_option maxHeartbeats 1000000 in
theorem disksF (f : Int) (w : World) (_ : -9223372036854775808 ≤ f) (_ : f < 9223372036854775808) : Calls Try.prog 8 #[.int .i64 f] w (DsP w) := by
  have ht := tmod40 f
  have K1 := hide' (newF ((f.tmod 40).natAbs + 1) w (by omega) (by omega))
  have K2 := hide' (fun V => rNewF ((f.tmod 40).natAbs + 1) V (by omega) (by omega))
  unfold NewP at K1
  unfold RnP at K2
  unfold DsP
  obtain ⟨n, hn⟩ : ∃ n, n = (f.tmod 40).natAbs := ⟨_, rfl⟩
  rw [← hn] at ht K1 K2
  rw [show ((n + 1 : Nat) : Int) = (n : Int) + 1 by omega] at K1 K2
  have hfin : Hid (∀ (w1 w2 : World) (g gb r rb cap : Nat), DkA w1 g gb (newD (n + 1)) → (w.heap.size ≤ g ∧ w.heap.size ≤ gb) → Below w.heap.size w w1 → RkA w2 r rb cap (newD (n + 1)) → (w1.heap.size ≤ r ∧ w1.heap.size ≤ rb) → Below w1.heap.size w1 w2 → DsP w (.returned (.tuple #[.pointer (some ⟨g, 0, none⟩), .pointer (some ⟨r, 0, none⟩)])) w2) := by
    intro w1 w2 g gb r rb cap h1 h2 h3 h4 h5 h6
    have l1 := blk_lt h1.1
    have l2 := blk_lt h1.2
    exact ⟨n + 1, g, gb, r, rb, cap, rfl, ⟨by omega, by omega⟩, h1.below h6 (Nat.le_refl _), h4, ⟨h2.1, h2.2, by omega, by omega, by omega, by omega⟩, h3.trans (h6.mono h3.size)⟩
  unfold DsP at hfin
  by_cases h0 : f.tmod 40 < 0
  · have hneg : -(f.tmod 40) = (n : Int) := by omega
    have hw : IntKind.i64.wrap (-(f.tmod 40)) = (n : Int) := by rw [hneg]; exact wrap_id (by omega) (by omega)
    clear hn
    go_enter Try.func8, Try.ntmps8
    go_wp2_with fail
    refine K1.out.mono ?_
    rintro e w1 ⟨g, gb, rfl, h1, h2, h3⟩
    go_wp2_with fail
    refine (K2.out w1).mono ?_
    rintro e w2 ⟨r, rb, cap, rfl, h4, h5, h6⟩
    have hF := hide' (hfin.out w1 w2 g gb r rb cap h1.out h2.out h3.out h4.out h5.out h6.out)
    go_wp2
    go_ret2
    exact hF.out
  · have hpos : f.tmod 40 = (n : Int) := by omega
    clear hn
    go_enter Try.func8, Try.ntmps8
    go_wp2_with fail
    refine K1.out.mono ?_
    rintro e w1 ⟨g, gb, rfl, h1, h2, h3⟩
    go_wp2_with fail
    refine (K2.out w1).mono ?_
    rintro e w2 ⟨r, rb, cap, rfl, h4, h5, h6⟩
    have hF := hide' (hfin.out w1 w2 g gb r rb cap h1.out h2.out h3.out h4.out h5.out h6.out)
    go_wp2
    go_ret2
    exact hF.out
end Go.Proofs.Ytmhbidnpfefjpaa
