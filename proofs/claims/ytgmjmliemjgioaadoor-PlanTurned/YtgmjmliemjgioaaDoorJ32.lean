/- PlanTurned, walked. -/
import Derived.Test.YtgmjmliemjgioaaDoorJ26
import Derived.Test.YtgmjmliemjgioaaDoorJ28
import Derived.Test.YtgmjmliemjgioaaDoorJ31
namespace Go.Proofs.YtgmjmliemjgioaaDoor.S
open Go.RowKit Go.Shelf
theorem be_mem {wd n : Nat} : ∀ b ∈ be wd n, b < 256 := fun b hb => by
  unfold be at hb
  obtain ⟨i, _, rfl⟩ := List.mem_map.1 hb
  exact Nat.mod_lt _ (by decide)
theorem certL_mem (P : Pb) (L : List Int) : ∀ b ∈ certL P L, b < 256 := fun b hb => by
  unfold certL hdB at hb
  simp only [List.mem_append] at hb
  rcases hb with ((((h | h) | h) | h) | h) | h
  · exact be_mem b h
  · exact be_mem b h
  · exact be_mem b h
  · unfold stsB at h
    obtain ⟨t, _, ht⟩ := List.mem_flatMap.1 h
    unfold stB at ht
    simp only [List.mem_append] at ht
    rcases ht with (q | q) | q <;> exact be_mem b q
  · exact be_mem b h
  · unfold rusB at h
    obtain ⟨r, _, hr⟩ := List.mem_flatMap.1 h
    unfold ruB spB at hr
    simp only [List.mem_append] at hr
    rcases hr with ((q | q) | q) | q
    · exact be_mem b q
    · exact be_mem b q
    · exact be_mem b q
    · obtain ⟨x, _, hx⟩ := List.mem_flatMap.1 q
      exact be_mem b hx
theorem certL_len {P : Pb} (hk : Pok P) (hr : P.rules.length ≤ 40) (hw : P.who.length ≤ 20) (L : List Int) : (certL P L).length ≤ 60000 := by
  have h1 := rusB_le hk.s
  unfold certL
  simp only [List.length_append, hdB_len, stsB_len, be_len]
  omega
/-- A problem that is one is not cut. -/
theorem cutP_small {P : Pb} (h : chkN P = 0) : cutP P = P := by
  obtain ⟨g12, g0, g64, g32, gF, gW, gR⟩ := chkN_zero h
  obtain ⟨gl, gx⟩ := fixB_of gF g64
  unfold cutP
  rw [List.take_of_length_le (by omega), List.take_of_length_le (by omega), List.take_of_length_le (by omega)]
  have : P.rules.map cutR = P.rules := by
    have e : ∀ r ∈ P.rules, cutR r = r := fun r hr => by
      have := (rule_small (List.all_eq_true.1 gR r hr)).2.2.2.2.2
      unfold cutR
      rw [List.take_of_length_le (by omega)]
    rw [List.map_congr_left e, List.map_id']
  rw [this]
/-- What stands between the calls. -/
structure Tn (w : World) (Q : Pb) (qw qf qr : Value) (g : Nat) (lv : Value) (l : List Int) (bv : Value) (B : List Nat) (V : World) : Prop where
  pb : PbB V g Q qw qf qr
  pv : PbV V Q qw qf qr
  l : RowI V lv l
  r : RowC V bv B
  be : Below w.heap.size w V
theorem Tn.over {w : World} {Q : Pb} {qw qf qr : Value} {g : Nat} {lv : Value} {l : List Int} {bv : Value} {B : List Nat} {V V' : World} (h : Tn w Q qw qf qr g lv l bv B V) (hb : Below V.heap.size V V') : Tn w Q qw qf qr g lv l bv B V' :=
  ⟨h.pb.below hb, h.pv.below hb, h.l.below hb (Nat.le_refl _), h.r.below hb (Nat.le_refl _), h.be.trans (hb.mono h.be.size)⟩
theorem rowC_nil (V : World) : RowC V (.slice none 0 0) [] := ⟨none, 0, rfl, ⟨Nat.le_refl _, fun _ => rfl⟩, fun i z hz => by cases hz⟩
/-- Bytes in memory of their own, read. -/
theorem readO {W : World} {B' : Nat} {v : Value} {L : List Nat} (hO : W.ownsRow B' 5 1 v L.length (cellsB L)) (hb : ∀ b ∈ L, b < 256) (hl : L.length ≤ 100000) : Calls Tryd.prog 13 #[v] W (ReP W L) := by
  obtain ⟨oa, cap, e, h0, hc⟩ := RowC.of_owns hO
  subst e
  refine readF L oa cap W ⟨oa, cap, rfl, hc⟩ hb h0.1 (fun ad e => ?_) hl
  subst e
  exact (hO.lt ad.block rfl).2
theorem certL_five (P : Pb) (L : List Int) : 5 ≤ (certL P L).length := by
  unfold certL
  simp only [List.length_append, hdB_len, be_len]
  omega
/-- What is turned is not the same. -/
theorem turned {Q : Pb} {l : List Int} {C : List Nat} (hb : ∀ b ∈ C, b < 256) (h0 : rdN C = 0) (hne : C ≠ certL Q l) : ¬ (rdP C = Q ∧ rdL C = l) := fun ⟨e1, e2⟩ => by
  have := (back_wr hb h0).2.1
  rw [e1, e2] at this
  exact hne this.symm
theorem RowC.takeL {W : World} {g o cap : Nat} {L : List Nat} (h : RowC W (.slice (some ⟨g, o, none⟩) L.length cap) L) {k : Nat} (hk : k ≤ L.length) : RowC W (.slice (some ⟨g, o, none⟩) k cap) (L.take k) := by
  obtain ⟨oa, cap', e, h0, hc⟩ := h
  cases e
  refine ⟨_, _, by rw [List.length_take, Nat.min_eq_left hk], ⟨by rw [List.length_take]; omega, fun e => by cases e⟩, fun i z hz => ?_⟩
  rw [List.getElem?_take] at hz
  split at hz
  · exact hc i z hz
  · cases hz
/-- What is read, with its shapes. -/
def RdG (W : World) (L : List Nat) (e : Ending) (w' : World) : Prop :=
  ∃ o1 n1 c1 o2 n2 c2 o3 n3 c3 o4 n4 c4, e = .returned (.tuple #[.agg #[.int .i64 (rdP L).users, .slice o1 n1 c1, .slice o2 n2 c2, .slice o3 n3 c3], .slice o4 n4 c4, .int .i64 (rdN L : Int)]) ∧ Hid (PbV w' (rdP L) (.slice o1 n1 c1) (.slice o2 n2 c2) (.slice o3 n3 c3) ∧ RowI w' (.slice o4 n4 c4) (rdL L)) ∧ Hid (Below W.heap.size W w')
theorem readG {W : World} {B' : Nat} {v : Value} {L : List Nat} (hO : W.ownsRow B' 5 1 v L.length (cellsB L)) (hb : ∀ b ∈ L, b < 256) (hl : L.length ≤ 100000) : Calls Tryd.prog 13 #[v] W (RdG W L) := (readO hO hb hl).mono fun e w' ⟨va, vb, vc, vp, e1, e2, e3⟩ => by
  obtain ⟨o1, c1, o2, c2, o3, c3, r1, r2, r3⟩ := e2.out.1.shape
  obtain ⟨o4, c4, r4, _, _⟩ := e2.out.2
  subst r1 r2 r3 r4
  exact ⟨o1, _, c1, o2, _, c2, o3, _, c3, o4, _, c4, e1, e2, e3⟩
/-- The same of bytes that are none. -/
theorem readN {W : World} {B' : Nat} {v : Value} {L : List Nat} (hO : W.ownsRow B' 5 1 v L.length (cellsB L)) (hb : ∀ b ∈ L, b < 256) (hl : L.length ≤ 100000) (h0 : rdN L ≠ 0) : Calls Tryd.prog 13 #[v] W fun e w' => ∃ (uu : Int) (o1 : Option Addr) (n1 c1 : Nat) (o2 : Option Addr) (n2 c2 : Nat) (o3 : Option Addr) (n3 c3 : Nat) (o4 : Option Addr) (n4 c4 nn : Nat), e = .returned (.tuple #[.agg #[.int .i64 uu, .slice o1 n1 c1, .slice o2 n2 c2, .slice o3 n3 c3], .slice o4 n4 c4, .int .i64 (nn : Int)]) ∧ nn ≠ 0 ∧ Hid (Below W.heap.size W w') := (readG hO hb hl).mono fun _ _ ⟨o1, n1, c1, o2, n2, c2, o3, n3, c3, o4, n4, c4, e1, _, e3⟩ => ⟨_, o1, n1, c1, o2, n2, c2, o3, n3, c3, o4, n4, c4, _, e1, h0, e3⟩
/-- What is known of a certificate's bytes. -/
structure TnF (Q : Pb) (l : List Int) (B : List Nat) (y : Nat) : Prop where
  less : rdN (B.take (B.length - 1)) ≠ 0
  more : rdN (B ++ [y]) ≠ 0
  back : rdN B = 0 ∧ rdP B = Q ∧ rdL B = l
  turn : ∀ C : List Nat, (∀ b ∈ C, b < 256) → rdN C = 0 → C ≠ B → ¬ (rdP C = Q ∧ rdL C = l)
  moreb : ∀ b ∈ B ++ [y], b < 256
theorem TnF.mk' {Q : Pb} {l : List Int} {y : Nat} (hh : holP Q l = true) (hk : Pok Q) (hy : y < 256) : TnF Q l (certL Q l) y :=
  ⟨less_none hh hk (a := (certL Q l).take ((certL Q l).length - 1)) (r := (certL Q l).drop ((certL Q l).length - 1)) (List.take_append_drop _ _).symm (fun e => by have h1 := congrArg List.length e; rw [List.length_drop, List.length_nil] at h1; have := certL_five Q l; omega) (fun b hh => certL_mem Q l b (List.mem_of_mem_take hh)),
   more_none hh hk (by simp), back_rd hh hk, fun C h1 h2 h3 => turned h1 h2 h3, fun b hb => by
    rcases List.mem_append.1 hb with q | q
    · exact certL_mem Q l b q
    · rw [List.mem_singleton] at q; rw [q]; exact hy⟩
theorem turn_at (a : Int) {n : Nat} (h5 : 5 ≤ n) (hl : n ≤ 60000) : ∃ k : Nat, (wrap64 (a.tmod (n : Int) + (n : Int))).tmod (n : Int) = (k : Int) ∧ k < n := by
  have h1 := Int.tmod_lt_of_pos a (show (0 : Int) < (n : Int) by omega)
  have h2 := Int.lt_tmod_of_pos a (show (0 : Int) < (n : Int) by omega)
  generalize a.tmod (n : Int) = x at *
  rw [show wrap64 (x + (n : Int)) = x + (n : Int) by unfold wrap64; omega, Int.tmod_eq_emod_of_nonneg (by omega)]
  have h3 := Int.emod_nonneg (x + (n : Int)) (show (n : Int) ≠ 0 by omega)
  have h4 := Int.emod_lt_of_pos (x + (n : Int)) (show (0 : Int) < (n : Int) by omega)
  exact ⟨((x + (n : Int)) % (n : Int)).toNat, by omega, by omega⟩
theorem cellsB_set (B : List Nat) (k z : Nat) : (cellsB B).set k (.int .u8 (z : Int)) = cellsB (B.set k z) := by
  unfold cellsB
  rw [List.map_set]
theorem rdP_okT {L : List Nat} (hb : ∀ b ∈ L, b < 256) : Pok (rdP L) ∧ (rdL L).length ≤ 1000 := by
  unfold rdP rdL
  by_cases h : rdN L = 0
  · rw [if_pos h, if_pos h]
    exact ⟨rcP_ok (s := (L, false)) hb, rcL_len (s := (L, false)) hb⟩
  · rw [if_neg h, if_neg h]
    exact ⟨⟨Nat.zero_le _, Nat.zero_le _, Nat.zero_le _, (fun r hr => by cases hr), (fun z hz => by cases hz)⟩, Nat.zero_le _⟩
/-- What is known of a byte turned. -/
structure TnC (Q : Pb) (l : List Int) (B C : List Nat) (y : Nat) : Prop where
  byte : ∀ b ∈ C, b < 256
  len : C.length = B.length
  same : y = 0 → C = B
  turn : y ≠ 0 → rdN C = 0 → ¬ (rdP C = Q ∧ rdL C = l) ∧ holP (rdP C) (rdL C) = true ∧ chkN (rdP C) = 0 ∧ cutP (rdP C) = rdP C ∧ (rdL C).take 30 = rdL C
theorem TnC.mk' {Q : Pb} {l : List Int} {B : List Nat} {y k a : Nat} (h : TnF Q l B y) (hb : ∀ b ∈ B, b < 256) (hy : y < 256) (ha : B[k]? = some a) : TnC Q l B (B.set k (a ^^^ y)) y := by
  have hk := (List.getElem?_eq_some_iff.1 ha).1
  have hal := hb a (List.mem_of_getElem? ha)
  have hbb : ∀ b ∈ B.set k (a ^^^ y), b < 256 := fun b hh => by
    rcases List.mem_or_eq_of_mem_set hh with q | q
    · exact hb b q
    · rw [q]; exact Nat.xor_lt_two_pow (n := 8) hal hy
  refine ⟨hbb, by rw [List.length_set], fun e => ?_, fun hne h0 => ?_⟩
  · rw [e, Nat.xor_zero]
    apply List.ext_getElem?
    intro i
    rw [List.getElem?_set]
    split
    · rename_i hi
      subst hi
      exact ha.symm
    · rfl
  · have hw := back_wr hbb h0
    have hC := holP_chk hw.1
    refine ⟨h.turn _ hbb h0 (fun e => ?_), hw.1, hC, cutP_small hC, ?_⟩
    · have e1 : (B.set k (a ^^^ y))[k]? = B[k]? := by rw [e]
      rw [List.getElem?_set, if_pos rfl, if_pos hk, ha] at e1
      injection e1 with e1
      have e2 : a ^^^ (a ^^^ y) = a ^^^ a := by rw [e1]
      rw [← Nat.xor_assoc, Nat.xor_self, Nat.zero_xor] at e2
      exact hne e2
    · obtain ⟨g12, _⟩ := chkN_zero hC
      have h2 := (holP_of hw.1).2.1
      exact List.take_of_length_le (by omega)
/-- The same, of what is read. -/
structure TnX (Q : Pb) (l : List Int) (X : Pb) (M : List Int) (nf y : Nat) : Prop where
  same : y = 0 → nf = 0 ∧ X = Q
  turn : y ≠ 0 → nf = 0 → ¬ (X = Q ∧ M = l) ∧ holP X M = true ∧ cutP X = X ∧ M.take 30 = M
  ok : Pok X
  len : M.length ≤ 1000
theorem TnX.mk' {Q : Pb} {l : List Int} {B C : List Nat} {y : Nat} (h : TnC Q l B C y) (hf : TnF Q l B y) : TnX Q l (rdP C) (rdL C) (rdN C) y := by
  have hk := rdP_okT h.byte
  refine ⟨fun e => ?_, fun h1 h2 => ?_, hk.1, hk.2⟩
  · rw [h.same e]
    exact ⟨hf.back.1, hf.back.2.1⟩
  · obtain ⟨q1, q2, _, q4, q5⟩ := h.turn h1 h2
    exact ⟨q1, q2, q4, q5⟩
structure Tx (X : Pb) (g : Nat) (a b c m : Value) (M : List Int) (V : World) : Prop where
  pb : PbB V g X a b c
  pv : PbV V X a b c
  pl : RowI V m M
theorem Tx.over {X : Pb} {g : Nat} {a b c m : Value} {M : List Int} {V V' : World} (h : Tx X g a b c m M V) (hb : Below V.heap.size V V') : Tx X g a b c m M V' :=
  ⟨h.pb.below hb, h.pv.below hb, h.pl.below hb (Nat.le_refl _)⟩
theorem Tx.start {X : Pb} {a b c m : Value} {M : List Int} {V : World} (h1 : PbV V X a b c) (h2 : RowI V m M) : Tx X V.heap.size a b c m M (V.alloc (.cells #[.int .i64 X.users, a, b, c] 26)) := by
  have hb : Below V.heap.size V (V.alloc (.cells #[.int .i64 X.users, a, b, c] 26)) := (Below.refl _ V).alloc (Nat.le_refl _) _
  exact ⟨heap_new V _, h1.below hb, h2.below hb (Nat.le_refl _)⟩
theorem len_less {n : Nat} (h5 : 5 ≤ n) (hl : n ≤ 60000) : (0 : Int) ≤ (n : Int) - 1 ∧ ((n : Int) - 1).toNat = n - 1 ∧ IntKind.i64.wrap ((n : Int) - 1) = (n : Int) - 1 := by
  refine ⟨by omega, by omega, ?_⟩
  unfold IntKind.wrap
  simp [IntKind.bits, IntKind.signed]
  omega
set_option maxRecDepth 100000 in
set_option maxHeartbeats 16000000 in
theorem planTurned_walk (P : Pb) (wv fv rv : Value) (at_ : Int) (by_ : Nat) (w : World) (h : PbV w P wv fv rv) (hb : ∀ z ∈ P.who, z < 18446744073709551616) (hby : by_ < 256) (ht : M.Tab w) :
    Calls Tryd.prog 4 #[pbV P wv fv rv, .int .i64 at_, .int .u8 (by_ : Int)] w fun e w' => e = .returned (.bool true) ∧ Below w.heap.size w w' := by
  have hB0 : Hid (Below w.heap.size w (w.alloc (.cells #[.int .i64 P.users, wv, fv, rv] 26))) := (Below.refl _ w).alloc (Nat.le_refl _) _
  have K0 := hide' (cutC P wv fv rv _ (h.below hB0.out))
  have hk := hide' (cutP_ok hb)
  have ht' := hide' ht
  have hGw := ht.2
  have hQb : Hid (∀ V (a b c : Value), PbV V (cutP P) a b c → Calls Tryd.prog 5 #[pbV (cutP P) a b c] V fun e w' => ∃ va vb vc, e = .returned (pbV (cutP P) va vb vc) ∧ Hid (PbV w' (cutP P) va vb vc) ∧ Hid (Below V.heap.size V w') ∧ Hid (∀ ad n c, va = .slice (some ad) n c → V.heap.size ≤ ad.block ∧ ad.block < w'.heap.size)) := fun V a b c hq => cutD P a b c V hq
  have hQl : Hid ((cutP P).who.length ≤ 20 ∧ (cutP P).rules.length ≤ 40) := by
    refine ⟨?_, ?_⟩
    · show (P.who.take 20).length ≤ 20; rw [List.length_take]; omega
    · show ((P.rules.take 40).map cutR).length ≤ 40; rw [List.length_map, List.length_take]; omega
  clear h ht hb
  unfold pbV at K0 hQb ⊢
  generalize cutP P = Q at *
  go_enter Tryd.func4, Tryd.ntmps4
  go_wp2_with fail
  refine K0.out.mono ?_
  rintro e w1 ⟨qw, qf, qr, rfl, hq1, hb1, ho1⟩
  have hB1 : Hid (Below w.heap.size w w1) := hB0.out.trans (hb1.out.mono hB0.out.size)
  obtain ⟨ow, cw, of, cf, or, cr, rfl, rfl, rfl⟩ := hq1.out.shape
  clear hb1 hB0 K0
  go_wp2_with fail
  refine (newF _).mono ?_
  rintro e w3 ⟨rfl, hg3, hb3⟩
  have hS := hide' (SvS.start hB1.out hq1.out ht'.out hg3.out hb3.out)
  have hz : (w1.alloc (.cells #[.int .i64 Q.users, .slice ow Q.who.length cw, .slice of Q.fixed.length cf, .slice or Q.rules.length cr] 26)).heap.size = w1.heap.size + 1 := by simp
  have hne : Hid (∀ ad n c, Value.slice ow Q.who.length cw = .slice (some ad) n c → ad.block ≠ (w1.alloc (.cells #[.int .i64 Q.users, .slice ow Q.who.length cw, .slice of Q.fixed.length cf, .slice or Q.rules.length cr] 26)).heap.size) := fun ad n c e => by have := (ho1.out ad n c e).2; omega
  have hgp : Hid (w1.heap.size ≠ (w1.alloc (.cells #[.int .i64 Q.users, .slice ow Q.who.length cw, .slice of Q.fixed.length cf, .slice or Q.rules.length cr] 26)).heap.size) := by show _ ≠ _; omega
  have hgs : Hid (w.heap.size ≤ (w1.alloc (.cells #[.int .i64 Q.users, .slice ow Q.who.length cw, .slice of Q.fixed.length cf, .slice or Q.rules.length cr] 26)).heap.size) := by have := hB1.out.size; show _ ≤ _; omega
  clear hg3 hb3 hq1 ho1 hz hB1 ht'
  generalize (w1.alloc (.cells #[.int .i64 Q.users, .slice ow Q.who.length cw, .slice of Q.fixed.length cf, .slice or Q.rules.length cr] 26)).heap.size = gs at *
  generalize w1.heap.size = g at *
  have hG : Hid (1 ≤ gs) := Nat.le_trans hGw hgs.out
  have K1 : Hid (∀ V a b c, SvS w Q (.slice ow Q.who.length cw) (.slice of Q.fixed.length cf) (.slice or Q.rules.length cr) g gs a b c V → Calls Tryd.prog 5 #[.agg #[.int .i64 Q.users, .slice ow Q.who.length cw, .slice of Q.fixed.length cf, .slice or Q.rules.length cr]] V fun e w' => ∃ va vb vc, e = .returned (.agg #[.int .i64 Q.users, va, vb, vc]) ∧ Hid (PbV w' Q va vb vc) ∧ Hid (Below V.heap.size V w') ∧ Hid (∀ ad n c, va = .slice (some ad) n c → V.heap.size ≤ ad.block ∧ ad.block < w'.heap.size)) := fun V a b c hV => hQb.out V _ _ _ hV.pv
  have K4 : Hid (∀ V v' M, RowI V v' M → Calls Tryd.prog 9 #[v'] V fun e w' => ∃ v'', e = .returned v'' ∧ RowI w' v'' (M.take 30) ∧ Below V.heap.size V w') := fun V v' M hV => row14F M v' V hV
  have K7 : Hid (∀ V, Calls Tryd.prog 7 #[] V fun e w' => e = .returned (.bool true) ∧ Below V.heap.size V w') := fun V => wakes14 V
  have K8 : Hid (∀ V va vb vc, SvS w Q (.slice ow Q.who.length cw) (.slice of Q.fixed.length cf) (.slice or Q.rules.length cr) g gs 0 0 0 V → PbV V Q va vb vc → (∀ ad n c, va = .slice (some ad) n c → ad.block ≠ gs) → Calls Tryd.prog 11 #[.pointer (some ⟨gs, 0, none⟩), .agg #[.int .i64 Q.users, va, vb, vc]] V (LeP V Q gs 0 0 0)) := fun V va vb vc hV hq hn => leastPF Q va vb vc gs 0 0 0 V hq hk.out hV.gg hG.out hV.tab hn (by decide) (by decide) (by decide)
  go_wp2_with fail
  refine (K7.out _).mono ?_
  rintro e w4 ⟨rfl, hb4⟩
  have hS4 := hide' (hS.out.over hb4)
  have hgl : Hid (gs < w4.heap.size) := hS4.out.gg.lt
  clear hb4 hS K7
  obtain ⟨q0, q1, q2, q3⟩ := hS4.out.pb.all
  go_wp2_with fail
  refine (K1.out _ _ _ _ hS4.out).mono ?_
  rintro e w5 ⟨va, vb, vc, rfl, hq5, hb5, ho5⟩
  have hS5 := hide' (hS4.out.over hb5.out)
  have hn5 : Hid (∀ ad n c, va = .slice (some ad) n c → ad.block ≠ gs) := fun ad n c e => by have := (ho5.out ad n c e).1; have := hgl.out; omega
  clear q0 q1 q2 q3 hb5 ho5 hS4
  go_wp2_with fail
  refine (K8.out _ _ _ _ hS5.out hq5.out hn5.out).mono ?_
  rintro e w6 ⟨⟨a6, b6, c6, hg6, _⟩, hf6, ⟨rfl, hls⟩ | ⟨v, l, rfl, hls, hown⟩⟩
  · have hS6 := hide' (hS5.out.fr hf6.out hg6.out hgs.out hne.out hgp.out hG.out)
    clear hS5 hf6 hg6 hq5 hn5 hne hgp hgs hG hgl K8 K1 K4
    go_wp2
    go_ret
    exact ⟨rfl, hS6.out.be⟩
  have hS6 := hide' (hS5.out.fr hf6.out hg6.out hgs.out hne.out hgp.out hG.out)
  have hhol := hide' hls.out.1
  have hV6 : Hid (Tn w Q (.slice ow Q.who.length cw) (.slice of Q.fixed.length cf) (.slice or Q.rules.length cr) g v l (.slice none 0 0) [] w6) := ⟨hS6.out.pb, hS6.out.pv, RowI.of_owns hown.out, rowC_nil _, hS6.out.be⟩
  obtain ⟨ol, cl, rfl⟩ := own_shp hown.out
  have hll : Hid (l.length ≤ 30 ∧ l.take 30 = l) := by
    have h2 := (holP_of hhol.out).2.1
    have := hQl.out.1
    exact ⟨by omega, List.take_of_length_le (by omega)⟩
  have K1' : Hid (∀ V a b c, PbV V Q a b c → Calls Tryd.prog 5 #[.agg #[.int .i64 Q.users, a, b, c]] V fun e w' => ∃ va vb vc, e = .returned (.agg #[.int .i64 Q.users, va, vb, vc]) ∧ Hid (PbV w' Q va vb vc) ∧ Hid (Below V.heap.size V w')) := fun V a b c hV => (hQb.out V a b c hV).mono fun e w' ⟨va, vb, vc, e1, e2, e3, _⟩ => ⟨va, vb, vc, e1, e2, e3⟩
  have KW : Hid (∀ V va vb vc v', PbV V Q va vb vc → RowI V v' l → Calls Tryd.prog 12 #[.agg #[.int .i64 Q.users, va, vb, vc], v'] V fun e w' => ∃ gb ob cap, e = .returned (.tuple #[.slice (some ⟨gb, ob, none⟩) (certL Q l).length cap, .int .i64 0]) ∧ Hid (RowC w' (.slice (some ⟨gb, ob, none⟩) (certL Q l).length cap) (certL Q l)) ∧ Hid (Below V.heap.size V w') ∧ (certL Q l).length ≤ cap) := fun V va vb vc v' hV hr => (writeF Q va vb vc l v' V hV hr (by have := hll.out.1; omega) hk.out).mono fun e w' ⟨v, h1, h2, h3⟩ => by
    have e1 : wrL Q l = certL Q l := by unfold wrL; rw [if_pos hhol.out]
    have e2 : wrN Q l = 0 := by unfold wrN; rw [if_pos (holP_chk hhol.out), if_pos hhol.out]
    rw [e1] at h2
    rw [e2] at h1
    have hC := RowC.of_owns h2.out
    obtain ⟨oa, cap, e3, h0, hc⟩ := hC
    obtain ⟨gb, ob, e4, _⟩ := hc 0 _ (List.getElem?_eq_getElem (by have := certL_five Q l; omega))
    subst e4
    subst e3
    exact ⟨gb, ob, cap, h1, RowC.of_owns h2.out, h3, h0.1⟩
  have KF2 : Hid (∀ V v L, RowC V v L → L.length ≤ 100001 → Calls Tryd.prog 14 #[v] V fun e w' => ∃ oa n cap, e = .returned (.slice oa n cap) ∧ Hid (w'.ownsRow V.heap.size 5 1 (.slice oa n cap) L.length (cellsB L)) ∧ Hid (Below V.heap.size V w')) := fun V v L hV hL => (few2S L v V hV (by omega)).mono fun e w' ⟨v', e1, e2, e3⟩ => by
    obtain ⟨a, c, rfl⟩ := own_shp e2
    exact ⟨a, _, c, e1, e2, e3⟩
  have hBb := hide' (certL_mem Q l)
  have hBl := hide' (certL_len hk.out hQl.out.2 hQl.out.1 l)
  have hB5 := certL_five Q l
  have hT := hide' (TnF.mk' hhol.out hk.out hby)
  clear hS5 hS6 hf6 hg6 hq5 hn5 hne hgp hgs hG hgl K8 K1 hls hown hhol hQl
  generalize certL Q l = B at *
  have hBl' : (B.length : Int) ≤ 60000 := by have := hBl.out; omega
  have hB5' : ¬ (B.length : Int) < 5 := by omega
  obtain ⟨q0, q1, q2, q3⟩ := hV6.out.pb.all
  go_wp2_with fail
  refine (K1'.out _ _ _ _ hV6.out.pv).mono ?_
  rintro e w7 ⟨ya, yb, yc, rfl, hq7, hb7⟩
  have hV7 := hide' (hV6.out.over hb7.out)
  clear q0 q1 q2 q3 hV6 hb7
  go_wp2_with fail
  refine (K4.out _ _ _ hV7.out.l).mono ?_
  rintro e w8 ⟨v8, rfl, hr8, hb8⟩
  rw [hll.out.2] at hr8
  have hV8 := hide' (hV7.out.over hb8)
  have hq8 := hide' (hq7.out.below hb8)
  have hr8' := hide' hr8
  clear hV7 hq7 hr8 hb8
  go_wp2_with fail
  refine (KW.out _ _ _ _ _ hq8.out hr8'.out).mono ?_
  rintro e w9 ⟨gb, ob, cap, rfl, hR9, hb9, hcap⟩
  have hV9 : Hid (Tn w Q (.slice ow Q.who.length cw) (.slice of Q.fixed.length cf) (.slice or Q.rules.length cr) g (.slice ol l.length cl) l (.slice (some ⟨gb, ob, none⟩) B.length cap) B w9) := by
    have k := hV8.out.over hb9.out
    exact ⟨k.pb, k.pv, k.l, hR9.out, k.be⟩
  clear hV8 hq8 hr8' hR9 hb9 KW
  go_upto_region 11 with fail
  obtain ⟨s0, s2, s3⟩ := len_less hB5 hBl.out
  have s1 : (B.length : Int) - 1 ≤ (cap : Int) := by omega
  go_wp2_with fail
  clear s0 s1 s2 s3
  refine (KF2.out _ _ _ (RowC.takeL hV9.out.r (k := B.length - 1) (by omega)) (by rw [List.length_take]; have := hBl.out; omega)).mono ?_
  rintro e w10 ⟨oA, nA, cA, rfl, hO10, hb10⟩
  have hV10 := hide' (hV9.out.over hb10.out)
  clear hV9 hb10
  go_wp2_with fail
  refine (readN hO10.out (fun b hh => hBb.out b (List.mem_of_mem_take hh)) (by rw [List.length_take]; have := hBl.out; omega) hT.out.less).mono ?_
  rintro e w11 ⟨u1, o1, m1, c1, o2, m2, c2, o3, m3, c3, o4, m4, c4, nn1, rfl, hnn1, hb11⟩
  have hV11 := hide' (hV10.out.over hb11.out)
  have hV12 := hide' (hV11.out.over ((Below.refl _ w11).alloc (Nat.le_refl _) (.cells #[.int .i64 u1, .slice o1 m1 c1, .slice o2 m2 c2, .slice o3 m3 c3] 26)))
  clear hV10 hb11 hO10 hV11
  go_wp2_with fail
  generalize w11.alloc (.cells #[.int .i64 u1, .slice o1 m1 c1, .slice o2 m2 c2, .slice o3 m3 c3] 26) = w12 at *
  refine (KF2.out _ _ _ hV12.out.r (by have := hBl.out; omega)).mono ?_
  rintro e w13 ⟨oB, nB, cB, rfl, hO13, hb13⟩
  have hV12' := hV12
  have hb13' := hb13
  have hz13 := hb13.out.size
  clear hV12 hb13
  go_wp2_with (at_builtin; refine app_byteL rfl (.tmp 70) (.tmp 72) w12.heap.size w13 (.slice oB nB cB) B by_ rfl rfl rfl hO13.out hz13 (by have := hBl.out; omega) ?_; intro v14 w14 hO14 hb14 _; have hO14' := hide' hO14; have hb14' := hide' hb14; clear hO14 hb14)
  refine (readN hO14'.out hT.out.moreb (by rw [List.length_append]; have := hBl.out; simp; omega) hT.out.more).mono ?_
  rintro e w15 ⟨u2, x1, y1, z1, x2, y2, z2, x3, y3, z3, x4, y4, z4, nn2, rfl, hnn2, hb15⟩
  have hV15 : Hid (Tn w Q (.slice ow Q.who.length cw) (.slice of Q.fixed.length cf) (.slice or Q.rules.length cr) g (.slice ol l.length cl) l (.slice (some ⟨gb, ob, none⟩) B.length cap) B w15) := hV12'.out.over (hb13'.out.trans (hb14'.out.trans (hb15.out.mono (by have := hb14'.out.size; omega))))
  have hV16 := hide' (hV15.out.over ((Below.refl _ w15).alloc (Nat.le_refl _) (.cells #[.int .i64 u2, .slice x1 y1 z1, .slice x2 y2 z2, .slice x3 y3 z3] 26)))
  clear hV15 hb15 hO14' hb14' hO13 hz13 hV12' hb13'
  go_upto_region 13 with fail
  generalize w15.alloc (.cells #[.int .i64 u2, .slice x1 y1 z1, .slice x2 y2 z2, .slice x3 y3 z3] 26) = w16 at *
  go_cut [19] from 78 to 87 (fun kv wx => ∃ k : Nat, kv = .int .i64 (k : Int) ∧ k < B.length ∧ Hid (wx = w16))
  case first =>
    as_aux_lemma =>
    obtain ⟨k, hk1, hk2⟩ := turn_at at_ hB5 hBl.out
    have hk1' := hide' hk1
    have hn0 : ¬ (B.length : Int) = 0 := by omega
    clear hk1 hT KF2 K1' K4 hk
    go_wp2
    rw [hk1'.out]
    go_meet
    exact ⟨k, rfl, hk2, rfl⟩
  case rest =>
  obtain ⟨k, rfl, hk2, hwx⟩ := hcut
  obtain rfl := hwx.out
  clear hwx
  go_wp2_with fail
  refine (KF2.out _ _ _ hV16.out.r (by have := hBl.out; omega)).mono ?_
  rintro e w17 ⟨oC, nC, cC, rfl, hO17, hb17⟩
  have hV17 := hide' (hV16.out.over hb17.out)
  obtain ⟨a, ha⟩ : ∃ a, B[k]? = some a := ⟨_, List.getElem?_eq_getElem hk2⟩
  have hTC := hide' (TnC.mk' hT.out hBb.out hby ha)
  have hal := hBb.out a (List.mem_of_getElem? ha)
  obtain ⟨gc, hgc, rfl, rfl⟩ : ∃ gc, wc.heap.size ≤ gc ∧ oC = some ⟨gc, 0, none⟩ ∧ nC = B.length := by
    rcases hO17.out.2 with ⟨e, h0⟩ | ⟨gc, cap', cur, e, h1, _⟩
    · omega
    · injection e with e1 e2 e3
      exact ⟨gc, h1, e1, e2⟩
  have ck := hO17.out.cellAt k (by omega)
  rw [show (cellsB B)[k]? = some (.int .u8 (a : Int)) by unfold cellsB; rw [List.getElem?_map, ha]; rfl] at ck
  have fk := hO17.out.frozenAt k
  have hO18 : Hid ((w17.setCell ⟨gc, k, none⟩ (.int .u8 ((a ^^^ by_ : Nat) : Int))).ownsRow wc.heap.size 5 1 (.slice (some ⟨gc, 0, none⟩) B.length cC) (B.set k (a ^^^ by_)).length (cellsB (B.set k (a ^^^ by_)))) := by
    have := (hO17.out.stored k (.int .u8 ((a ^^^ by_ : Nat) : Int))).1
    rw [cellsB_set] at this
    rw [List.length_set]
    exact this
  have hV18 : Hid (Tn w Q (.slice ow Q.who.length cw) (.slice of Q.fixed.length cf) (.slice or Q.rules.length cr) g (.slice ol l.length cl) l (.slice (some ⟨gb, ob, none⟩) B.length cap) B (w17.setCell ⟨gc, k, none⟩ (.int .u8 ((a ^^^ by_ : Nat) : Int)))) := hV16.out.over (hb17.out.trans ((Below.refl _ w17).setCell (p := ⟨gc, k, none⟩) hgc _))
  have hxr := u8_xor_nat a by_ hal hby
  have hkI : (k : Int) < (B.length : Int) := by omega
  clear hV16 hV17 hO17 hb17 ha
  have hTX := TnX.mk' hTC.out hT.out
  generalize B.set k (a ^^^ by_) = C at *
  go_wp2_with fail
  clear ck fk hxr hkI hgc hal
  generalize w17.setCell ⟨gc, k, none⟩ (.int .u8 ((a ^^^ by_ : Nat) : Int)) = w18 at *
  refine (KF2.out _ _ _ (RowC.of_owns hO18.out) (by rw [hTC.out.len]; have := hBl.out; omega)).mono ?_
  rintro e w19 ⟨oD, nD, cD, rfl, hO19, hb19⟩
  have hV19 := hide' (hV18.out.over hb19.out)
  clear hV18 hb19 hO18 KF2
  go_wp2_with fail
  refine (readG hO19.out hTC.out.byte (by rw [hTC.out.len]; have := hBl.out; omega)).mono ?_
  rintro e w20 ⟨o1', n1', c1', o2', n2', c2', o3', n3', c3', o4', n4', c4', rfl, hX20, hb20⟩
  have hV20 := hide' (hV19.out.over hb20.out)
  clear hV19 hb20 hO19 hTC hT hBb
  generalize rdP C = X at *
  generalize rdL C = M at *
  generalize rdN C = nf at *
  have hX21 := hide' (Tx.start hX20.out.1 hX20.out.2)
  have hV21 := hide' (hV20.out.over ((Below.refl _ w20).alloc (Nat.le_refl _) (.cells #[.int .i64 X.users, .slice o1' n1' c1', .slice o2' n2' c2', .slice o3' n3' c3'] 26)))
  clear hX20 hV20
  go_upto_region 17 with fail
  generalize w20.alloc (.cells #[.int .i64 X.users, .slice o1' n1' c1', .slice o2' n2' c2', .slice o3' n3' c3'] 26) = w21 at *
  generalize w20.heap.size = gx at *
  have m1 : ¬ (nn1 : Int) = 0 := by omega
  have m2 : ¬ (nn2 : Int) = 0 := by omega
  have m1b : ((nn1 : Int) == 0) = false := by rw [beq_eq_false_iff_ne]; exact m1
  have m2b : ((nn2 : Int) == 0) = false := by rw [beq_eq_false_iff_ne]; exact m2
  go_upto_region 19 with fail
  clear m1 m2 m1b m2b hB5 hB5' hBl' hk2
  have KS : Hid (∀ (a1 a2 a3 b1 b2 b3 : Value) V, PbV V X a1 a2 a3 → PbV V Q b1 b2 b3 → Calls Tryd.prog 15 #[.agg #[.int .i64 X.users, a1, a2, a3], .agg #[.int .i64 Q.users, b1, b2, b3]] V (SmP V X Q)) := fun a1 a2 a3 b1 b2 b3 V h1 h2 => sameG X Q a1 a2 a3 b1 b2 b3 V h1 h2 hTX.ok hk.out
  have KI : Hid (∀ (a b : Value) V, RowI V a M → RowI V b l → Calls Tryd.prog 16 #[a, b] V fun e w' => e = .returned (.bool (decide (M = l))) ∧ Below V.heap.size V w') := fun a b V h1 h2 => keepInts M l a b V h1 h2 (by have := hTX.len; omega) (by have := hll.out.1; omega)
  have KC : Hid (∀ (a b c : Value) V, PbV V X a b c → Calls Tryd.prog 5 #[.agg #[.int .i64 X.users, a, b, c]] V fun e w' => ∃ va vb vc, e = .returned (.agg #[.int .i64 (cutP X).users, va, vb, vc]) ∧ Hid (PbV w' (cutP X) va vb vc) ∧ Hid (Below V.heap.size V w')) := fun a b c V h1 => cutA X a b c V h1
  have K5 : Hid (∀ V va vb vc v', PbV V X va vb vc → RowI V v' M → Calls Tryd.prog 10 #[.agg #[.int .i64 X.users, va, vb, vc], v'] V fun e w' => e = .returned (.bool (holP X M)) ∧ Below V.heap.size V w') := fun V va vb vc v' hV hr => holdsPF X va vb vc M v' V hV hr (by have := hTX.len; omega) hTX.ok.w hTX.ok.f hTX.ok.r hTX.ok.s hTX.ok.b
  clear hk hQb K1' hBl
  by_cases hf : nf = 0
  case neg =>
    as_aux_lemma =>
    have f1 : ¬ (nf : Int) = 0 := by omega
    have f2 : ((nf : Int) != 0) = true := by rw [bne_iff_ne]; exact f1
    have hy : by_ ≠ 0 := fun e => hf (hTX.same e).1
    have y1 : ¬ (by_ : Int) = 0 := by omega
    have y2 : ((by_ : Int) != 0) = true := by rw [bne_iff_ne]; exact y1
    clear KS KI KC K5 hTX K4 hX21 hll
    go_wp2
    go_ret
    exact ⟨rfl, hV21.out.be⟩
  subst hf
  obtain ⟨q0, q1, q2, q3⟩ := hV21.out.pb.all
  obtain ⟨p0, p1, p2, p3⟩ := hX21.out.pb.all
  by_cases hy : by_ = 0
  · as_aux_lemma =>
    have hXQ := hide' (hTX.same hy).2
    subst hy
    clear hTX KI KC K5 K4 hll
    go_wp2_with fail
    refine (KS.out _ _ _ _ _ _ _ hX21.out.pv hV21.out.pv).mono ?_
    rintro e w22 ⟨d, rfl, hd, hb22⟩
    obtain rfl : d = true := hd.out.2 hXQ.out
    have hV22 := hide' (hV21.out.over hb22.out)
    clear hd q0 q1 q2 q3 p0 p1 p2 p3 hV21 hb22 KS
    go_wp2
    go_ret
    exact ⟨rfl, hV22.out.be⟩
  have y1 : ¬ (by_ : Int) = 0 := by omega
  have y2 : ((by_ : Int) == 0) = false := by rw [beq_eq_false_iff_ne]; exact y1
  have hTn := hide' (hTX.turn hy rfl)
  clear hTX hy
  go_wp2_with fail
  refine (KS.out _ _ _ _ _ _ _ hX21.out.pv hV21.out.pv).mono ?_
  rintro e w22 ⟨d, rfl, hd, hb22⟩
  have hV22 := hide' (hV21.out.over hb22.out)
  have hX22 := hide' (hX21.out.over hb22.out)
  clear q0 q1 q2 q3 p0 p1 p2 p3 hV21 hX21 hb22 KS
  cases d with
  | false =>
    as_aux_lemma =>
    clear KI hd
    obtain ⟨p0, p1, p2, p3⟩ := hX22.out.pb.all
    go_wp2_with fail
    refine (KC.out _ _ _ _ hX22.out.pv).mono ?_
    rintro e w24 ⟨xa, xb, xc, rfl, hq24, hb24⟩
    rw [hTn.out.2.2.1] at hq24 ⊢
    have hV24 := hide' (hV22.out.over hb24.out)
    have hX24 := hide' (hX22.out.over hb24.out)
    clear hV22 hX22 hb24 KC p0 p1 p2 p3
    go_wp2_with fail
    refine (K4.out _ _ _ hX24.out.pl).mono ?_
    rintro e w25 ⟨v25, rfl, hr25, hb25⟩
    rw [hTn.out.2.2.2] at hr25
    have hV25 := hide' (hV24.out.over hb25)
    have hq25 := hide' (hq24.out.below hb25)
    have hr25' := hide' hr25
    clear hV24 hX24 hq24 hr25 hb25 K4
    go_wp2_with fail
    refine (K5.out _ _ _ _ _ hq25.out hr25'.out).mono ?_
    rintro e w26 ⟨rfl, hb26⟩
    rw [hTn.out.2.1]
    have hV26 := hide' (hV25.out.over hb26)
    clear hV25 hb26 K5 hq25 hr25'
    go_wp2
    go_ret
    exact ⟨rfl, hV26.out.be⟩
  | true =>
    as_aux_lemma =>
    have hne : Hid (¬ M = l) := fun e => hTn.out.1 ⟨hd.out.1 rfl, e⟩
    clear hd
    go_wp2_with fail
    refine (KI.out _ _ _ hX22.out.pl hV22.out.l).mono ?_
    rintro e w23 ⟨rfl, hb23⟩
    rw [decide_eq_false hne.out]
    have hV23 := hide' (hV22.out.over hb23)
    have hX23 := hide' (hX22.out.over hb23)
    clear hV22 hX22 hb23 KI hne
    obtain ⟨p0, p1, p2, p3⟩ := hX23.out.pb.all
    go_wp2_with fail
    refine (KC.out _ _ _ _ hX23.out.pv).mono ?_
    rintro e w24 ⟨xa, xb, xc, rfl, hq24, hb24⟩
    rw [hTn.out.2.2.1] at hq24 ⊢
    have hV24 := hide' (hV23.out.over hb24.out)
    have hX24 := hide' (hX23.out.over hb24.out)
    clear hV23 hX23 hb24 KC p0 p1 p2 p3
    go_wp2_with fail
    refine (K4.out _ _ _ hX24.out.pl).mono ?_
    rintro e w25 ⟨v25, rfl, hr25, hb25⟩
    rw [hTn.out.2.2.2] at hr25
    have hV25 := hide' (hV24.out.over hb25)
    have hq25 := hide' (hq24.out.below hb25)
    have hr25' := hide' hr25
    clear hV24 hX24 hq24 hr25 hb25 K4
    go_wp2_with fail
    refine (K5.out _ _ _ _ _ hq25.out hr25'.out).mono ?_
    rintro e w26 ⟨rfl, hb26⟩
    rw [hTn.out.2.1]
    have hV26 := hide' (hV25.out.over hb26)
    clear hV25 hb26 K5 hq25 hr25'
    go_wp2
    go_ret
    exact ⟨rfl, hV26.out.be⟩
end Go.Proofs.YtgmjmliemjgioaaDoor.S
