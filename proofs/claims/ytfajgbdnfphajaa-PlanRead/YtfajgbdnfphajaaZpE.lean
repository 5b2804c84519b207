/- Write: a plan's certificate. -/
import Derived.Test.YtfajgbdnfphajaaZpD
namespace Go.Proofs.Ytfajgbdnfphajaa.S
open Go.RowKit Go.Shelf
/-- What Write tells. -/
def wrL (P : Pb) (L : List Int) : List Nat := if holP P L = true then certL P L else []
def wrN (P : Pb) (L : List Int) : Nat := if chkN P = 0 then (if holP P L = true then 0 else 1) else chkN P
def WrP (w : World) (P : Pb) (L : List Int) (e : Ending) (w' : World) : Prop :=
  ∃ v, e = .returned (.tuple #[v, .int .i64 (wrN P L : Int)]) ∧ Hid (w'.ownsRow w.heap.size 5 1 v (wrL P L).length (cellsB (wrL P L))) ∧ Hid (Below w.heap.size w w')
theorem holP_chk {P : Pb} {L : List Int} (h : holP P L = true) : chkN P = 0 := by unfold holP at h; simp only [Bool.and_eq_true, decide_eq_true_eq] at h; exact h.1.1.1
set_option maxRecDepth 100000 in
set_option maxHeartbeats 4000000 in
theorem writeF (P : Pb) (wv fv rv : Value) (L : List Int) (lv : Value) (w : World) (h : PbV w P wv fv rv) (hL : RowI w lv L) (hLl : L.length ≤ 1000) (hk : Pok P) :
    Calls Try.prog 12 #[pbV P wv fv rv, lv] w (WrP w P L) := by
  have hs := h.shape
  have hB0 : Hid (Below w.heap.size w (w.alloc (.cells #[.int .i64 P.users, wv, fv, rv] 27))) := (Below.refl _ w).alloc (Nat.le_refl _) _
  have hb0 : Hid (PbB (w.alloc (.cells #[.int .i64 P.users, wv, fv, rv] 27)) w.heap.size P wv fv rv) := heap_new w _
  have K1 : Hid (∀ V, Below w.heap.size w V → Calls Try.prog 17 #[pbV P wv fv rv, lv] V (FlP V P L)) := fun V hV => flawsPF P wv fv rv L lv V (h.below hV) (hL.below hV (Nat.le_refl _)) hLl hk
  have K2 : Hid (holP P L = true → ∀ V, Below w.heap.size w V → Calls Try.prog 24 #[pbV P wv fv rv, lv] V (PuP V V.heap.size (certL P L))) := fun hh V hV => certF P wv fv rv L lv V (h.below hV) (hL.below hV (Nat.le_refl _)) hk hh
  obtain ⟨ow, cw, of, cf, or, cr, rfl, rfl, rfl⟩ := hs
  obtain ⟨ol, cl, rfl, _, _⟩ := hL
  have hfl : Hid (chkN P = 0 → decide ((flwL P L).length = 0) = holP P L) := fun hC => flw_hol hC L
  clear h hk
  unfold WrP wrL wrN
  by_cases hC : chkN P = 0
  case neg =>
    have hn : holP P L = false := by cases q : holP P L; rfl; exact absurd (holP_chk q) hC
    rw [if_neg hC, hn, if_neg (by decide)]
    have hne : (((chkN P : Nat) : Int) != 0) = true := by rw [bne_iff_ne]; omega
    unfold FlP flwR at K1
    rw [if_neg hC] at K1
    unfold pbV at K1 ⊢
    generalize chkN P = c at *
    clear K2 hC hfl
    go_enter Try.func12, Try.ntmps12
    go_wp2_with fail
    refine (K1.out _ hB0.out).mono ?_
    rintro e w1 ⟨v1, rfl, hO1, hb1⟩
    have hB1 : Hid (Below w.heap.size w w1) := hB0.out.trans (hb1.out.mono hB0.out.size)
    obtain ⟨o1, c1, rfl⟩ := own_shp hO1.out
    clear hb1 K1
    go_wp2
    exact bodyPost_ret (v := .tuple #[.slice none 0 0, .int .i64 (c : Int)]) (by simp [results, Try.results12, go_sem]) rfl ⟨_, rfl, World.ownsRow_nil w1 _ _ _, hB1⟩
  have hf2 := hfl.out hC
  rw [if_pos hC]
  unfold FlP flwR at K1
  rw [if_pos hC, hC] at K1
  clear hfl hC
  cases hh : holP P L with
  | false =>
    rw [if_neg (by decide), if_neg (by decide)]
    rw [hh] at hf2
    have hlp : (0 : Int) < ((flwL P L).length : Int) := by have := of_decide_eq_false hf2; omega
    unfold pbV at K1 ⊢
    generalize flwL P L = F at *
    clear K2 hf2 hh
    go_enter Try.func12, Try.ntmps12
    go_wp2_with fail
    refine (K1.out _ hB0.out).mono ?_
    rintro e w1 ⟨v1, rfl, hO1, hb1⟩
    have hB1 : Hid (Below w.heap.size w w1) := hB0.out.trans (hb1.out.mono hB0.out.size)
    obtain ⟨o1, c1, rfl⟩ := own_shp hO1.out
    clear hb1 K1 hO1
    go_wp2
    exact bodyPost_ret (v := .tuple #[.slice none 0 0, .int .i64 1]) (by simp [results, Try.results12, go_sem]) rfl ⟨_, rfl, World.ownsRow_nil w1 _ _ _, hB1⟩
  | true =>
    rw [if_pos rfl, if_pos rfl]
    rw [hh] at hf2
    have hlp : (flwL P L).length = 0 := of_decide_eq_true hf2
    rw [hlp] at K1
    have K2' := hide' (K2.out hh)
    unfold pbV at K1 K2' ⊢
    clear K2 hf2 hh hlp
    go_enter Try.func12, Try.ntmps12
    go_wp2_with fail
    refine (K1.out _ hB0.out).mono ?_
    rintro e w1 ⟨v1, rfl, hO1, hb1⟩
    have hB1 : Hid (Below w.heap.size w w1) := hB0.out.trans (hb1.out.mono hB0.out.size)
    have hp := hide' (hb0.out.below hb1.out)
    have q0 := hp.out.c0
    have q1 := hp.out.c1
    have q2 := hp.out.c2
    have q3 := hp.out.c3
    obtain ⟨o1, c1, rfl⟩ := own_shp hO1.out
    clear hb1 K1 hO1
    go_wp2_with fail
    refine (K2'.out _ hB1.out).mono ?_
    rintro e w2 ⟨v2, rfl, hO2, hb2, _⟩
    have hB2 : Hid (Below w.heap.size w w2) := hB1.out.trans (hb2.out.mono hB1.out.size)
    have hO3 := hide' (owns_lowS hO2.out hB1.out.size)
    obtain ⟨o2, c2, rfl⟩ := own_shp hO2.out
    clear K2' hO2 hb2 q0 q1 q2 q3 hp
    go_wp2
    exact bodyPost_ret (v := .tuple #[.slice o2 (certL P L).length c2, .int .i64 0]) (by simp [results, Try.results12, go_sem]) rfl ⟨_, rfl, hO3, hB2⟩
/-- The problem of the runs. -/
def wk1 : Pb := ⟨1, [1], [-1], []⟩
theorem wk1_ok : Pok wk1 := ⟨by decide, by decide, by decide, by decide, by decide⟩
theorem wk1_hol : holP wk1 [0] = true := by decide +kernel
theorem wk1_wr : wrN wk1 [0] = 0 := by decide +kernel
theorem wk1_cert : wrL wk1 [0] = [80, 67, 1, 1, 0, 0, 0, 0, 0, 0, 0, 1, 0, 0, 0] := by decide +kernel
theorem wk1_str : strB (wrL wk1 [0]) = ⟨#[80, 67, 1, 1, 0, 0, 0, 0, 0, 0, 0, 1, 0, 0, 0]⟩ := by rw [wk1_cert]; rfl
theorem wk1_chk : chkN wk1 = 0 := by decide +kernel
theorem wk1_flw : (flwR wk1 [1]).map (fun f => (f.kind, f.step, f.rule)) = [(2, 0, 0)] := by decide +kernel
theorem wk1_fl : flwR wk1 [1] = [⟨2, 0, 0⟩] := by
  have h := wk1_flw
  match q : flwR wk1 [1], h with
  | [⟨a, b, c⟩], h => simp at h; obtain ⟨rfl, rfl, rfl⟩ := h; rfl
theorem wk1_mem (V : World) : ∃ W, W = (((V.alloc (.cells #[.int .u64 1] 51)).alloc (.cells #[.int .i64 (-1)] 3)).alloc (.cells #[.int .i64 1, .slice (some ⟨V.heap.size, 0, none⟩) 1 1, .slice (some ⟨V.heap.size + 1, 0, none⟩) 1 1, .slice none 0 0] 27)) ∧
    PbV W wk1 (.slice (some ⟨V.heap.size, 0, none⟩) 1 1) (.slice (some ⟨V.heap.size + 1, 0, none⟩) 1 1) (.slice none 0 0) ∧ PbB W (V.heap.size + 1 + 1) wk1 (.slice (some ⟨V.heap.size, 0, none⟩) 1 1) (.slice (some ⟨V.heap.size + 1, 0, none⟩) 1 1) (.slice none 0 0) ∧ Below V.heap.size V W := by
  have z1 : (V.alloc (.cells #[.int .u64 1] 51)).heap.size = V.heap.size + 1 := by simp
  have z2 : ((V.alloc (.cells #[.int .u64 1] 51)).alloc (.cells #[.int .i64 (-1)] 3)).heap.size = V.heap.size + 1 + 1 := by simp
  have n1 := heap_new V (.cells #[.int .u64 1] 51)
  have n2 := heap_new (V.alloc (.cells #[.int .u64 1] 51)) (.cells #[.int .i64 (-1)] 3)
  have b1 : Below V.heap.size V (V.alloc (.cells #[.int .u64 1] 51)) := (Below.refl _ V).alloc (Nat.le_refl _) _
  have b2 := (Below.refl _ (V.alloc (.cells #[.int .u64 1] 51))).alloc (Nat.le_refl _) (.cells #[.int .i64 (-1)] 3)
  have b3 := (Below.refl _ ((V.alloc (.cells #[.int .u64 1] 51)).alloc (.cells #[.int .i64 (-1)] 3))).alloc (Nat.le_refl _) (.cells #[.int .i64 1, .slice (some ⟨V.heap.size, 0, none⟩) 1 1, .slice (some ⟨V.heap.size + 1, 0, none⟩) 1 1, .slice none 0 0] 27)
  have n3 := heap_new ((V.alloc (.cells #[.int .u64 1] 51)).alloc (.cells #[.int .i64 (-1)] 3)) (.cells #[.int .i64 1, .slice (some ⟨V.heap.size, 0, none⟩) 1 1, .slice (some ⟨V.heap.size + 1, 0, none⟩) 1 1, .slice none 0 0] 27)
  rw [z2] at n3 b3
  rw [z1] at n2 b2
  have m1 := (b3.block V.heap.size (by omega)).trans ((b2.block V.heap.size (by omega)).trans n1)
  have m2 := (b3.block (V.heap.size + 1) (by omega)).trans n2
  refine ⟨_, rfl, ?_, n3, (b1.trans (b2.mono (by omega))).trans (b3.mono (by omega))⟩
  generalize ((V.alloc (.cells #[.int .u64 1] 51)).alloc (.cells #[.int .i64 (-1)] 3)).alloc (.cells #[.int .i64 1, .slice (some ⟨V.heap.size, 0, none⟩) 1 1, .slice (some ⟨V.heap.size + 1, 0, none⟩) 1 1, .slice none 0 0] 27) = W at *
  refine ⟨⟨_, _, rfl, ⟨Nat.le_refl _, fun e => by cases e⟩, fun i z hz => ⟨_, _, rfl, ?_⟩⟩, ⟨_, _, rfl, ⟨Nat.le_refl _, fun e => by cases e⟩, fun i z hz => ⟨_, _, rfl, ?_⟩⟩, ⟨none, 0, rfl, ⟨Nat.le_refl _, fun _ => rfl⟩, fun i r hr => by simp [wk1] at hr⟩⟩
  · match i, hz with
    | 0, hz => cases hz; simp [World.cell?, m1]
    | i + 1, hz => simp [wk1] at hz
  · match i, hz with
    | 0, hz => cases hz; simp [World.cell?, m2]
    | i + 1, hz => simp [wk1] at hz
theorem row_one (V : World) (x : Int) : RowI (V.alloc (.cells #[.int .i64 x] 3)) (.slice (some ⟨V.heap.size, 0, none⟩) 1 1) [x] := by
  have n3 := heap_new V (.cells #[.int .i64 x] 3)
  generalize V.alloc (.cells #[.int .i64 x] 3) = W at *
  refine ⟨_, _, rfl, ⟨Nat.le_refl _, fun e => by cases e⟩, fun i z hz => ⟨_, _, rfl, ?_⟩⟩
  match i, hz with
  | 0, hz => cases hz; simp [World.cell?, n3]
  | i + 1, hz => simp at hz
end Go.Proofs.Ytfajgbdnfphajaa.S
