/- Like rows of numbers; the first entry of both. -/
import Derived.Test.YtmjdecgijnodhaaGTie
namespace Go.Proofs.Ytmjdecgijnodhaa
open Go.RowKit Go.Maps
/-- A row of numbers, as it is read. -/
def RowJ (W : World) (v : Value) (l : List Int) : Prop := ∃ oa cap, v = .slice oa l.length cap ∧ ∀ i z, l[i]? = some z → ∃ g, oa = some ⟨g, 0, none⟩ ∧ W.cell? ⟨g, i, none⟩ = some (.int .i64 z)
theorem RowJ.over {W W' : World} {v : Value} {l : List Int} (h : RowJ W v l) (hb : Below W.heap.size W W') : RowJ W' v l := by
  obtain ⟨oa, cap, h1, h2⟩ := h
  refine ⟨oa, cap, h1, fun i z hz => ?_⟩
  obtain ⟨g, e, c⟩ := h2 i z hz
  exact ⟨g, e, cell_over c hb⟩
theorem RowJ.own {W : World} {B n : Nat} {v : Value} {xs : List Value} {l : List Int} (h : W.ownsRow B 3 1 v n xs) (hn : n = l.length) (hx : xs = l.map fun z => Value.int .i64 z) : RowJ W v l := by
  subst hn hx
  rcases h.2 with ⟨rfl, h0⟩ | ⟨g, cap, cur, rfl, _⟩
  · refine ⟨none, 0, by rw [h0], fun i z hz => ?_⟩
    have := (List.getElem?_eq_some_iff.1 hz).1
    omega
  · refine ⟨_, cap, rfl, fun i z hz => ⟨g, rfl, ?_⟩⟩
    have hi := (List.getElem?_eq_some_iff.1 hz).1
    rw [h.cellAt i (by omega), List.getElem?_map, hz]; rfl
set_option maxRecDepth 100000 in
set_option maxHeartbeats 1000000 in
theorem keepIntsT (l : List Int) (va vb : Value) (w : World) (ha : RowJ w va l) (hb : RowJ w vb l) (hn : l.length ≤ 1000000) :
    Calls Try.prog 18 #[va, vb] w fun e w' => e = .returned (.bool true) ∧ Below w.heap.size w w' := by
  obtain ⟨oa, ca, rfl, ha⟩ := ha
  obtain ⟨ob, cb, rfl, hb⟩ := hb
  have ha' := hide' ha
  have hb' := hide' hb
  clear ha hb
  go_enter Try.func18, Try.ntmps18
  go_wp2
  go_loopw [5] (fun k wr => Below w.heap.size w wr ∧ ∃ (c : Nat), c ≤ l.length ∧ k = .int .i64 c) (fun k _ => ((l.length : Int) - intOf k).toNat)
  case atStart => exact ⟨Below.refl _ _, 0, Nat.zero_le _, rfl⟩
  case round =>
    obtain ⟨hB, c, hc, rfl⟩ := hrel
    by_cases hlt : c < l.length
    · obtain ⟨x, hx⟩ : ∃ x, l[c]? = some x := ⟨_, List.getElem?_eq_getElem hlt⟩
      obtain ⟨g1, rfl, c1'⟩ := ha'.out c _ hx
      obtain ⟨g2, rfl, c2'⟩ := hb'.out c _ hx
      have c1 := cell_over c1' hB
      have c2 := cell_over c2' hB
      have hq : (x != x) = false := by simp
      clear c1' c2' hx
      go_wp2
      go_quiet (fail)
      go_wp2
      exact ⟨⟨below_drewN hB _, c + 1, by omega, by go_num⟩, by simp [intOf]; omega⟩
    · obtain rfl : c = l.length := by omega
      go_wp2
      go_ret
      exact ⟨rfl, hB⟩
section
variable {W : World} {a r sets : Nat} {F : Nat → Prop} {rv : Value} {M : List Ent}
/-- The program's First tells what the document's does. -/
theorem firstP (h : Sa W a r F rv M sets) : Calls Try.prog 25 #[.pointer (some ⟨a, 0, none⟩)] W fun e w' => e = .returned (fstT (allP (M.map prE))) ∧ Below W.heap.size W w' := by
  obtain ⟨hs, hm⟩ := allE_ok M h.ti.rise
  rw [← allP_map]
  have hlen := allE_len M
  cases hA : allE M with
  | nil =>
    have hz : M.length = 0 := by rw [hA] at hlen; simpa using hlen.symm
    have hag := h.ag
    rw [hz] at hag
    exact firstNo a sets F _ W hag
  | cons x rest =>
    have hz : 0 < M.length := by rw [hA] at hlen; simp at hlen; omega
    exact firstYes a M.length sets F _ hz x (min_head hs hA (fun y => (hm y).symm)) W h.ag
theorem firstD (h : Sa W a r F rv M sets) : Calls Try.prog 29 #[.pointer (some ⟨r, 0, none⟩)] W fun e w' => e = .returned (fstT (allP (M.map prE))) ∧ Below W.heap.size W w' := firstR r _ rv W h.rf
set_option maxRecDepth 100000 in
set_option maxHeartbeats 4000000 in
theorem firstS (h : Sa W a r F rv M sets) : Calls Try.prog 17 #[.agg #[.pointer (some ⟨a, 0, none⟩), .pointer (some ⟨r, 0, none⟩)]] W fun e w' => e = .returned (.bool true) ∧ Below W.heap.size W w' := by
  have hB0 : Below W.heap.size W (W.alloc (.cells #[.pointer (some ⟨a, 0, none⟩), .pointer (some ⟨r, 0, none⟩)] 26)) := (Below.refl _ W).alloc (Nat.le_refl _) _
  have k0 : (W.alloc (.cells #[.pointer (some ⟨a, 0, none⟩), .pointer (some ⟨r, 0, none⟩)] 26)).cell? ⟨W.heap.size, 0, none⟩ = some (.pointer (some ⟨a, 0, none⟩)) := by simp
  have k1 : (W.alloc (.cells #[.pointer (some ⟨a, 0, none⟩), .pointer (some ⟨r, 0, none⟩)] 26)).cell? ⟨W.heap.size, 1, none⟩ = some (.pointer (some ⟨r, 0, none⟩)) := by simp
  have h0 := hide' (h.below hB0)
  have hB0' := hide' hB0
  clear hB0 h
  go_enter Try.func17, Try.ntmps17
  go_upto_region 1 with fail
  generalize (W.alloc (.cells #[.pointer (some ⟨a, 0, none⟩), .pointer (some ⟨r, 0, none⟩)] 26)) = W0 at *
  have KP := hide' (firstP h0.out)
  have hend : Hid (∀ V : World, Below W0.heap.size W0 V → ∃ o c, V.cell? ⟨W.heap.size, 0, none⟩ = some (.pointer (some ⟨a, 0, none⟩)) ∧ V.cell? ⟨W.heap.size, 1, none⟩ = some (.pointer (some ⟨r, 0, none⟩)) ∧ V.cell? ⟨r, 0, none⟩ = some (.slice o M.length c) ∧ (∀ n, Calls Try.prog 16 #[.pointer (some ⟨a, 0, none⟩)] (V.drewN n) fun e w' => e = .returned (.int .i64 (M.length : Int)) ∧ w' = V.drewN n) ∧ Below W.heap.size W V) := fun V hV => by
    have hs := h0.out.below hV
    obtain ⟨o, c, e⟩ := own_shapeG hs.rf.row
    rw [List.length_map] at e
    refine ⟨o, c, cell_over k0 hV, cell_over k1 hV, by rw [← e]; exact hs.rf.c0, fun n => lenA a M.length sets F _ _ (hs.ag.below ⟨rfl, rfl, rfl, Nat.le_refl _, fun _ _ => rfl⟩), hB0'.out.trans (hV.mono hB0'.out.size)⟩
  have KR : Hid (∀ V, Below W0.heap.size W0 V → Calls Try.prog 29 #[.pointer (some ⟨r, 0, none⟩)] V fun e w' => e = .returned (fstT (allP (M.map prE))) ∧ Below V.heap.size V w') := fun V hV => firstD (h0.out.below hV)
  clear h0 hB0'
  generalize allP (M.map prE) = A at *
  have hcase : ∃ x y t, fstT A = .tuple #[.int .i64 x, .int .i64 y, .bool t] := by
    cases A with
    | nil => exact ⟨_, _, _, rfl⟩
    | cons z A => exact ⟨_, _, _, rfl⟩
  obtain ⟨x, y, t, hf⟩ := hcase
  rw [hf] at KP KR
  clear hf
  go_wp2_with fail
  refine KP.out.mono ?_
  rintro e w1 ⟨rfl, hb1⟩
  have hb1' := hide' hb1
  have k2 := cell_over k1 hb1
  have KR1 := hide' (KR.out _ hb1)
  clear hb1 KP
  go_wp2_with fail
  refine KR1.out.mono ?_
  rintro e w2 ⟨rfl, hb2⟩
  obtain ⟨o, c, m0, m1, m2, KL, hBf⟩ := hend.out w2 (hb1'.out.trans (hb2.mono hb1'.out.size))
  have KL' := hide' KL
  have hBf' := hide' hBf
  clear hb2 KR KR1 KL hBf hend k2 hb1'
  have q1 : (x == x) = true := by simp
  have q2 : (y == y) = true := by simp
  have q3 : (t == t) = true := by simp
  have q4 : ((M.length : Int) == (M.length : Int)) = true := by simp
  generalize M.length = n at *
  go_upto_region 3 with fail
  go_quiet ((go_at_call 16; exact Calls.quiet_of_same (KL'.out _)))
  go_wp2
  go_ret
  exact ⟨rfl, below_drewN hBf'.out _⟩
end
end Go.Proofs.Ytmjdecgijnodhaa
