/- The document's word. -/
import Derived.Test.YtgfnfbbiojnhaaaDoorImT
namespace Go.Proofs.YtgfnfbbiojnhaaaDoor
open Go.RowKit
/-- The text at a place, and the place behind it. -/
def wdS (R : List Nat) (at_ : Int) (wide : Nat) : ByteArray × Int :=
  if at_ < 0 then (⟨#[]⟩, -1) else if ptB wide (R.drop at_.toNat) then (strB (ptT wide (R.drop at_.toNat)), at_ + (wide : Int) + (ptL wide (R.drop at_.toNat) : Int)) else (⟨#[]⟩, -1)
theorem wdS_bad (R : List Nat) (wide : Nat) : wdS R (-1) wide = (⟨#[]⟩, -1) := rfl
theorem wdS_at (R : List Nat) (j : Nat) : wdS R (plc (R.drop 9) j : Int) (ptW j) = if okJ (R.drop 9) j then (ptX R j, (plc (R.drop 9) (j + 1) : Int)) else (⟨#[]⟩, -1) := by
  unfold wdS
  rw [if_neg (by omega), Int.toNat_natCast, ← rem_plc R j]
  show (if okJ (R.drop 9) j = true then (ptX R j, _) else _) = _
  congr 2
  show (plc (R.drop 9) j : Int) + (ptW j : Int) + (lenJ (R.drop 9) j : Int) = ((plc (R.drop 9) j + (ptW j + lenJ (R.drop 9) j) : Nat) : Int)
  omega
theorem wdS_rng (R : List Nat) (at_ : Int) (wide : Nat) (h1 : at_ = -1 ∨ (0 ≤ at_ ∧ at_ ≤ (R.length : Int))) : (wdS R at_ wide).2 = -1 ∨ (0 ≤ (wdS R at_ wide).2 ∧ (wdS R at_ wide).2 ≤ (R.length : Int)) := by
  rcases h1 with rfl | ⟨h1, h2⟩
  · left; rfl
  · unfold wdS
    rw [if_neg (by omega)]
    split
    · rename_i h
      right
      unfold ptB at h
      have h := of_decide_eq_true h
      rw [List.length_drop] at h
      dsimp only
      omega
    · left; rfl
def at1 (R : List Nat) : ByteArray × Int := wdS R 9 1
def at2 (R : List Nat) : ByteArray × Int := wdS R (at1 R).2 1
def at3 (R : List Nat) : ByteArray × Int := wdS R (at2 R).2 1
def at4 (R : List Nat) : ByteArray × Int := wdS R (at3 R).2 4
theorem strB_len {L : List Nat} : (strB L).size = L.length := strB_size L
theorem ptX_size {R : List Nat} {j : Nat} (h : okJ (R.drop 9) j = true) : (ptX R j).size = lenJ (R.drop 9) j := by
  unfold ptX
  rw [strB_size]
  unfold ptT
  unfold okJ ptB at h
  have h := of_decide_eq_true h
  rw [List.length_take, List.length_drop]
  show min (ptL (ptW j) (rem (R.drop 9) j)) _ = ptL (ptW j) (rem (R.drop 9) j)
  omega
/-- What the document finds is what the program measures. -/
theorem at_msr (R : List Nat) (h9 : 9 ≤ R.length) : ((at4 R).2 = (R.length : Int) ∧ (at4 R).1.size ≤ 65536 → msr (R.drop 9) = true ∧ at1 R = (ptX R 0, (at1 R).2) ∧ at2 R = (ptX R 1, (at2 R).2) ∧ at3 R = (ptX R 2, (at3 R).2) ∧ at4 R = (ptX R 3, (at4 R).2)) ∧ (¬ ((at4 R).2 = (R.length : Int) ∧ (at4 R).1.size ≤ 65536) → msr (R.drop 9) = false) := by
  have e1 : at1 R = if okJ (R.drop 9) 0 then (ptX R 0, (plc (R.drop 9) 1 : Int)) else (⟨#[]⟩, -1) := wdS_at R 0
  by_cases h0 : okJ (R.drop 9) 0 = true
  case neg =>
    have h0 : okJ (R.drop 9) 0 = false := by simpa using h0
    rw [h0] at e1
    have e4 : at4 R = (⟨#[]⟩, -1) := by unfold at4 at3 at2; rw [e1]; rfl
    refine ⟨fun h => ?_, fun _ => msr_no (by decide) (.inl h0)⟩
    rw [e4] at h
    have := h.1
    dsimp only at this
    omega
  rw [h0, if_pos rfl] at e1
  have e2 : at2 R = if okJ (R.drop 9) 1 then (ptX R 1, (plc (R.drop 9) 2 : Int)) else (⟨#[]⟩, -1) := by unfold at2; rw [e1]; exact wdS_at R 1
  by_cases h1 : okJ (R.drop 9) 1 = true
  case neg =>
    have h1 : okJ (R.drop 9) 1 = false := by simpa using h1
    rw [h1] at e2
    have e4 : at4 R = (⟨#[]⟩, -1) := by unfold at4 at3; rw [e2]; rfl
    refine ⟨fun h => ?_, fun _ => msr_no (by decide) (.inl h1)⟩
    rw [e4] at h
    have := h.1
    dsimp only at this
    omega
  rw [h1, if_pos rfl] at e2
  have e3 : at3 R = if okJ (R.drop 9) 2 then (ptX R 2, (plc (R.drop 9) 3 : Int)) else (⟨#[]⟩, -1) := by unfold at3; rw [e2]; exact wdS_at R 2
  by_cases h2 : okJ (R.drop 9) 2 = true
  case neg =>
    have h2 : okJ (R.drop 9) 2 = false := by simpa using h2
    rw [h2] at e3
    have e4 : at4 R = (⟨#[]⟩, -1) := by unfold at4; rw [e3]; rfl
    refine ⟨fun h => ?_, fun _ => msr_no (by decide) (.inl h2)⟩
    rw [e4] at h
    have := h.1
    dsimp only at this
    omega
  rw [h2, if_pos rfl] at e3
  have e4 : at4 R = if okJ (R.drop 9) 3 then (ptX R 3, (plc (R.drop 9) 4 : Int)) else (⟨#[]⟩, -1) := by unfold at4; rw [e3]; exact wdS_at R 3
  by_cases h3 : okJ (R.drop 9) 3 = true
  case neg =>
    have h3 : okJ (R.drop 9) 3 = false := by simpa using h3
    rw [h3] at e4
    refine ⟨fun h => ?_, fun _ => msr_no (by decide) (.inl h3)⟩
    rw [e4] at h
    have := h.1
    simp at this
    try omega
  rw [h3, if_pos rfl] at e4
  have hall : ∀ i, i < 4 → okJ (R.drop 9) i = true := by
    intro i hi
    obtain rfl | rfl | rfl | rfl : i = 0 ∨ i = 1 ∨ i = 2 ∨ i = 3 := by omega
    · exact h0
    · exact h1
    · exact h2
    · exact h3
  have hsz := ptX_size h3
  rw [e4]
  dsimp only
  have hp4 : plc (R.drop 9) 4 ≤ R.length := by
    have k := wdS_rng R (plc (R.drop 9) 3 : Int) 4
    have q := of_decide_eq_true (show decide (ptW 3 + ptL (ptW 3) (rem (R.drop 9) 3) ≤ (rem (R.drop 9) 3).length) = true from h3)
    have e : plc (R.drop 9) 4 = plc (R.drop 9) 3 + (ptW 3 + lenJ (R.drop 9) 3) := rfl
    have e' : lenJ (R.drop 9) 3 = ptL (ptW 3) (rem (R.drop 9) 3) := rfl
    rw [rem_plc R 3, List.length_drop] at q
    rw [← rem_plc R 3] at q
    have : ptW 3 = 4 := rfl
    omega
  have hlen : (rem (R.drop 9) 4).length = R.length - plc (R.drop 9) 4 := by rw [rem_plc R 4, List.length_drop]
  by_cases ht : lenJ (R.drop 9) 3 ≤ 65536
  · rw [msr_end hall ht, hlen, hsz]
    refine ⟨fun h => ⟨?_, ?_, ?_, ?_, ?_⟩, fun h => ?_⟩
    · have := h.1
      simp
      omega
    · rw [e1]
    · rw [e2]
    · rw [e3]
    · rfl
    · simp
      omega
  · have hm := msr_no (R := R.drop 9) (j := 3) (by decide) (.inr ⟨rfl, by omega⟩)
    rw [hm, hsz]
    exact ⟨fun h => by omega, fun _ => rfl⟩
set_option maxRecDepth 100000 in
set_option maxHeartbeats 2000000 in
theorem wordBad (oa : Option Addr) (n cap wide : Nat) (W : World) : Calls Tryd.prog 21 #[.slice oa n cap, .int .i64 (-1), .int .i64 (wide : Int)] W fun e w' => e = .returned (.tuple #[.string ⟨#[]⟩, .int .i64 (-1)]) ∧ w' = W := by
  go_enter Tryd.func21, Tryd.ntmps21
  go_wp2
  go_ret2
  exact ⟨rfl, rfl⟩
set_option maxRecDepth 100000 in
set_option maxHeartbeats 2000000 in
theorem wordF (R : List Nat) (oa : Option Addr) (n cap a wide : Nat) (W : World) (hR : RowC W (.slice oa n cap) R) (hb : ∀ b ∈ R, b < 256) (hn : n ≤ 140737488355328) (ha : a ≤ n) (hw : wide ≤ 4) : Calls Tryd.prog 21 #[.slice oa n cap, .int .i64 (a : Int), .int .i64 (wide : Int)] W fun e w' => e = .returned (.tuple #[.string (wdS R a wide).1, .int .i64 (wdS R a wide).2]) ∧ w' = W := by
  have hl := hR.len
  have hX : Hid ((R.drop a).length = n - a) := by unfold Hid; rw [List.length_drop, hl.1]
  have hno : Hid (ptB wide (R.drop a) = false → wdS R a wide = (⟨#[]⟩, -1)) := fun h => by
    unfold wdS
    rw [if_neg (by omega), Int.toNat_natCast, h]
    rfl
  have hyes : Hid (ptB wide (R.drop a) = true → wdS R a wide = (strB (ptT wide (R.drop a)), (a : Int) + (wide : Int) + (ptL wide (R.drop a) : Int))) := fun h => by
    unfold wdS
    rw [if_neg (by omega), Int.toNat_natCast, h]
    rfl
  have hpB : Hid (ptB wide (R.drop a) = decide (wide + ptL wide (R.drop a) ≤ n - a)) := by
    unfold Hid ptB
    rw [List.length_drop, hl.1]
  generalize wdS R a wide = S at *
  have hcap := hl.2
  have hR' := hide' hR
  have hb' := hide' hb
  clear hR hb hl
  have ha0 : ¬ (a : Int) < 0 := by omega
  by_cases h1 : n < a + wide
  · have hp := hide' (hno.out (by rw [hpB.out]; simp; omega))
    go_enter Tryd.func21, Tryd.ntmps21
    go_wp2
    go_ret2
    rw [hp.out]
    exact ⟨rfl, rfl⟩
  have h1' : ¬ (n : Int) < (a : Int) + (wide : Int) := by omega
  have hc1 := cutLh oa n cap a (a + wide) (a : Int) ((a : Int) + (wide : Int)) rfl (by omega) (by omega) (by omega)
  rw [show a + wide - a = wide by omega] at hc1
  have KV := hide' (valueD (hR'.out.piece a wide (by omega)) (fun b hb => hb'.out b (List.mem_of_mem_drop (List.mem_of_mem_take hb))) (by rw [List.length_take]; omega))
  have hl32 : Hid (ptL wide (R.drop a) < 4294967296) := ptL_lt (fun b hb => hb'.out b (List.mem_of_mem_drop hb)) hw
  have hel : Hid (numB ((R.drop a).take wide) = ptL wide (R.drop a)) := rfl
  have hcv : Hid (ptB wide (R.drop a) = true → (convert 24 9 (.slice (adr oa cap (a + wide)) (ptL wide (R.drop a)) (cap - (a + wide)))).run Tryd.prog W = .ok (.string (strB (ptT wide (R.drop a)))) W) := fun h => by
    rw [hpB.out] at h
    have h := of_decide_eq_true h
    have k := hR'.out.piece (a + wide) (ptL wide (R.drop a)) (by omega)
    rw [← List.drop_drop] at k
    exact conv_bytes k
  rw [hel.out] at KV
  generalize hpl : ptL wide (R.drop a) = l at *
  clear hpl
  go_enter Tryd.func21, Tryd.ntmps21
  go_wp2_with fail
  refine KV.out.mono ?_
  rintro e w2 ⟨rfl, hw2⟩
  obtain rfl : W = w2 := hw2.symm
  clear hw2 KV hc1
  have hl32' := hl32.out
  by_cases h2 : n - (a + wide) < l
  · have hp := hide' (hno.out (by rw [hpB.out]; simp; omega))
    go_wp2
    go_ret2
    rw [hp.out]
    exact ⟨rfl, rfl⟩
  · have hpt : ptB wide (R.drop a) = true := by rw [hpB.out]; simp; omega
    have hp := hide' (hyes.out hpt)
    have hcv' := hcv.out hpt
    have hc2 := cutLh oa n cap (a + wide) (a + wide + l) ((a : Int) + (wide : Int)) ((a : Int) + (wide : Int) + (l : Int)) (by omega) (by omega) (by omega) (by omega)
    rw [show a + wide + l - (a + wide) = l by omega] at hc2
    go_wp2
    go_ret2
    rw [hp.out]
    exact ⟨rfl, rfl⟩
theorem wordA (R : List Nat) (oa : Option Addr) (n cap wide : Nat) (x wi : Int) (W : World) (hx : x = -1 ∨ (0 ≤ x ∧ x ≤ (R.length : Int))) (hwi : wi = (wide : Int)) (hR : RowC W (.slice oa n cap) R) (hb : ∀ b ∈ R, b < 256) (hn : n ≤ 140737488355328) (hw : wide ≤ 4) : Calls Tryd.prog 21 #[.slice oa n cap, .int .i64 x, .int .i64 wi] W fun e w' => e = .returned (.tuple #[.string (wdS R x wide).1, .int .i64 (wdS R x wide).2]) ∧ w' = W := by
  subst hwi
  rcases hx with rfl | ⟨h1, h2⟩
  · rw [wdS_bad]; exact wordBad oa n cap wide W
  · obtain ⟨a, rfl⟩ : ∃ a : Nat, x = (a : Int) := ⟨x.toNat, by omega⟩
    exact wordF R oa n cap a wide W hR hb hn (by have := hR.len.1; omega) hw
end Go.Proofs.YtgfnfbbiojnhaaaDoor
