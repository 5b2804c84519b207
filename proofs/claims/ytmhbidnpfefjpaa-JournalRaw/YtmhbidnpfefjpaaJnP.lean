/- Append. -/
import Derived.Test.YtmhbidnpfefjpaaJnL
namespace Go.Proofs.Ytmhbidnpfefjpaa
open Go.RowKit
/-- Only these three blocks are written. -/
structure Kj (g gb gj : Nat) (W W' : World) : Prop where
  os : W'.os = W.os
  tape : W'.tape = W.tape
  output : W'.output = W.output
  size : W.heap.size ≤ W'.heap.size
  block : ∀ k, k < W.heap.size → k ≠ g → k ≠ gb → k ≠ gj → W'.heap[k]? = W.heap[k]?
theorem Kj.refl (g gb gj : Nat) (W : World) : Kj g gb gj W W := ⟨rfl, rfl, rfl, Nat.le_refl _, fun _ _ _ _ _ => rfl⟩
theorem Kj.trans {g gb gj : Nat} {a b c : World} (h : Kj g gb gj a b) (k : Kj g gb gj b c) : Kj g gb gj a c :=
  ⟨k.os.trans h.os, k.tape.trans h.tape, k.output.trans h.output, Nat.le_trans h.size k.size, fun i hi h1 h2 h3 => (k.block i (Nat.lt_of_lt_of_le hi h.size) h1 h2 h3).trans (h.block i hi h1 h2 h3)⟩
theorem Kj.of_below {g gb gj : Nat} {W W' : World} (h : Below W.heap.size W W') : Kj g gb gj W W' := ⟨h.os, h.tape, h.output, h.size, fun k hk _ _ _ => h.block k hk⟩
theorem Kj.of_kp {g gb gj : Nat} {W W' : World} (h : Kp g gb W W') : Kj g gb gj W W' := ⟨h.os, h.tape, h.output, h.size, fun k hk h1 h2 _ => h.block k hk h1 h2⟩
theorem Kj.of_kj {g gb gj : Nat} {W W' : World} (h : Kp gj gj W W') : Kj g gb gj W W' := ⟨h.os, h.tape, h.output, h.size, fun k hk _ _ h3 => h.block k hk h3 h3⟩
theorem Kj.below {g gb gj B : Nat} {W W' : World} (h : Kj g gb gj W W') (h1 : B ≤ g) (h2 : B ≤ gb) (h3 : B ≤ gj) (hB : B ≤ W.heap.size) : Below B W W' :=
  ⟨h.os, h.tape, h.output, h.size, fun k hk => h.block k (by omega) (by omega) (by omega) (by omega)⟩
/-- What Append leaves. -/
def ApP (W : World) (gj g gb n : Nat) (D : Dk) (J : Jn) (R : List Nat) (e : Ending) (w' : World) : Prop :=
  ∃ r : Int, e = .returned (.int .i64 r) ∧ Hid (r = apE n D J R) ∧ Hid (DkA w' g gb (apD n D J R)) ∧ Hid (JnA w' gj g (apJ n D J R)) ∧ Hid (Kj g gb gj W w')
theorem room_gt {n e m : Nat} (hm : m ≤ 131072) : (roomI n e < (m : Int)) = (n ≤ e + 1 + spn m) := by
  unfold roomI spn
  apply propext
  split <;> omega
set_option maxRecDepth 100000 in
set_option maxHeartbeats 4000000 in
theorem appendJ {W : World} {gj g gb n : Nat} {J : Jn} {D : Dk} {v : Value} {R : List Nat} (h : JnA W gj g J) (hd : DkA W g gb D) (hk : DkO D n) (hv : RowC W v R) (hvn : ∀ x o n c, v = .slice (some ⟨x, o, none⟩) n c → x ≠ g ∧ x ≠ gb) (hR : R.length ≤ 131072) (hc : J.c ≤ 100000) (he : J.e ≤ 100000) (hw : D.writes ≤ 900000000000) :
    Calls Try.prog 19 #[.pointer (some ⟨gj, 0, none⟩), v] W (ApP W gj g gb n D J R) := by
  have h' := hide' h
  have hd' := hide' hd
  have hk' := hide' hk
  have hv' := hide' hv
  have hvn' := hide' hvn
  have hne := hide' (h.nd hd)
  obtain ⟨c0, c1, c2, c3, c4⟩ := h.cells
  have f0 := h.free
  obtain ⟨oa, cap, rfl, _, _⟩ := hv
  clear hvn h hd hk
  have KR := hide' (roomF h'.out hd'.out hk'.out.len hk'.out.most he)
  have KPw := hide' (powerF hd'.out)
  have hjd := hide' (h'.out.set4 true)
  have hkd : Hid (Kj g gb gj W (W.setCell ⟨gj, 4, none⟩ (.bool true))) := Kj.of_kj ((Kp.refl _ _ _).set _ _)
  have hdd : Hid (DkA (W.setCell ⟨gj, 4, none⟩ (.bool true)) g gb D) := hd'.out.kp ((Kp.refl gj gj W).set 4 (.bool true)) hne.out.1.symm hne.out.1.symm hne.out.2.symm hne.out.2.symm
  have hrg := hide' (room_gt (n := n) (e := J.e) hR)
  generalize hm : R.length = m at *
  have hm' := hide' hm
  clear hm
  unfold ApP
  by_cases hdn : J.dn = true
  · have hK : Hid (apK n D J R = .down) := by unfold Hid apK; rw [if_pos (.inl hdn)]
    rw [hdn] at c4
    have e1 : apE n D J R = 50 := by unfold apE; rw [hK.out]
    have e2 : apD n D J R = D := by unfold apD; rw [hK.out]
    have e3 : apJ n D J R = { J with dn := true } := by unfold apJ; rw [hK.out]
    rw [e1, e2, e3]
    clear e1 e2 e3 hK hdn
    go_enter Try.func19, Try.ntmps19
    go_wp2
    go_ret
    exact ⟨50, rfl, rfl, hdd, hjd, hkd⟩
  · have hdn' : J.dn = false := by simpa using hdn
    rw [hdn'] at c4
    by_cases hp : D.power = true
    · rw [hp] at KPw
      have hfl : Hid (¬ (J.dn = true ∨ D.power = false)) := by simp [Hid, hdn', hp]
      by_cases hfull : n ≤ J.e + 1 + spn m
      · have hK : Hid (apK n D J R = .full) := by unfold Hid apK; rw [if_neg hfl.out, hm'.out, if_pos hfull]
        have e1 : apE n D J R = 51 := by unfold apE; rw [hK.out]
        have e2 : apD n D J R = D := by unfold apD; rw [hK.out]
        have e3 : apJ n D J R = J := by unfold apJ; rw [hK.out]
        have hlt : roomI n J.e < (m : Int) := by rw [hrg.out]; exact hfull
        generalize roomI n J.e = rm at *
        rw [e1, e2, e3]
        clear e1 e2 e3 hK hdn hfl hrg hfull
        go_enter Try.func19, Try.ntmps19
        go_wp2_with (first | (go_at_call 35; refine KPw.out.mono ?_; rintro e' w1 ⟨rfl, hw1'⟩; obtain rfl : W = w1 := hw1'.symm) | (go_at_call 29; refine KR.out.mono ?_; rintro e' w2 ⟨rfl, hb2⟩; have hb2' := hide' hb2; clear hb2))
        go_ret
        exact ⟨51, rfl, rfl, hd'.out.below hb2'.out (Nat.le_refl _), h'.out.below hb2'.out (blk_lt h'.out), Kj.of_below hb2'.out⟩
      · have hlt : ¬ roomI n J.e < (m : Int) := by rw [hrg.out]; exact hfull
        have hKK : Hid (apK n D J R = if wrsOk D (layW J.e J.c R) = true then .done else .cut) := by unfold Hid apK; rw [if_neg hfl.out, hm'.out, if_neg hfull]
        have KL := hide' (fun V (hb : Below W.heap.size W V) => layJ (h'.out.below hb (blk_lt h'.out)) (hd'.out.below hb (Nat.le_refl _)) hk'.out (hv'.out.below hb (Nat.le_refl _)) hvn'.out (by rw [hm'.out]; exact hR) (by rw [hm'.out]; omega) hc hw)
        unfold LyP at KL
        generalize roomI n J.e = rm at *
        clear hdn hfl hrg hfull
        have hwl : Hid (wrsOk D (layW J.e J.c R) = true → apE n D J R = 0 ∧ apD n D J R = wrs D (layW J.e J.c R) ∧ apJ n D J R = { J with e := J.e + 1 + spn m, c := J.c + 1 }) := fun hq => by
          have hK := hKK.out
          rw [if_pos hq] at hK
          unfold apE apD apJ
          rw [hK, hm'.out]
          exact ⟨rfl, rfl, rfl⟩
        have hwf : Hid (wrsOk D (layW J.e J.c R) = false → apE n D J R = 50 ∧ apD n D J R = wrs D (layW J.e J.c R) ∧ apJ n D J R = { J with dn := true }) := fun hq => by
          have hK := hKK.out
          rw [if_neg (by simp [hq])] at hK
          unfold apE apD apJ
          rw [hK]
          exact ⟨rfl, rfl, rfl⟩
        clear hKK
        generalize layW J.e J.c R = ws at *
        go_enter Try.func19, Try.ntmps19
        go_wp2_with (first | (go_at_call 35; refine KPw.out.mono ?_; rintro e' w1 ⟨rfl, hw1'⟩; obtain rfl : W = w1 := hw1'.symm) | (go_at_call 29; refine KR.out.mono ?_; rintro e' w2 ⟨rfl, hb2⟩; have hb2' := hide' hb2; clear hb2))
        refine (KL.out w2 hb2'.out).mono ?_
        rintro e' w3 ⟨r, rfl, hr, hd3, hk3⟩
        have hj3 : Hid (JnA w3 gj g J) := (h'.out.below hb2'.out (blk_lt h'.out)).kp hk3.out hne.out.1 hne.out.2
        obtain ⟨x0, x1, x2, x3, x4⟩ := hj3.out.cells
        have g0 := hj3.out.free
        have hK3 : Hid (Kj g gb gj W w3) := (Kj.of_below hb2'.out).trans (Kj.of_kp hk3.out)
        rcases hr.out with ⟨rfl, hq⟩ | ⟨rfl, hq⟩
        · have hE := hide' (hwl.out hq)
          have KPs := hide' (passJ hj3.out (oa := oa) (m := m) (cap := cap) (by omega) he hc)
          clear hwl hwf hq hr
          go_wp2_with fail
          refine KPs.out.mono ?_
          rintro e' w4 ⟨rfl, hj4, hk4⟩
          have hj4' := hide' hj4
          have hk4' := hide' hk4
          clear hj4 hk4
          go_wp2
          go_ret
          rw [hE.out.1, hE.out.2.1, hE.out.2.2]
          exact ⟨0, rfl, rfl, hd3.out.kp hk4'.out hne.out.1.symm hne.out.1.symm hne.out.2.symm hne.out.2.symm, hj4', hK3.out.trans (Kj.of_kj hk4'.out)⟩
        · have hE := hide' (hwf.out hq)
          clear hwl hwf hq hr
          have hj4 := hide' (hj3.out.set4 true)
          have hk4 : Hid (Kp gj gj w3 (w3.setCell ⟨gj, 4, none⟩ (.bool true))) := (Kp.refl _ _ _).set _ _
          go_wp2
          go_ret
          rw [hE.out.1, hE.out.2.1, hE.out.2.2]
          exact ⟨50, rfl, rfl, hd3.out.kp hk4.out hne.out.1.symm hne.out.1.symm hne.out.2.symm hne.out.2.symm, hj4, hK3.out.trans (Kj.of_kj hk4.out)⟩
    · have hp' : D.power = false := by simpa using hp
      rw [hp'] at KPw
      have hK : Hid (apK n D J R = .down) := by unfold Hid apK; rw [if_pos (.inr hp')]
      have e1 : apE n D J R = 50 := by unfold apE; rw [hK.out]
      have e2 : apD n D J R = D := by unfold apD; rw [hK.out]
      have e3 : apJ n D J R = { J with dn := true } := by unfold apJ; rw [hK.out]
      rw [e1, e2, e3]
      clear e1 e2 e3 hK hdn hp hp'
      go_enter Try.func19, Try.ntmps19
      go_wp2_with (first | (go_at_call 35; refine KPw.out.mono ?_; rintro e' w1 ⟨rfl, hw1'⟩; obtain rfl : W = w1 := hw1'.symm))
      go_ret
      exact ⟨50, rfl, rfl, hdd, hjd, hkd⟩
end Go.Proofs.Ytmhbidnpfefjpaa
