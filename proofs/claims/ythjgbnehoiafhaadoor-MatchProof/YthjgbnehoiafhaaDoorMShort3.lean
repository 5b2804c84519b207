/- Short, walked. -/
import Derived.Test.YthjgbnehoiafhaaDoorMShort2
import Derived.Test.YthjgbnehoiafhaaDoorMHall
namespace Go.Proofs.YthjgbnehoiafhaaDoor.M
open Go.RowKit Go.Shelf
theorem eq_nilN (w : World) : (binOp .neq 23 (.slice none 0 0) (.slice none 0 0)).run Tryd.prog w = .ok (.bool false) w := by kernel_rfl
theorem ne_nilN (ad : Addr) (n cap : Nat) (w : World) : (binOp .neq 23 (.slice (some ad) n cap) (.slice none 0 0)).run Tryd.prog w = .ok (.bool true) w := by kernel_rfl
/-- What Short answers. -/
inductive ShoP (R : Nat → Nat) (n : Nat) (B : Nat) (V : World) : Value → Prop
  | no (h : 12 < n ∨ Ind R (fun r => r < n)) : ShoP R n B V (.slice none 0 0)
  | yes (hn : n ≤ 12) (hi : ¬ Ind R (fun r => r < n)) (k g cap t : Nat) (h1 : 1 ≤ k) (hk : k ≤ n) (hm : t ∈ chF k (2 ^ n - 1)) (hb : Bad R k t) (hl : ∀ t' ∈ chF k (2 ^ n - 1), Bad R k t' → ¬ I.cmpL (lst t') (lst t) < 0)
      (hf : ∀ k', 1 ≤ k' → k' < k → ∀ t' ∈ chF k' (2 ^ n - 1), ¬ Bad R k' t') (ho : V.ownsRow B 3 1 (.slice (some ⟨g, 0, none⟩) (nums t).length cap) (nums t).length (I.cellsI (lst t))) : ShoP R n B V (.slice (some ⟨g, 0, none⟩) (nums t).length cap)
theorem ind_all {R : Nat → Nat} {n : Nat} (hn : n ≤ 12) (h : ∀ k, 1 ≤ k → k < n + 1 → ∀ t ∈ chF k (2 ^ n - 1), ¬ Bad R k t) : Ind R (fun r => r < n) := by
  have := hall_ind (R := R) (n := n) hn (l := List.range n) List.nodup_range (fun x hx => List.mem_range.1 hx) fun k h1 h2 => h k h1 (by simp at h2; omega)
  exact this.sub fun r hr => List.mem_range.2 hr
section
variable {n : Nat} {R : Nat → Nat} {w : World} {oa : Option Addr} {cap : Nat}
set_option maxRecDepth 100000 in
set_option maxHeartbeats 1000000 in
theorem shortF (hA : RwA w (.slice oa n cap) n R) : Calls Tryd.prog 18 #[.slice oa n cap] w fun e w' => ∃ v, e = .returned v ∧ Hid (ShoP R n w.heap.size w' v) ∧ Hid (Below w.heap.size w w') := by
  have hA' := hide' hA
  clear hA
  go_enter Tryd.func18, Tryd.ntmps18
  go_wp2_with fail
  refine (fullF hA'.out).mono ?_
  rintro e w1 (⟨hn, gm, ow, pl, rfl, hM⟩ | ⟨rfl, hb, hno⟩)
  · have hi : Hid (Ind R (fun r => r < n)) := hM.out.st.ind
    have hb : Hid (Below w.heap.size w w1) := hM.out.old
    clear hM
    go_wp2
    go_ret
    exact ⟨_, rfl, .no (.inr hi.out), hb.out⟩
  · go_wp2_with fail
    refine (fewC oa n cap w1).mono ?_
    rintro e w2 ⟨rfl, rfl⟩
    by_cases hn : n ≤ 12
    · have hd : decide ((n : Int) ≤ 12) = true := by simp; omega
      rw [hd]
      go_wp2
      go_loopw [5] (fun p wr => ∃ (c : Nat), 1 ≤ c ∧ c ≤ n + 1 ∧ p = .int .i64 (c : Int) ∧ Hid (∀ k', 1 ≤ k' → k' < c → ∀ t' ∈ chF k' (2 ^ n - 1), ¬ Bad R k' t') ∧ Hid (Below w.heap.size w wr)) (fun p _ => ((n : Int) + 1 - intOf p).toNat)
      case atStart => exact ⟨1, by omega, by omega, rfl, fun k' h1 h2 => absurd h1 (by omega), hb⟩
      case round =>
        obtain ⟨c, h1, hc, rfl, hf, hbr⟩ := hrel
        by_cases hlt : c ≤ n
        · have hlt' : (c : Int) ≤ (n : Int) := by omega
          have KE := hide' (firstF (hA'.out.over hbr.out) hn c hlt)
          go_wp2_with fail
          refine KE.out.mono ?_
          rintro e w3 ⟨v, rfl, hF, hb3⟩
          have hB3 : Hid (Below w.heap.size w w3) := hbr.out.trans (hb3.out.mono hbr.out.size)
          have hle := hbr.out.size
          clear KE
          have hcs : Hid ((v = .slice none 0 0 ∧ Hid (∀ t ∈ chF c (2 ^ n - 1), ¬ Bad R c t)) ∨ ∃ g m cap', v = .slice (some ⟨g, 0, none⟩) m cap' ∧ Hid (ShoP R n w.heap.size w3 (.slice (some ⟨g, 0, none⟩) m cap'))) := by
            cases hF.out with
            | no h => exact .inl ⟨rfl, h⟩
            | yes g cap' t hm hb' hl ho => exact .inr ⟨g, _, cap', rfl, .yes hn (hno.out hn) c g cap' t h1 hlt hm hb' hl hf.out (owns_lowM ho hle)⟩
          clear hF
          rcases hcs.out with ⟨rfl, hnb⟩ | ⟨g, m, cap', rfl, hS⟩
          · have hE := eq_nilN w3
            clear hcs
            go_wp2
            exact ⟨⟨c + 1, by omega, by omega, by go_num, fun k' a b => by
              by_cases e : k' = c
              · subst e; exact hnb.out
              · exact hf.out k' a (by omega), hB3⟩, by simp [intOf]; omega⟩
          · have hE := ne_nilN ⟨g, 0, none⟩ m cap' w3
            clear hcs
            go_wp2
            go_ret
            exact ⟨_, rfl, hS, hB3⟩
        · obtain rfl : c = n + 1 := by omega
          have hfin : Hid (Ind R (fun r => r < n)) := ind_all hn hf.out
          go_wp2
          go_ret
          exact ⟨_, rfl, .no (.inr hfin.out), hbr.out⟩
    · have hd : decide ((n : Int) ≤ 12) = false := by simp; omega
      rw [hd]
      go_wp2
      go_ret
      exact ⟨_, rfl, .no (.inl (by omega)), hb.out⟩
end
end Go.Proofs.YthjgbnehoiafhaaDoor.M
