/- heap.Remove: what it answers. -/
import Derived.Test.YtmjdecgijnodhaaGPop
import Derived.Test.YtmjdecgijnodhaaGDown
namespace Go.Proofs.Ytmjdecgijnodhaa
open Go.RowKit
/-- Those that are left when the one at i goes. -/
def Left (n i : Nat) (h h' : Nat → Nat × Ent) : Prop := ∀ x, (∃ k, k < n ∧ h' k = x) ↔ (∃ k, k < n + 1 ∧ h k = x ∧ k ≠ i)
/-- What Remove leaves. -/
def RemPost (a n i mb : Nat) (sets : Int) (h : Nat → Nat × Ent) (rowv : Value) (w : World) (e : Ending) (w' : World) : Prop :=
  (∃ v, e = .returned v) ∧ ∃ g cap cap' h', rowv = .slice (some ⟨g, 0, none⟩) (n + 1) cap ∧ Hp w' n h' (.slice (some ⟨g, 0, none⟩) n cap') ∧ AgBox w' a (.slice (some ⟨g, 0, none⟩) n cap') mb sets ∧ IsHeap (ents h') n ∧ Left n i h h' ∧ Mv (fun k => FH (n + 1) h rowv k ∨ k = a) w w'
theorem inj_of {w : World} {n : Nat} {h : Nat → Nat × Ent} {rowv : Value} (H : Hp w n h rowv) {k l : Nat} (hk : k < n) (hl : l < n) (e : h k = h l) : k = l := H.inj k l hk hl (by rw [e])
/-- All but the last one, behind whatever order. -/
theorem left_of {n i : Nat} {h h1 h' : Nat → Nat × Ent} (hi : i < n + 1) (hS : Same (n + 1) h h1) (hlast : h1 n = h i) (hinj : ∀ k l, k < n + 1 → l < n + 1 → h k = h l → k = l) (hinj1 : ∀ k l, k < n + 1 → l < n + 1 → h1 k = h1 l → k = l) (hS2 : Same n h1 h') : Left n i h h' := fun x => by
  constructor
  · intro hx
    obtain ⟨k, hk, rfl⟩ := (hS2 x).2 hx
    obtain ⟨l, hl, e⟩ := (hS (h1 k)).2 ⟨k, by omega, rfl⟩
    refine ⟨l, hl, e, fun e2 => ?_⟩
    subst e2
    have := hinj1 k n (by omega) (by omega) (by rw [← e, hlast])
    omega
  · rintro ⟨k, hk, rfl, hne⟩
    obtain ⟨l, hl, e⟩ := (hS (h k)).1 ⟨k, hk, rfl⟩
    refine (hS2 (h k)).1 ⟨l, ?_, e⟩
    rcases Nat.lt_or_ge l n with h2 | h2
    · exact h2
    · have : l = n := by omega
      subst this
      rw [hlast] at e
      exact absurd (hinj i k hi hk e).symm hne
set_option maxRecDepth 100000 in
set_option maxHeartbeats 8000000 in
theorem removeH (a n i mb : Nat) (sets : Int) (rowv : Value) (h : Nat → Nat × Ent) (hi : i < n + 1) (hn : n ≤ 1000000) (w : World) (H : Hp w (n + 1) h rowv) (hH : IsHeap (ents h) (n + 1)) (hb : AgBox w a rowv mb sets) :
    Calls Try.prog 27 #[.iface 68 (.pointer (some ⟨a, 0, none⟩)), .int .i64 i] w (RemPost a n i mb sets h rowv w) := by
  obtain ⟨g, cap, rfl, _, _⟩ := H.row.form (by omega)
  have ca := hb.c0
  have e1 := mLen (218 - 1) a (some ⟨g, 0, none⟩) (n + 1) cap w ca
  have hfa := box_far H hb
  by_cases hlast : i = n
  · subst hlast
    have KO := hide' (popQ a i mb sets _ h hn w H hb)
    have e2 := mPop (218 - 1) (.pointer (some ⟨a, 0, none⟩)) w
    have hL : Hid (Left i i h h) := fun x => ⟨fun ⟨k, hk, e⟩ => ⟨k, by omega, e, by omega⟩, fun ⟨k, hk, e, hne⟩ => ⟨k, by omega, e⟩⟩
    have hH' := hide' (hH.less (Nat.le_succ i))
    clear H hb hH
    go_enter Try.func27, Try.ntmps27
    go_wp2_with (first | (go_at_call 69; refine (lenQ _ _ _ _).mono ?_; rintro e' w2 ⟨rfl, hw2⟩; obtain rfl : w = w2 := hw2.symm) | (go_at_call 72; refine KO.out.mono ?_; rintro e' w3 ⟨rfl, g3, cap3, hr3, H3, B3, M3⟩; have hr3' := hide' hr3; have H3' := hide' H3; have B3' := hide' B3; have M3' := hide' M3; clear hr3 H3 B3 M3))
    go_ret
    obtain ⟨rfl, rfl⟩ : g = g3 ∧ cap = cap3 := by have := hr3'.out; injection this with h1 _ h3; injection h1 with h1; injection h1 with h1; exact ⟨h1, h3⟩
    exact ⟨⟨_, rfl⟩, g, cap, cap, h, rfl, H3'.out, B3'.out, hH'.out, hL.out, M3'.out.mono (fun k hk => hk.imp (fun x => .inl x) id)⟩
  · have hin : i < n := by omega
    have hne : ((n : Int) != (i : Int)) = true := by rw [bne_iff_ne]; omega
    have KS := hide' (swapQ (n + 1) h _ i n hi (by omega) (by omega) (by omega) w H)
    have e2 := mSwap (218 - 1) a (some ⟨g, 0, none⟩) (n + 1) cap w ca
    have hD : Hid (DW (ents (swF h i n)) n i True) := by rw [ents_sw]; exact dw_start hH hin
    have hFS : Hid (∀ k, FH (n + 1) (swF h i n) (.slice (some ⟨g, 0, none⟩) (n + 1) cap) k ↔ FH (n + 1) h (.slice (some ⟨g, 0, none⟩) (n + 1) cap) k) := fun k => FH.sw hi (by omega)
    have hb' := hide' hb
    have hinj := hide' (fun k l hk hl e => inj_of H (k := k) (l := l) hk hl e)
    have hS1 : Hid (Same (n + 1) h (swF h i n)) := Same.sw h hi (by omega)
    have hl1 : Hid (swF h i n n = h i) := swF_j h i n
    generalize swF h i n = h1 at *
    clear H hb hH
    go_enter Try.func27, Try.ntmps27
    go_wp2_with (first | (go_at_call 69; refine (lenQ _ _ _ _).mono ?_; rintro e' w2 ⟨rfl, hw2⟩; obtain rfl : w = w2 := hw2.symm) | (go_at_call 71; refine KS.out.mono ?_; rintro e' w1 ⟨rfl, H1, M1⟩; have H1' := hide' H1; have M1' := hide' M1; have B1' := hide' (hb'.out.same (M1.block a hb'.out.lt hfa)); have hfa1 := hide' (box_far H1 B1'.out); have KD := hide' (downH a (n + 1) n i _ h1 hin (by omega) (by omega) w1 H1 hD.out B1'.out.c0 hfa1.out); clear H1 M1))
    refine KD.out.mono ?_
    rintro e' w3 ⟨b, rfl, h3, H3, hS3, hT3, hR3, M3⟩
    have H3' := hide' H3
    have M3' := hide' M3
    have B3' := hide' (B1'.out.same (M3.block a B1'.out.lt hfa1.out))
    have hfa3 := hide' (box_far H3 B3'.out)
    have hS3' := hide' hS3
    have hl3 : Hid (h3 n = h i) := by show _ = _; rw [hT3 n (Nat.le_refl _)]; exact hl1.out
    have hSx : Hid (Same (n + 1) h h3) := hS1.out.trans hS3
    have MM : Hid (Mv (fun k => FH (n + 1) h (.slice (some ⟨g, 0, none⟩) (n + 1) cap) k ∨ k = a) w w3) := (M1'.out.mono (fun k x => .inl x)).trans M3 (fun k _ x => .inl ((hFS.out k).1 x))
    cases b with
    | true =>
      have hHp := hide' (hR3.1 rfl)
      have KO := hide' (popQ a n mb sets _ h3 hn w3 H3 B3'.out)
      have e5 := mPop (218 - 1) (.pointer (some ⟨a, 0, none⟩)) w3
      clear H3 hS3 hT3 hR3 M3 KD KS
      go_wp2_with (go_at_call 72; refine KO.out.mono ?_; rintro e' w4 ⟨rfl, g4, cap4, hr4, H4, B4, M4⟩; have hr4' := hide' hr4; have H4' := hide' H4; have B4' := hide' B4; have M4' := hide' M4; clear hr4 H4 B4 M4)
      go_ret
      obtain ⟨rfl, rfl⟩ : g = g4 ∧ cap = cap4 := by have := hr4'.out; injection this with h1 _ h3; injection h1 with h1; injection h1 with h1; exact ⟨h1, h3⟩
      exact ⟨⟨_, rfl⟩, g, cap, cap, h3, rfl, H4'.out, B4'.out, hHp.out, left_of hi hSx.out hl3.out hinj.out (fun k l hk hl e => inj_of H3'.out hk hl e) (Same.refl _ _), MM.out.trans M4'.out (fun k _ x => x.imp (fun y => .inl y) id)⟩
    | false =>
      have hUp := hR3.2 rfl
      have KU := hide' (upH a (n + 1) n i _ h3 hin (by omega) (by omega) w3 H3 hUp B3'.out.c0 hfa3.out)
      clear H3 hS3 hT3 hR3 M3 KD KS hUp
      go_wp2_with (first | (go_at_call 34; refine KU.out.mono ?_; rintro e' w5 ⟨rfl, h5, H5, hH5, hS5, hT5, M5⟩; have H5' := hide' H5; have hH5' := hide' hH5; have hS5' := hide' hS5; have hT5' := hide' hT5; have M5' := hide' M5; have B5' := hide' (B3'.out.same (M5.block a B3'.out.lt hfa3.out)); have KO := hide' (popQ a n mb sets _ h5 hn w5 H5 B5'.out); have e5 := mPop (218 - 1) (.pointer (some ⟨a, 0, none⟩)) w5; clear H5 hH5 hS5 hT5 M5) | (go_at_call 72; refine KO.out.mono ?_; rintro e' w4 ⟨rfl, g4, cap4, hr4, H4, B4, M4⟩; have hr4' := hide' hr4; have H4' := hide' H4; have B4' := hide' B4; have M4' := hide' M4; clear hr4 H4 B4 M4))
      go_ret
      obtain ⟨rfl, rfl⟩ : g = g4 ∧ cap = cap4 := by have := hr4'.out; injection this with h1 _ h3; injection h1 with h1; injection h1 with h1; exact ⟨h1, h3⟩
      have hl5 : h5 n = h i := (hT5'.out n (Nat.le_refl _)).trans hl3.out
      exact ⟨⟨_, rfl⟩, g, cap, cap, h5, rfl, H4'.out, B4'.out, hH5'.out, left_of hi (hSx.out.trans hS5'.out) hl5 hinj.out (fun k l hk hl e => inj_of H5'.out hk hl e) (Same.refl _ _), (MM.out.trans M5'.out (fun k _ x => .inl (FH.same hSx.out k x))).trans M4'.out (fun k _ x => x.imp (fun y => .inl y) id)⟩
end Go.Proofs.Ytmjdecgijnodhaa
