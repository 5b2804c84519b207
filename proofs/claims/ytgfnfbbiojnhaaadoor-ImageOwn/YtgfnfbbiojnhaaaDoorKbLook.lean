/- Book.lookBytesN: what it answers where each list bears its own marks. -/
import Derived.Test.YtgfnfbbiojnhaaaDoorKbHalf
namespace Go.Proofs.YtgfnfbbiojnhaaaDoor.KB
open Go.RowKit
/-- The mark of list j, and what it is grown by. -/
def mkA (j : Nat) : Int := ((j % 125 : Nat) : Int)
def mkB (j : Nat) : Int := 125 + ((j % 125 : Nat) : Int)
theorem tmodN (d : Nat) : ((d : Nat) : Int).tmod 125 = ((d % 125 : Nat) : Int) := rfl
theorem cell_in {w : World} {b : Nat} {e : TypeId} {g n cap : Nat} {l : List Int} (h : w.ownsRow b e 1 (.slice (some ⟨g, 0, none⟩) n cap) n (cellsI l)) {j : Nat} {z : Int} (hz : l[j]? = some z) : w.cell? ⟨g, j, none⟩ = some (.int .u8 z) := by
  have hl : n = l.length := by have := h.1; rw [cellsI_len] at this; omega
  have hj : j < n * 1 := by have := (List.getElem?_eq_some_iff.1 hz).1; omega
  rw [h.cellAt j hj]
  simp [cellsI, hz]
set_option maxRecDepth 100000 in
set_option maxHeartbeats 4000000 in
theorem lookBytesN (b : Nat) (w : World) (tag : Nat → Nat) (ov ow o1 om lv : Value) (N : Int) (m t q : Nat) (c : Nat → Nat) (n : Nat → Nat) (vs vs1 : List Value)
    (hbx : BoxB w b ov ow o1 om N) (hlive : Fam w tag 2 (fun j => 10 + 2 * j) ov m vs (fun j => List.replicate (n j) (mkA j)))
    (hone : Fam w tag t c lv m vs1 (fun j => List.replicate (n j) (mkA j) ++ List.replicate q (mkB j))) (hm : m ≤ 1300000) (hn : ∀ j, j < m → n j ≤ 1000000) (hq : q ≤ 700) :
    Calls Tryd.prog 29 #[.pointer (some ⟨b, 0, none⟩), lv] w fun e w' => e = .returned (.bool true) ∧ w' = w := by
  have c4 := hbx.c0
  obtain ⟨oa, cap, rfl⟩ := own_shape hlive.outer
  obtain ⟨ob, cb, rfl⟩ := own_shape hone.outer
  have hlive' := hide' hlive
  have hone' := hide' hone
  have hn' := hide' hn
  clear hlive hone hbx hn
  go_enter Tryd.func29, Tryd.ntmps29
  go_wp2
  go_loop [5] (fun i => ∃ d : Nat, d ≤ m ∧ i = .int .i64 d) (fun i => (m - intOf i).toNat)
  case atStart => exact ⟨0, Nat.zero_le _, rfl⟩
  case round =>
    obtain ⟨d, hd, rfl⟩ := hrel
    obtain ⟨ad, had⟩ : ∃ ad : Nat, ad = d % 125 := ⟨_, rfl⟩
    have hld : ad < 125 := by omega
    have htd : (((d : Nat) : Int)).tmod 125 = (ad : Int) := by rw [had]; exact tmodN _
    have hAd : Hid ((ad : Int) = mkA d) := by rw [had]; rfl
    have hBd : Hid (125 + (ad : Int) = mkB d) := by rw [had]; rfl
    clear had
    by_cases hlt : d < m
    · obtain ⟨g, cap2, e, _, _⟩ := hlive'.out.outer.form (by omega)
      obtain ⟨g1, cap3, e1, _, _⟩ := hone'.out.outer.form (by omega)
      obtain ⟨rfl, rfl⟩ : oa = some ⟨g, 0, none⟩ ∧ cap = cap2 := by injection e with h1 h2 h3; exact ⟨h1, h3⟩
      obtain ⟨rfl, rfl⟩ : ob = some ⟨g1, 0, none⟩ ∧ cb = cap3 := by injection e1 with h1 h2 h3; exact ⟨h1, h3⟩
      obtain ⟨v, hv⟩ : ∃ v, vs[d]? = some v := ⟨_, List.getElem?_eq_getElem (by rw [hlive'.out.len]; exact hlt)⟩
      obtain ⟨v1, hv1⟩ : ∃ v, vs1[d]? = some v := ⟨_, List.getElem?_eq_getElem (by rw [hone'.out.len]; exact hlt)⟩
      have cv : w.cell? ⟨g, d, none⟩ = some v := by rw [hlive'.out.outer.cellAt d (by omega)]; exact hv
      have cv1 : w.cell? ⟨g1, d, none⟩ = some v1 := by rw [hone'.out.outer.cellAt d (by omega)]; exact hv1
      have hi := hlive'.out.inner d v hv
      have hi1 := hone'.out.inner d v1 hv1
      have hnd := hn'.out d hlt
      rw [List.length_replicate] at hi
      rw [List.length_append, List.length_replicate, List.length_replicate] at hi1
      generalize n d = nd at *
      obtain ⟨oc, cc, rfl⟩ := own_shape hi
      obtain ⟨od, cd, rfl⟩ := own_shape hi1
      have hi' := hide' hi
      have hi1' := hide' hi1
      clear e e1 hv hv1 hi hi1
      go_wp2
      go_loop [7] (fun k => ∃ f : Nat, f ≤ nd + q ∧ k = .int .i64 f) (fun k => ((nd + q : Nat) - intOf k).toNat)
      case atStart => exact ⟨0, Nat.zero_le _, rfl⟩
      case round =>
        obtain ⟨f, hf, rfl⟩ := hrel
        by_cases hflt : f < nd + q
        · obtain ⟨g3, cap4, e1, _, _⟩ := hi1'.out.form (by omega)
          obtain ⟨rfl, rfl⟩ : od = some ⟨g3, 0, none⟩ ∧ cd = cap4 := by injection e1 with h1 h2 h3; exact ⟨h1, h3⟩
          clear e1
          by_cases hfn : f < nd
          · obtain ⟨g4, cap5, e, _, _⟩ := hi'.out.form (by omega)
            obtain ⟨rfl, rfl⟩ : oc = some ⟨g4, 0, none⟩ ∧ cc = cap5 := by injection e with h1 h2 h3; exact ⟨h1, h3⟩
            clear e
            have x1 : w.cell? ⟨g4, f, none⟩ = some (.int .u8 (ad : Int)) := cell_in hi'.out (by rw [List.getElem?_replicate, if_pos hfn, hAd.out])
            have x2 : w.cell? ⟨g3, f, none⟩ = some (.int .u8 (ad : Int)) := cell_in hi1'.out (by rw [List.getElem?_append_left (by rw [List.length_replicate]; exact hfn), List.getElem?_replicate, if_pos hfn, hAd.out])
            go_wp2
            exact ⟨⟨f + 1, by omega, by go_num⟩, by simp [intOf]; omega⟩
          · have x2 : w.cell? ⟨g3, f, none⟩ = some (.int .u8 (125 + (ad : Int))) := cell_in hi1'.out (by rw [List.getElem?_append_right (by rw [List.length_replicate]; omega), List.length_replicate, List.getElem?_replicate, if_pos (by omega), hBd.out])
            go_wp2
            exact ⟨⟨f + 1, by omega, by go_num⟩, by simp [intOf]; omega⟩
        · go_wp2
          exact ⟨⟨d + 1, by omega, by go_num⟩, by simp [intOf]; omega⟩
    · go_wp2
      go_ret
      exact ⟨rfl, rfl⟩
end Go.Proofs.YtgfnfbbiojnhaaaDoor.KB
