/- slices.SortFunc over a row of entries: the row by time, then by turn. -/
import Derived.Test.YtmjdecgijnodhaaGCmp
import Derived.Test.YtmjdecgijnodhaaGSwap
import Derived.Test.YtmjdecgijnodhaaGLay
namespace Go.Proofs.Ytmjdecgijnodhaa
open Go.RowKit Go.Sort Go.Shelf
/-- An entry's pointer that reads so. -/
def Pe (W : World) (g : Nat) : Type := { p : Nat × Ent // (W.cell? ⟨p.1, 1, none⟩ = some (.int .i64 p.2.tm) ∧ W.cell? ⟨p.1, 2, none⟩ = some (.int .i64 p.2.turn)) ∧ p.1 ≠ g }
def encP {W : World} {g : Nat} (x : Pe W g) : Value := .pointer (some ⟨x.1.1, 0, none⟩)
def cfP {W : World} {g : Nat} (x y : Pe W g) : Int := orI (cmpI x.1.2.tm y.1.2.tm) (cmpI x.1.2.turn y.1.2.turn)
theorem ltP {W : World} {g : Nat} (x y : Pe W g) : ltOf cfP x y = true ↔ ltE x.1.2 y.1.2 := by
  unfold ltOf cfP
  rw [decide_eq_true_iff]
  exact cmp_lt x.1.2 y.1.2
theorem ltN {W : World} {g : Nat} (x y : Pe W g) : ltOf cfP x y = false ↔ ¬ ltE x.1.2 y.1.2 := by
  rw [← ltP]; simp
theorem swoP {W : World} {g : Nat} : SWO (ltOf (cfP (W := W) (g := g))) where
  irrefl x := (ltN x x).2 (ltE.irrefl _)
  trans x y z h1 h2 := (ltP x z).2 (((ltP x y).1 h1).trans ((ltP y z).1 h2))
  ntrans x y z h1 h2 := (ltN x z).2 (geE ((ltN x y).1 h1) ((ltN y z).1 h2))
theorem mv_sort {α : Type} [Inhabited α] (enc : α → Value) (W : World) (g m : Nat) (d : Array α) (os : Array Obj) : Mw (fun k => k = g) W (sortWorld enc W g 0 m d os) := by
  refine ⟨rfl, rfl, rfl, by simp [sortWorld], fun k hk hne => ?_⟩
  unfold sortWorld
  rw [heap_grow_old _ _ (by simpa using hk)]
  have : g ≠ k := fun e => hne e.symm
  simp [putRow, mapBlock, Sort.ahead, Array.getElem?_modify, this]
theorem mvCell {F : Nat → Prop} {w w' : World} (h : Mw F w w') {b o : Nat} {v : Value} (hc : w.cell? ⟨b, o, none⟩ = some v) (hf : ¬ F b) : w'.cell? ⟨b, o, none⟩ = some v := by
  have hb := h.block b (cell_lt hc) hf
  rw [← hc]
  simp only [World.cell?, hb]
set_option maxHeartbeats 2000000 in
set_option maxRecDepth 100000 in
theorem sortE (W : World) (g n cap : Nat) (h : Nat → Nat × Ent) (hn : 0 < n) (hm : n ≤ 1000000) (hg : g < W.heap.size)
    (hrow : ∀ k, k < n → W.cell? ⟨g, k, none⟩ = some (.pointer (some ⟨(h k).1, 0, none⟩)) ∧ W.frozen? ⟨g, k, none⟩ = false)
    (he : ∀ k, k < n → (W.cell? ⟨(h k).1, 1, none⟩ = some (.int .i64 (h k).2.tm) ∧ W.cell? ⟨(h k).1, 2, none⟩ = some (.int .i64 (h k).2.turn)) ∧ (h k).1 ≠ g) :
    Calls Try.prog 23 #[.slice (some ⟨g, 0, none⟩) n cap, .func (.func 24) #[] #[]] W fun e w' => e = .returned (.tuple #[]) ∧
      ∃ L : List (Nat × Ent), L.Perm ((List.range n).map h) ∧ L.Pairwise (fun x y => ¬ ltE y.2 x.2) ∧ (∀ k x, L[k]? = some x → w'.cell? ⟨g, k, none⟩ = some (.pointer (some ⟨x.1, 0, none⟩))) ∧ Mw (fun k => k = g) W w' := by
  have : Inhabited (Pe W g) := ⟨⟨h 0, he 0 hn⟩⟩
  have hd : ∃ d : Array (Pe W g), d.size = n ∧ d.toList.map (fun x => x.1) = (List.range n).map h := by
    have hall : ∀ m, m ≤ n → ∃ l : List (Pe W g), l.map (fun x => x.1) = (List.range m).map h := fun m => by
      induction m with
      | zero => exact fun _ => ⟨[], rfl⟩
      | succ m ih =>
        intro hmn
        obtain ⟨l, hl⟩ := ih (by omega)
        let x : Pe W g := ⟨h m, he m (by omega)⟩
        have hx : x.1 = h m := rfl
        clear_value x
        refine ⟨l ++ [x], ?_⟩
        rw [List.map_append, hl, List.range_succ, List.map_append, List.map_singleton, List.map_singleton, hx]
    obtain ⟨l, hl⟩ := hall n (Nat.le_refl _)
    refine ⟨l.toArray, ?_, hl⟩
    have e := congrArg List.length hl
    rw [List.length_map, List.length_map, List.length_range] at e
    exact e
  obtain ⟨d, hds, hdl⟩ := hd
  have hat : ∀ j, j < n → (d[j]!).1 = h j := fun j hj => by
    have e := congrArg (fun l => l[j]?) hdl
    simp only [List.getElem?_map, Array.getElem?_toList] at e
    rw [List.getElem?_range hj, Array.getElem?_eq_getElem (by omega)] at e
    simp at e
    rw [getElem!_pos d j (by omega)]
    exact e
  have hH : Holds (encP (W := W) (g := g)) W g 0 d := fun j hj => by
    rw [Nat.zero_add]
    obtain ⟨q1, q2⟩ := hrow j (by omega)
    refine ⟨?_, q2⟩
    rw [q1]; unfold encP; rw [hat j (by omega)]
  have hcmp : CmpLays1 Try.prog 24 #[] (encP (W := W) (g := g)) cfP g 0 d.size W := fun m os dk _ x y => by
    have hM := mv_sort (encP (W := W) (g := g)) W g m dk os
    have hx := x.2
    have hy := y.2
    refine (compareX x.1.2 y.1.2 x.1.1 y.1.1 _ (mvCell hM hx.1.1 hx.2) (mvCell hM hy.1.1 hy.2) (mvCell hM hx.1.2 hx.2) (mvCell hM hy.1.2 hy.2)).mono ?_
    rintro e w' ⟨rfl, q, os', hw⟩
    exact ⟨rfl, q, os', hw⟩
  have eg : ∀ args w, (callFunc 24 args).run Try.prog w = .ok (.enter 24 args) w := enters_of Try.func24 (by kernel_rfl) rfl
  have hlim : Lib.bitLen n < 4611686018427387904 := Nat.lt_of_le_of_lt (Lib.bitLen_le n 62 (by omega) (by omega)) (by omega)
  have hp := Any.pdqsortCmpFunc_all Try.pdqE (encP (W := W) (g := g)) cfP 24 #[] swoP g 0 cap d W eg hcmp ⟨fun _ => rfl, hH, hg⟩ (n + 1) 0 n (Lib.bitLen n) d W (by omega) rfl (SW.start hH) (Nat.zero_le _) (by omega) (by omega) hlim (Or.inl rfl)
  have hps := pdq_sorts (ltOf (cfP (W := W) (g := g))) swoP d 0 n (Lib.bitLen n) true true (Nat.zero_le _) (by omega) (Or.inl rfl)
  change Calls Try.prog 30 _ _ _ at hp
  rw [hds] at hp
  have hl : Calls Try.prog 31 #[.int .u64 (n : Int)] W fun e w' => e = .returned (.int .i64 (Lib.bitLen n : Nat)) ∧ w' = W := by
    have h := Any.bits_Len Try.bitsLen (n : Int) W (by omega) (by omega)
    rw [Int.toNat_natCast] at h
    exact h
  have wr : IntKind.u64.wrap (n : Int) = n := by simp [IntKind.wrap, IntKind.bits, IntKind.signed]; omega
  generalize hpd : pdq (ltOf (cfP (W := W) (g := g))) d 0 n (Lib.bitLen n) true true = d' at *
  obtain ⟨⟨p1, _, p3⟩, hs⟩ := hps
  have hfin : Hid (∀ m os, ∃ L : List (Nat × Ent), L.Perm ((List.range n).map h) ∧ L.Pairwise (fun x y => ¬ ltE y.2 x.2) ∧ (∀ k x, L[k]? = some x → (sortWorld (encP (W := W) (g := g)) W g 0 m d' os).cell? ⟨g, k, none⟩ = some (.pointer (some ⟨x.1, 0, none⟩))) ∧ Mw (fun k => k = g) W (sortWorld (encP (W := W) (g := g)) W g 0 m d' os)) := fun m os => by
    have hz : d'.size = n := by omega
    refine ⟨d'.toList.map (fun x => x.1), ?_, ?_, ?_, mv_sort _ _ _ _ _ _⟩
    · rw [← hdl]
      have e1 : d'.extract 0 n = d' := by rw [← hz]; simp
      have e2 : d.extract 0 n = d := by rw [← hds]; simp
      rw [e1, e2] at p3
      exact p3.map _
    · rw [List.pairwise_map, List.pairwise_iff_getElem]
      intro i j hi hj hij
      have h3 := hs i j (Nat.zero_le _) hij (by simpa [hz] using hj)
      rw [ltN] at h3
      simp at hi hj
      rw [getElem!_pos d' j hj, getElem!_pos d' i hi] at h3
      simpa using h3
    · intro k x hx
      rw [List.getElem?_map, Array.getElem?_toList] at hx
      have hk : k < d'.size := by
        rcases Nat.lt_or_ge k d'.size with h' | h'
        · exact h'
        · rw [Array.getElem?_eq_none h'] at hx; cases hx
      have hw := (holds_sortWorld (encP (W := W) (g := g)) W g 0 m d d' os hg hH (by omega) k hk).1
      rw [Nat.zero_add] at hw
      rw [hw, getElem!_pos d' k hk]
      rw [Array.getElem?_eq_getElem hk] at hx
      simp at hx
      subst hx
      rfl
  have hp' := hide' hp
  have hl' := hide' hl
  clear hp hl hs p1 p3 hpd hH hcmp eg hat hdl hrow he hlim
  generalize Lib.bitLen n = bl at *
  go_enter Try.func23, Try.ntmps23
  go_wp2_with (first | (go_at_call 31; refine hl'.out.mono ?_; rintro e w' ⟨rfl, rfl⟩) | (go_at_call 30; refine hp'.out.mono ?_; rintro e w' ⟨rfl, m, os, rfl⟩))
  go_end0
  exact ⟨rfl, hfin.out m os⟩
end Go.Proofs.Ytmjdecgijnodhaa
