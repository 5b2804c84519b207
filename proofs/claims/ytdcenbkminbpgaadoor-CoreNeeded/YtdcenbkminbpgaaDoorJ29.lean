/- core.allBelow: is each of the places one of n? -/
import Derived.Test.YtdcenbkminbpgaaDoorJ22
import Derived.Test.YtdcenbkminbpgaaDoorJ26
import Derived.Test.YtdcenbkminbpgaaDoorJ28
import Derived.Shelf.Abstract
namespace Go.Proofs.YtdcenbkminbpgaaDoor.S
open Go.RowKit Go.Shelf
set_option maxRecDepth 100000 in
set_option maxHeartbeats 1000000 in
theorem everyF (P : Pb) (wv fv rv : Value) (w : World) (h : PbS P wv fv rv) (h0 : 0 ≤ P.users) (h1 : P.users ≤ 64) :
    Calls Tryd.prog 71 #[pbV P wv fv rv] w fun e w' => e = .returned (.int .u64 (allW P.users : Int)) ∧ Below w.heap.size w w' := by
  obtain ⟨ow, cw, of, cf, or, cr, rfl, rfl, rfl⟩ := h
  unfold pbV allW
  obtain ⟨U, hU⟩ := Int.eq_ofNat_of_zero_le h0
  rw [hU] at h1 ⊢
  rw [Int.toNat_natCast]
  clear h0 hU
  by_cases h64 : U = 64
  · subst h64
    go_enter Tryd.func71, Tryd.ntmps71
    go_wp2
    go_ret
    exact ⟨rfl, (Below.refl _ w).alloc (Nat.le_refl _) _⟩
  · have hlt : U < 64 := by omega
    have hlt' : (U : Int) < 64 := by omega
    have hp : 0 < 2 ^ U := Nat.pow_pos (by decide)
    have hq : 2 ^ U < 18446744073709551616 := Nat.lt_of_lt_of_le (Nat.pow_lt_pow_right (by decide) hlt) (Nat.le_refl (2 ^ 64))
    have e : Hid (IntKind.u64.wrap (IntKind.u64.wrap ((2 : Int) ^ U) - 1) = ((2 ^ U - 1 : Nat) : Int)) := by
      unfold Hid
      rw [IntKind.wrap_u64, IntKind.wrap_u64, show ((2 : Int) ^ U) = ((2 ^ U : Nat) : Int) by push_cast; rfl]
      omega
    clear h64 h1
    go_enter Tryd.func71, Tryd.ntmps71
    go_wp2
    go_ret
    exact ⟨congrArg (fun z => Ending.returned (Value.int .u64 z)) e.out, (Below.refl _ w).alloc (Nat.le_refl _) _⟩
set_option maxRecDepth 100000 in
set_option maxHeartbeats 1000000 in
theorem nothingF (i : Int) (w : World) : Calls Tryd.prog 36 #[.int .i64 i] w fun e w' => e = .returned (.bool false) ∧ Below w.heap.size w w' := by
  go_enter Tryd.func36, Tryd.ntmps36
  go_wp2
  go_ret
  exact ⟨rfl, Below.refl _ _⟩
/-- A choice: what it says of a place, in any world above. -/
structure Chs (V : World) (fk : Nat) (cs : Array Value) (p : Nat → Bool) : Prop where
  en : ∀ args w, (callFunc fk args).run Tryd.prog w = .ok (.enter fk args) w
  say : ∀ (W : World) (i : Nat), Below V.heap.size V W → i ≤ 1000 → Calls Tryd.prog fk (#[.int .i64 (i : Int)] ++ cs) W fun e w' => e = .returned (.bool (p i)) ∧ Below W.heap.size W w'
theorem ent_nothing : ∀ args w, (callFunc 36 args).run Tryd.prog w = .ok (.enter 36 args) w := enters_of Tryd.func36 (by kernel_rfl) rfl
theorem ent_beside : ∀ args w, (callFunc 72 args).run Tryd.prog w = .ok (.enter 72 args) w := enters_of Tryd.func72 (by kernel_rfl) rfl
theorem ent_spared : ∀ args w, (callFunc 67 args).run Tryd.prog w = .ok (.enter 67 args) w := enters_of Tryd.func67 (by kernel_rfl) rfl
theorem Chs.over {V V' : World} {fk : Nat} {cs : Array Value} {p : Nat → Bool} (h : Chs V fk cs p) (hb : Below V.heap.size V V') : Chs V' fk cs p := ⟨h.en, fun W i hW hi => h.say W i (hb.trans (hW.mono hb.size)) hi⟩
theorem nothing_chs (V : World) : Chs V 36 #[] (fun _ => false) := ⟨ent_nothing, fun W i _ _ => nothingF (i : Int) W⟩
/-- Numbers as they are told. -/
def cntI (K : List Nat) : Nat → Bool := fun i => K.contains i
theorem mem_ints {K : List Nat} {i : Nat} : decide ((i : Int) ∈ ints K) = K.contains i := by
  rw [Bool.eq_iff_iff, decide_eq_true_iff]
  unfold ints
  simp
  exact ⟨(fun ⟨a, h, e⟩ => by obtain rfl : a = i := (by omega); exact h), (fun h => ⟨i, h, rfl⟩)⟩
set_option maxRecDepth 100000 in
set_option maxHeartbeats 1000000 in
theorem besideF1 (K : List Nat) (v : Value) (g : Nat) (i : Nat) (w : World) (hc : w.cell? ⟨g, 0, none⟩ = some v) (hr : RowI w v (ints K)) (hl : K.length ≤ 1000) :
    Calls Tryd.prog 72 #[.int .i64 (i : Int), .pointer (some ⟨g, 0, none⟩)] w fun e w' => e = .returned (.bool (!K.contains i)) ∧ Below w.heap.size w w' := by
  have KC := hide' (containsI (ints K) v (i : Int) w hr (by rw [ints_len]; omega))
  obtain ⟨oa, cap, rfl, _, _⟩ := hr
  rw [← mem_ints]
  generalize decide ((i : Int) ∈ ints K) = b at *
  go_enter Tryd.func72, Tryd.ntmps72
  go_wp2_with fail
  refine KC.out.mono ?_
  rintro e w1 ⟨rfl, hb1⟩
  go_wp2
  go_ret
  exact ⟨rfl, hb1⟩
/-- beside's choice. -/
theorem beside_chs {K : List Nat} {v : Value} {g : Nat} {V : World} (hc : V.cell? ⟨g, 0, none⟩ = some v) (hr : RowI V v (ints K)) (hl : K.length ≤ 1000) : Chs V 72 #[.pointer (some ⟨g, 0, none⟩)] (fun i => !K.contains i) := ⟨ent_beside, fun W i hW _ => besideF1 K v g i W (M.cell_over hc hW) (hr.below hW (Nat.le_refl _)) hl⟩
set_option maxRecDepth 100000 in
set_option maxHeartbeats 1000000 in
theorem besideF (K : List Nat) (v : Value) (w : World) (hr : RowI w v (ints K)) (hl : K.length ≤ 1000) :
    Calls Tryd.prog 38 #[v] w fun e w' => ∃ g, e = .returned (.func (.func 72) #[] #[.pointer (some ⟨g, 0, none⟩)]) ∧ Hid (Chs w' 72 #[.pointer (some ⟨g, 0, none⟩)] (fun i => !K.contains i)) ∧ Hid (Below w.heap.size w w') := by
  have hB : Hid (Below w.heap.size w (w.alloc (.cells #[v] 23))) := (Below.refl _ w).alloc (Nat.le_refl _) _
  have hc : Hid ((w.alloc (.cells #[v] 23)).cell? ⟨w.heap.size, 0, none⟩ = some v) := by
    show _ = _
    simp only [World.cell?]
    rw [heap_new w (.cells #[v] 23)]
    rfl
  have hC := hide' (beside_chs hc.out (hr.below hB.out (Nat.le_refl _)) hl)
  obtain ⟨oa, cap, rfl, _, _⟩ := hr
  clear hc
  go_enter Tryd.func38, Tryd.ntmps38
  go_wp2
  go_ret
  exact ⟨_, rfl, hC, hB⟩
set_option maxRecDepth 100000 in
set_option maxHeartbeats 1000000 in
theorem amongF1 (L : List Int) (v : Value) (g : Nat) (i : Nat) (w : World) (hc : w.cell? ⟨g, 0, none⟩ = some v) (hr : RowI w v L) (hl : L.length ≤ 1000) :
    Calls Tryd.prog 75 #[.int .i64 (i : Int), .pointer (some ⟨g, 0, none⟩)] w fun e w' => e = .returned (.bool (decide ((i : Int) ∈ L))) ∧ Below w.heap.size w w' := by
  have KC := hide' (containsI L v (i : Int) w hr (by omega))
  obtain ⟨oa, cap, rfl, _, _⟩ := hr
  generalize decide ((i : Int) ∈ L) = b at *
  go_enter Tryd.func75, Tryd.ntmps75
  go_wp2_with fail
  refine KC.out.mono ?_
  rintro e w1 ⟨rfl, hb1⟩
  go_wp2
  go_ret
  exact ⟨rfl, hb1⟩
set_option maxRecDepth 100000 in
set_option maxHeartbeats 1000000 in
theorem amongF (L : List Int) (v : Value) (w : World) (hr : RowI w v L) (hl : L.length ≤ 1000) :
    Calls Tryd.prog 40 #[v] w fun e w' => ∃ g, e = .returned (.func (.func 75) #[] #[.pointer (some ⟨g, 0, none⟩)]) ∧ Hid (Chs w' 75 #[.pointer (some ⟨g, 0, none⟩)] (fun i => decide ((i : Int) ∈ L))) ∧ Hid (Below w.heap.size w w') := by
  have hB : Hid (Below w.heap.size w (w.alloc (.cells #[v] 23))) := (Below.refl _ w).alloc (Nat.le_refl _) _
  have hc : Hid ((w.alloc (.cells #[v] 23)).cell? ⟨w.heap.size, 0, none⟩ = some v) := by
    show _ = _
    simp only [World.cell?]
    rw [heap_new w (.cells #[v] 23)]
    rfl
  have hC : Hid (Chs (w.alloc (.cells #[v] 23)) 75 #[.pointer (some ⟨w.heap.size, 0, none⟩)] (fun i => decide ((i : Int) ∈ L))) := ⟨enters_of Tryd.func75 (by kernel_rfl) rfl, fun W i hW _ => amongF1 L v w.heap.size i W (M.cell_over hc.out hW) ((hr.below hB.out (Nat.le_refl _)).below hW (Nat.le_refl _)) hl⟩
  obtain ⟨oa, cap, rfl, _, _⟩ := hr
  clear hc
  go_enter Tryd.func40, Tryd.ntmps40
  go_wp2
  go_ret
  exact ⟨_, rfl, hC, hB⟩
set_option maxRecDepth 100000 in
set_option maxHeartbeats 1000000 in
theorem sparedF1 (K : List Nat) (v : Value) (gt gk hi i : Nat) (w : World) (hc : w.cell? ⟨gt, 0, none⟩ = some (.int .i64 (hi : Int))) (hk : w.cell? ⟨gk, 0, none⟩ = some v) (hr : RowI w v (ints K)) (hl : K.length ≤ 1000) :
    Calls Tryd.prog 67 #[.int .i64 (i : Int), .pointer (some ⟨gt, 0, none⟩), .pointer (some ⟨gk, 0, none⟩)] w fun e w' => e = .returned (.bool (sprd K hi i)) ∧ Below w.heap.size w w' := by
  have KC := hide' (containsI (ints K) v (i : Int) w hr (by rw [ints_len]; omega))
  obtain ⟨oa, cap, rfl, _, _⟩ := hr
  unfold sprd
  rw [mem_ints] at KC
  generalize K.contains i = b at *
  by_cases hlt : i < hi
  · have hlt' : (i : Int) < (hi : Int) := by omega
    rw [decide_eq_true hlt, Bool.true_and]
    go_enter Tryd.func67, Tryd.ntmps67
    go_wp2_with fail
    refine KC.out.mono ?_
    rintro e w1 ⟨rfl, hb1⟩
    go_wp2
    go_ret
    exact ⟨rfl, hb1⟩
  · have hlt' : ¬ (i : Int) < (hi : Int) := by omega
    rw [decide_eq_false hlt, Bool.false_and]
    clear KC
    go_enter Tryd.func67, Tryd.ntmps67
    go_wp2
    go_ret
    exact ⟨rfl, Below.refl _ _⟩
theorem spared_chs {K : List Nat} {v : Value} {gt gk hi : Nat} {V : World} (hc : V.cell? ⟨gt, 0, none⟩ = some (.int .i64 (hi : Int))) (hk : V.cell? ⟨gk, 0, none⟩ = some v) (hr : RowI V v (ints K)) (hl : K.length ≤ 1000) : Chs V 67 #[.pointer (some ⟨gt, 0, none⟩), .pointer (some ⟨gk, 0, none⟩)] (sprd K hi) := ⟨ent_spared, fun W i hW _ => sparedF1 K v gt gk hi i W (M.cell_over hc hW) (M.cell_over hk hW) (hr.below hW (Nat.le_refl _)) hl⟩
end Go.Proofs.YtdcenbkminbpgaaDoor.S
namespace Go.Proofs.YtdcenbkminbpgaaDoor.S
open Go.RowKit Go.Shelf
def outN (n : Nat) (x : Int) : Bool := decide (x < 0) || decide ((n : Int) ≤ x)
set_option maxRecDepth 100000 in
set_option maxHeartbeats 1000000 in
theorem bel1F (n : Nat) (x : Int) (g : Nat) (w : World) (hc : w.cell? ⟨g, 0, none⟩ = some (.int .i64 (n : Int))) :
    Calls Tryd.prog 74 #[.int .i64 x, .pointer (some ⟨g, 0, none⟩)] w fun e w' => e = .returned (.bool (outN n x)) ∧ Below w.heap.size w w' := by
  unfold outN
  by_cases h0 : x < 0
  · have h0' : decide (x < 0) = true := decide_eq_true h0
    rw [h0', Bool.true_or]
    go_enter Tryd.func74, Tryd.ntmps74
    go_wp2
    go_ret
    exact ⟨rfl, Below.refl _ _⟩
  · have h0' : decide (x < 0) = false := decide_eq_false h0
    rw [h0', Bool.false_or]
    generalize hb : decide ((n : Int) ≤ x) = b
    clear h0
    go_enter Tryd.func74, Tryd.ntmps74
    go_wp2
    go_ret
    exact ⟨by first | rw [hb] | rfl | (simp [hb]), Below.refl _ _⟩
set_option maxRecDepth 100000 in
set_option maxHeartbeats 2000000 in
theorem indexF (L : List Int) (v : Value) (n g : Nat) (w : World) (h : RowI w v L) (hl : L.length ≤ 1000000) (hc : w.cell? ⟨g, 0, none⟩ = some (.int .i64 (n : Int))) :
    Calls Tryd.prog 97 #[v, .func (.func 74) #[] #[.pointer (some ⟨g, 0, none⟩)]] w fun e w' => ∃ r : Int, e = .returned (.int .i64 r) ∧ decide (0 ≤ r) = L.any (outN n) ∧ Below w.heap.size w w' := by
  obtain ⟨oa, cap, rfl, _, hcc⟩ := h
  have hc' := hide' hcc
  have hg := hide' hc
  clear hcc hc
  go_enter Tryd.func97, Tryd.ntmps97
  go_wp2
  go_loopw [4, 5, 8] (fun _ _ p wr => ∃ j : Nat, j ≤ L.length ∧ p = .int .i64 (j : Int) ∧ Hid ((L.take j).any (outN n) = false) ∧ Hid (Below w.heap.size w wr)) (fun _ _ p _ => ((L.length : Int) - intOf p).toNat)
  case atStart => exact ⟨0, Nat.zero_le _, rfl, rfl, Below.refl _ _⟩
  case round =>
    obtain ⟨j, hj, rfl, hE, hB⟩ := hrel
    by_cases hlt : j < L.length
    · have hlt' : (j : Int) < (L.length : Int) := by omega
      obtain ⟨y, hx⟩ : ∃ y, L[j]? = some y := ⟨_, List.getElem?_eq_getElem hlt⟩
      obtain ⟨g', o, rfl, d1⟩ := hc'.out j y hx
      have d2 := M.cell_over d1 hB.out
      have KB := hide' (bel1F n y g wr (M.cell_over hg.out hB.out))
      have hx' := hide' hx
      clear d1 hx
      cases he : outN n y
      · have hE2 : Hid ((L.take (j + 1)).any (outN n) = false) := by
          show _ = _
          rw [List.take_add_one, hx'.out, List.any_append, hE.out]
          simp [he]
        rw [he] at KB
        clear hE he
        go_wp2_with fail
        refine KB.out.mono ?_
        rintro e w5 ⟨rfl, hb5⟩
        have hB5 := hide' (hB.out.trans (hb5.mono hB.out.size))
        clear hB hb5
        go_wp2
        exact ⟨⟨j + 1, by omega, by go_num, hE2, hB5⟩, by simp [intOf]; omega⟩
      · have hin : Hid (L.any (outN n) = true) := List.any_eq_true.2 ⟨y, List.mem_of_getElem? hx'.out, he⟩
        rw [he] at KB
        clear hE hc' he
        go_wp2_with fail
        refine KB.out.mono ?_
        rintro e w5 ⟨rfl, hb5⟩
        have hB5 := hide' (hB.out.trans (hb5.mono hB.out.size))
        clear hB hb5
        go_wp2
        go_ret
        exact ⟨(j : Int), rfl, by rw [hin.out, decide_eq_true (by omega)], hB5.out⟩
    · obtain rfl : j = L.length := by omega
      rw [List.take_length] at hE
      clear hc'
      go_wp2
      go_ret
      exact ⟨-1, rfl, by rw [hE.out]; rfl, hB.out⟩
set_option maxRecDepth 100000 in
theorem containsF (L : List Int) (v : Value) (n g : Nat) (w : World) (h : RowI w v L) (hl : L.length ≤ 1000000) (hc : w.cell? ⟨g, 0, none⟩ = some (.int .i64 (n : Int))) :
    Calls Tryd.prog 73 #[v, .func (.func 74) #[] #[.pointer (some ⟨g, 0, none⟩)]] w fun e w' => e = .returned (.bool (L.any (outN n))) ∧ Below w.heap.size w w' := by
  have K := hide' (indexF L v n g w h hl hc)
  obtain ⟨oa, cap, rfl, _, _⟩ := h
  go_enter Tryd.func73, Tryd.ntmps73
  go_wp2_with fail
  refine K.out.mono ?_
  rintro e w1 ⟨r, rfl, hr, hb⟩
  have hr' := hide' hr
  have hb' := hide' hb
  clear hr hb K hc
  go_wp2
  go_ret
  exact ⟨by rw [← hr'.out]; simp, hb'.out⟩
set_option maxRecDepth 100000 in
theorem allBelowF (L : List Int) (v : Value) (n : Nat) (w : World) (h : RowI w v L) (hl : L.length ≤ 1000000) :
    Calls Tryd.prog 39 #[.int .i64 (n : Int), v] w fun e w' => e = .returned (.bool (!L.any (outN n))) ∧ Below w.heap.size w w' := by
  have hB : Hid (Below w.heap.size w (w.alloc (.cells #[.int .i64 (n : Int)] 3))) := (Below.refl _ w).alloc (Nat.le_refl _) _
  have hcc : (w.alloc (.cells #[.int .i64 (n : Int)] 3)).cell? ⟨w.heap.size, 0, none⟩ = some (.int .i64 (n : Int)) := by
    have := heap_new w (.cells #[.int .i64 (n : Int)] 3)
    simp only [World.cell?]
    rw [this]
    rfl
  have K := hide' (containsF L v n w.heap.size _ (h.below hB.out (Nat.le_refl _)) hl hcc)
  obtain ⟨oa, cap, rfl, _, _⟩ := h
  clear hcc
  generalize L.any (outN n) = b at *
  go_enter Tryd.func39, Tryd.ntmps39
  go_wp2_with fail
  refine K.out.mono ?_
  rintro e w1 ⟨rfl, hb⟩
  go_wp2
  go_ret
  exact ⟨rfl, hB.out.trans (hb.mono hB.out.size)⟩
end Go.Proofs.YtdcenbkminbpgaaDoor.S
