/- What stands between a law's calls: the problem that was cut, its box, and a solver. -/
import Derived.Test.YtcancjbpcppecaaGreatDoorJ02
import Derived.Test.YtcancjbpcppecaaGreatDoorJ05
import Derived.Test.YtcancjbpcppecaaGreatDoorJ21
import Derived.Test.YtcancjbpcppecaaGreatDoorJ22
import Derived.Test.YtcancjbpcppecaaGreatDoorJ23
import Derived.Test.YtcancjbpcppecaaGreatDoorJ24
import Derived.Test.YtcancjbpcppecaaGreatDoorJ25
import Derived.Sort.Grow
import Derived.Sort.LotA
import Derived.Shelf.Abstract
namespace Go.Proofs.YtcancjbpcppecaaGreatDoor.S
open Go.RowKit Go.Shelf Go.Sort
set_option maxRecDepth 100000 in
set_option maxHeartbeats 1000000 in
theorem cmpT (g gr n : Nat) (room : Nat → Int) (x y : Nat) (w : World) (hx : x < n) (hy : y < n) (hb : w.cell? ⟨g, 0, none⟩ = some (.slice (some ⟨gr, 0, none⟩) n n)) (hr : ∀ t, t < n → w.cell? ⟨gr, t, none⟩ = some (.int .i64 (room t))) :
    Calls Tryz.prog 51 #[.int .i64 (x : Int), .int .i64 (y : Int), .pointer (some ⟨g, 0, none⟩)] w fun e w' => e = .returned (.int .i64 (I.cmpI (room x) (room y))) ∧ ∃ q, w' = w.drewN q := by
  have hx' : (x : Int) < (n : Int) := by omega
  have hy' : (y : Int) < (n : Int) := by omega
  have hx0 : ¬ (x : Int) < 0 := by omega
  have hy0 : ¬ (y : Int) < 0 := by omega
  have c1 := hr x hx
  have c2 := hr y hy
  have hS : Hid (w.drew.cell? ⟨g, 0, none⟩ = some (.slice (some ⟨gr, 0, none⟩) n n) ∧ w.drew.cell? ⟨gr, x, none⟩ = some (.int .i64 (room x)) ∧ w.drew.cell? ⟨gr, y, none⟩ = some (.int .i64 (room y))) := ⟨hb, c1, c2⟩
  clear hr hb c1 c2
  go_enter Tryz.func51, Tryz.ntmps51
  go_wp2
  go_region_held3 (fun V => V.cell? ⟨g, 0, none⟩ = some (.slice (some ⟨gr, 0, none⟩) n n) ∧ V.cell? ⟨gr, x, none⟩ = some (.int .i64 (room x)) ∧ V.cell? ⟨gr, y, none⟩ = some (.int .i64 (room y))) (exact hS.out) (first | (go_at_call 52; refine (I.cmpF (room x) (room y) _).mono ?_; rintro e w2 ⟨rfl, rfl⟩))
  go_wp2
  go_ret
  exact ⟨rfl, 1, rfl⟩
/-- Blocks that are not the row's stay as they were. -/
theorem sort_block {α : Type} [Inhabited α] (enc : α → Value) (W : World) (g m : Nat) (d : Array α) (os : Array Obj) {k : Nat} (hk : k < W.heap.size) (hne : k ≠ g) : (sortWorld enc W g 0 m d os).heap[k]? = W.heap[k]? := by
  unfold sortWorld
  rw [Go.Sort.heap_grow_old _ _ (by simpa using hk)]
  have : g ≠ k := fun e => hne e.symm
  simp [putRow, mapBlock, Sort.ahead, Array.getElem?_modify, this]
theorem put_block {α : Type} [Inhabited α] (enc : α → Value) (W : World) (g : Nat) (d : Array α) (m : Nat) {k : Nat} (hne : k ≠ g) : ((putRow enc W g 0 d).drewN m).heap[k]? = W.heap[k]? := by
  have : g ≠ k := fun e => hne e.symm
  show (putRow enc W g 0 d).heap[k]? = W.heap[k]?
  simp [putRow, mapBlock, Array.getElem?_modify, this]
def encF {n : Nat} (x : Fin n) : Value := .int .i64 ((x.val : Nat) : Int)
theorem swoF (n : Nat) (room : Nat → Int) : SWO (ltOf fun x y : Fin n => I.cmpI (room x.val) (room y.val)) := by
  have h : ∀ x y : Fin n, ltOf (fun x y : Fin n => I.cmpI (room x.val) (room y.val)) x y = decide (room x.val < room y.val) := fun x y => by
    unfold ltOf
    exact cmpI_neg _ _
  refine ⟨fun x => ?_, fun x y z h1 h2 => ?_, fun x y z h1 h2 => ?_⟩
  · rw [h]; simp
  · rw [h] at h1 h2 ⊢
    simp at h1 h2 ⊢; omega
  · rw [h] at h1 h2 ⊢
    simp at h1 h2 ⊢; omega
theorem ext_all {α : Type} (d : Array α) {n : Nat} (h : d.size = n) : d.extract 0 n = d := by subst h; simp
def SoP (w : World) (gd _n : Nat) (L : List Nat) (e : Ending) (w' : World) : Prop :=
  e = .returned (.tuple #[]) ∧ ∃ L' : List Nat, Hid (L'.Perm L) ∧ Hid (∀ k x : Nat, L'[k]? = some x → w'.cell? ⟨gd, k, none⟩ = some (.int .i64 (x : Int))) ∧ Hid (w'.os = w.os ∧ w'.tape = w.tape ∧ w'.output = w.output ∧ w'.heap.size = w.heap.size ∧ ∀ k, k ≠ gd → w'.heap[k]? = w.heap[k]?)
theorem insT (gd g gr n : Nat) (room : Nat → Int) (L : List Nat) (w : World) (hn : 0 < n) (hm : n ≤ 12) (hL : L.length = n) (hLn : ∀ x ∈ L, x < n) (hg : g < w.heap.size) (hgr : gr < w.heap.size) (hne1 : g ≠ gd) (hne2 : gr ≠ gd)
    (hrow : ∀ k x : Nat, L[k]? = some x → w.cell? ⟨gd, k, none⟩ = some (.int .i64 (x : Int)) ∧ w.frozen? ⟨gd, k, none⟩ = false) (hb : w.cell? ⟨g, 0, none⟩ = some (.slice (some ⟨gr, 0, none⟩) n n)) (hr : ∀ t, t < n → w.cell? ⟨gr, t, none⟩ = some (.int .i64 (room t))) :
    Calls Tryz.prog 80 #[.slice (some ⟨gd, 0, none⟩) n n, .int .i64 0, .int .i64 (n : Int), .func (.func 51) #[] #[.pointer (some ⟨g, 0, none⟩)]] w (SoP w gd n L) := by
  have : Inhabited (Fin n) := ⟨⟨0, hn⟩⟩
  obtain ⟨d, hds, hdl⟩ : ∃ d : Array (Fin n), d.size = n ∧ d.toList.map (fun x => x.val) = L := by
    have hall : ∀ l : List Nat, (∀ x ∈ l, x < n) → ∃ m : List (Fin n), m.map (fun x => x.val) = l := fun l => by
      induction l with
      | nil => exact fun _ => ⟨[], rfl⟩
      | cons a l ih =>
        intro h
        obtain ⟨m, hm⟩ := ih fun x hx => h x (List.mem_cons_of_mem _ hx)
        exact ⟨⟨a, h a List.mem_cons_self⟩ :: m, by rw [List.map_cons, hm]⟩
    obtain ⟨m, hm⟩ := hall L hLn
    refine ⟨m.toArray, ?_, hm⟩
    have := congrArg List.length hm
    rw [List.length_map, hL] at this
    simpa using this
  have hat : ∀ j, j < n → L[j]? = some (d[j]!).val := fun j hj => by
    rw [← hdl, List.getElem?_map, Array.getElem?_toList, Array.getElem?_eq_getElem (by omega), getElem!_pos d j (by omega)]; rfl
  have hH : Holds (encF (n := n)) w gd 0 d := fun j hj => by
    rw [Nat.zero_add]
    exact hrow j _ (hat j (by omega))
  have hcmp : CmpReads Tryz.prog 51 #[.pointer (some ⟨g, 0, none⟩)] (encF (n := n)) (fun x y => I.cmpI (room x.val) (room y.val)) gd 0 d.size w := fun m os dk _ x y => by
    have h1 := sort_block (encF (n := n)) w gd m dk os hg hne1
    have h2 := sort_block (encF (n := n)) w gd m dk os hgr hne2
    refine cmpT g gr n room x.val y.val _ x.2 y.2 ?_ fun t ht => ?_
    · simp only [World.cell?] at hb ⊢
      rw [h1]; exact hb
    · have := hr t ht
      simp only [World.cell?] at this ⊢
      rw [h2]; exact this
  have eg : ∀ args w, (callFunc 51 args).run Tryz.prog w = .ok (.enter 51 args) w := enters_of Tryz.func51 (by kernel_rfl) rfl
  have hp := Any.insertionSortCmpFunc_one Tryz.insI (encF (n := n)) (fun _ => rfl) (fun x y => I.cmpI (room x.val) (room y.val)) 51 #[.pointer (some ⟨g, 0, none⟩)] gd 0 n 0 n d w eg hcmp hH (Nat.zero_le _) (by omega) (by omega)
  have hps := (insertionSort_holds (swoF n room) d 0 n (Nat.zero_le _) (by omega)).1
  change Calls Tryz.prog 80 _ _ _ at hp
  rw [hds] at hp
  refine hp.mono ?_
  rintro e w' ⟨rfl, m, rfl⟩
  obtain ⟨p1, _, p3⟩ := hps
  generalize insertionSort (ltOf fun x y : Fin n => I.cmpI (room x.val) (room y.val)) d 0 n = d' at *
  have hz : d'.size = n := by omega
  refine ⟨rfl, d'.toList.map (fun x => x.val), ?_, fun k x hx => ?_, rfl, rfl, rfl, ?_, fun k hk => put_block _ _ _ _ _ hk⟩
  · rw [← hdl]
    rw [ext_all d' hz, ext_all d hds] at p3
    exact p3.map _
  · rw [List.getElem?_map, Array.getElem?_toList] at hx
    have hk : k < d'.size := by
      rcases Nat.lt_or_ge k d'.size with h' | h'
      · exact h'
      · rw [Array.getElem?_eq_none h'] at hx; cases hx
    have hw := (holds_putRow (encF (n := n)) w gd 0 d d' hH (by omega) k hk).1
    rw [Nat.zero_add] at hw
    rw [Array.getElem?_eq_getElem hk] at hx
    have hx' : d'[k].val = x := by simpa using hx
    rw [← hx']
    show (putRow encF w gd 0 d').cell? ⟨gd, k, none⟩ = _
    rw [hw, getElem!_pos d' k hk]; rfl
  · show (putRow encF w gd 0 d').heap.size = _
    simp
set_option maxRecDepth 100000 in
set_option maxHeartbeats 1000000 in
theorem ins0 (gd : Nat) (f : Value) (hf : ∃ a b c, f = .func a b c) (w : World) : Calls Tryz.prog 80 #[.slice (some ⟨gd, 0, none⟩) 0 0, .int .i64 0, .int .i64 0, f] w (SoP w gd 0 []) := by
  obtain ⟨a, b, c, rfl⟩ := hf
  go_enter Tryz.func80, Tryz.ntmps80
  go_wp2
  go_loopw [8] (fun p wr => p = .int .i64 1 ∧ wr = w) (fun _ _ => 0)
  case atStart => exact ⟨rfl, rfl⟩
  case round =>
    obtain ⟨rfl, rfl⟩ := hrel
    go_wp2
    first | go_end0 | refine bodyPost_end (v := .tuple #[]) (by simp [results, Tryz.results80, go_sem]) rfl ?_
    exact ⟨rfl, [], List.Perm.refl _, fun k x h => (by cases h), rfl, rfl, rfl, rfl, fun _ _ => rfl⟩
set_option maxRecDepth 100000 in
set_option maxHeartbeats 1000000 in
theorem stabT (gd n : Nat) (L : List Nat) (f : Value) (hf : ∃ a b c, f = .func a b c) (w : World) (hn : n ≤ 12) (K : Calls Tryz.prog 80 #[.slice (some ⟨gd, 0, none⟩) n n, .int .i64 0, .int .i64 (n : Int), f] w (SoP w gd n L)) :
    Calls Tryz.prog 65 #[.slice (some ⟨gd, 0, none⟩) n n, .int .i64 (n : Int), f] w (SoP w gd n L) := by
  obtain ⟨a, b, c, rfl⟩ := hf
  have K' := hide' K
  have h20 : ¬ (20 : Int) ≤ (n : Int) := by omega
  have h21 : ¬ (20 : Int) < (n : Int) := by omega
  clear K
  go_enter Tryz.func65, Tryz.ntmps65
  go_wp2
  go_loopw [7, 8] (fun p q wr => p = .int .i64 0 ∧ q = .int .i64 20 ∧ wr = w) (fun _ _ _ => 0)
  case atStart => exact ⟨rfl, rfl, rfl⟩
  case round =>
    obtain ⟨rfl, rfl, rfl⟩ := hrel
    go_wp2_with fail
    refine K'.out.mono ?_
    rintro e w2 ⟨rfl, L', h1, h2, h3⟩
    go_wp2
    go_loopw [6] (fun p wr2 => p = .int .i64 20 ∧ wr2 = w2) (fun _ _ => 0)
    case atStart => exact ⟨rfl, rfl⟩
    case round =>
      obtain ⟨rfl, rfl⟩ := hrel
      go_wp2
      first | go_end0 | refine bodyPost_end (v := .tuple #[]) (by simp [results, Tryz.results65, go_sem]) rfl ?_
      exact ⟨rfl, L', h1, h2, h3⟩
set_option maxRecDepth 100000 in
theorem sortT (gd n : Nat) (L : List Nat) (f : Value) (hf : ∃ a b c, f = .func a b c) (w : World) (hn : n ≤ 12) (K : Calls Tryz.prog 80 #[.slice (some ⟨gd, 0, none⟩) n n, .int .i64 0, .int .i64 (n : Int), f] w (SoP w gd n L)) :
    Calls Tryz.prog 50 #[.slice (some ⟨gd, 0, none⟩) n n, f] w (SoP w gd n L) := by
  have K' := hide' (stabT gd n L f hf w hn K)
  obtain ⟨a, b, c, rfl⟩ := hf
  clear K
  go_enter Tryz.func50, Tryz.ntmps50
  go_wp2_with fail
  refine K'.out.mono ?_
  rintro e w2 ⟨rfl, L', h1, h2, h3⟩
  go_wp2
  first | go_end0 | refine bodyPost_end (v := .tuple #[]) (by simp [results, Tryz.results50, go_sem]) rfl ?_
  exact ⟨rfl, L', h1, h2, h3⟩
end Go.Proofs.YtcancjbpcppecaaGreatDoor.S
namespace Go.Proofs.YtcancjbpcppecaaGreatDoor.S
open Go.RowKit Go.Shelf
/-- Two rows and a box that holds the second. -/
structure Tm (w : World) (P : Pb) (wv fv rv : Value) (gd gr gb n : Nat) (A R : Nat → Int) (W : World) : Prop where
  pb : PbB W w.heap.size P wv fv rv
  ord : W.ownsRow (w.heap.size + 1) 3 1 (.slice (some ⟨gd, 0, none⟩) n n) n (cellsZ A n)
  room : W.ownsRow (w.heap.size + 1) 3 1 (.slice (some ⟨gr, 0, none⟩) n n) n (cellsZ R n)
  box : W.heap[gb]? = some (.cells #[.slice (some ⟨gr, 0, none⟩) n n] 23 (0, 0))
  new : w.heap.size + 1 ≤ gb
  ne1 : gd ≠ gr
  be : Below w.heap.size w W
section
variable {w : World} {P : Pb} {wv fv rv : Value} {gd gr gb n : Nat} {A R : Nat → Int} {W W' : World}
theorem Tm.over (h : Tm w P wv fv rv gd gr gb n A R W) (hb : Below W.heap.size W W') : Tm w P wv fv rv gd gr gb n A R W' :=
  ⟨h.pb.below hb, own_below h.ord hb (Nat.le_refl _), own_below h.room hb (Nat.le_refl _), (hb.block gb (Array.getElem?_eq_some_iff.1 h.box).1).trans h.box, h.new, h.ne1, h.be.trans (hb.mono h.be.size)⟩
theorem Tm.kinds (h : Tm w P wv fv rv gd gr gb n A R W) : gb ≠ gd ∧ gb ≠ gr := by
  obtain ⟨c1, f1, h1⟩ := Go.Lib.ownsRow_kind h.ord gd rfl
  obtain ⟨c2, f2, h2⟩ := Go.Lib.ownsRow_kind h.room gr rfl
  have hb := h.box
  refine ⟨fun e => ?_, fun e => ?_⟩
  · rw [e, h1] at hb; simp at hb
  · rw [e, h2] at hb; simp at hb
theorem Tm.setO (h : Tm w P wv fv rv gd gr gb n A R W) (j : Nat) (z : Int) : Tm w P wv fv rv gd gr gb n (fun b => if b = j then z else A b) R (W.setCell ⟨gd, j, none⟩ (.int .i64 z)) := by
  have hk := h.kinds
  have hg : w.heap.size + 1 ≤ gd := own_ge' h.ord rfl
  refine ⟨(Below.heap_setCell W _ _ _ (by show w.heap.size ≠ gd; omega)).trans h.pb, ?_, own_same h.room fun k _ hk' => Below.heap_setCell W _ _ _ (by cases hk'; exact fun e => h.ne1 e.symm), (Below.heap_setCell W _ _ _ hk.1).trans h.box, h.new, h.ne1, h.be.setCell (by show w.heap.size ≤ gd; omega) _⟩
  have h1 := (h.ord.stored j (.int .i64 z)).1
  rw [cellsZ_set] at h1
  exact h1
theorem Tm.setR (h : Tm w P wv fv rv gd gr gb n A R W) (j : Nat) (z : Int) : Tm w P wv fv rv gd gr gb n A (fun b => if b = j then z else R b) (W.setCell ⟨gr, j, none⟩ (.int .i64 z)) := by
  have hk := h.kinds
  have hg : w.heap.size + 1 ≤ gr := own_ge' h.room rfl
  refine ⟨(Below.heap_setCell W _ _ _ (by show w.heap.size ≠ gr; omega)).trans h.pb, own_same h.ord fun k _ hk' => Below.heap_setCell W _ _ _ (by cases hk'; exact h.ne1), ?_, (Below.heap_setCell W _ _ _ hk.2).trans h.box, h.new, h.ne1, h.be.setCell (by show w.heap.size ≤ gr; omega) _⟩
  have h1 := (h.room.stored j (.int .i64 z)).1
  rw [cellsZ_set] at h1
  exact h1
theorem Tm.bx (h : Tm w P wv fv rv gd gr gb n A R W) : W.cell? ⟨gb, 0, none⟩ = some (.slice (some ⟨gr, 0, none⟩) n n) := by have := h.box; simp [World.cell?, this]
theorem Tm.cO (h : Tm w P wv fv rv gd gr gb n A R W) {j : Nat} (hj : j < n) : W.cell? ⟨gd, j, none⟩ = some (.int .i64 (A j)) := by rw [h.ord.cellAt j (by omega)]; exact cellsZ_at _ hj
theorem Tm.cR (h : Tm w P wv fv rv gd gr gb n A R W) {j : Nat} (hj : j < n) : W.cell? ⟨gr, j, none⟩ = some (.int .i64 (R j)) := by rw [h.room.cellAt j (by omega)]; exact cellsZ_at _ hj
end
theorem cell_drew {W : World} {a : Addr} {v : Value} (h : W.cell? a = some v) : W.drew.cell? a = some v := h
theorem cell_setO {W : World} {g o g' o' : Nat} {v u : Value} (h : W.cell? ⟨g, o, none⟩ = some v) (hne : g ≠ g') : (W.setCell ⟨g', o', none⟩ u).cell? ⟨g, o, none⟩ = some v := by
  have := Below.heap_setCell W ⟨g', o', none⟩ u g hne
  simp only [World.cell?] at h ⊢
  rw [this]; exact h
theorem three (V : World) (o1 o2 o3 : Obj) : (((V.alloc o1).alloc o2).alloc o3).heap[V.heap.size]? = some o1 ∧ (((V.alloc o1).alloc o2).alloc o3).heap[V.heap.size + 1]? = some o2 ∧ (((V.alloc o1).alloc o2).alloc o3).heap[V.heap.size + 1 + 1]? = some o3 ∧ Below V.heap.size V (((V.alloc o1).alloc o2).alloc o3) := by
  obtain ⟨z1, n1, k1, b1⟩ := alloc_stH V o1 _ rfl
  obtain ⟨z2, n2, k2, b2⟩ := alloc_stH _ o2 _ z1
  obtain ⟨z3, n3, k3, b3⟩ := alloc_stH _ o3 _ z2
  exact ⟨k3 _ _ (k2 _ _ n1), k3 _ _ n2, n3, (b1.trans (b2.mono (by omega))).trans (b3.mono (by omega))⟩
theorem Tm.mk1 {w V W : World} {P : Pb} {wv fv rv : Value} {gd gr gb n : Nat} (hn : n ≤ 12) (hpV : PbB V w.heap.size P wv fv rv) (hbV : Below w.heap.size w V) (hs : V.heap.size = w.heap.size + 1) (hB : Below V.heap.size V W) (h1 : W.heap[gd]? = some (.cells (madeCells #[.int .i64 0] n) 3 (0, 0))) (h2 : W.heap[gr]? = some (.cells (madeCells #[.int .i64 0] n) 3 (0, 0))) (h3 : W.heap[gb]? = some (.cells #[.slice (some ⟨gr, 0, none⟩) n n] 23 (0, 0))) (g1 : V.heap.size ≤ gd) (g2 : V.heap.size ≤ gr) (g3 : V.heap.size ≤ gb) (hne : gd ≠ gr) :
    Tm w P wv fv rv gd gr gb n (fun _ => 0) (fun _ => 0) W := by
  have own : ∀ g, W.heap[g]? = some (.cells (madeCells #[.int .i64 0] n) 3 (0, 0)) → V.heap.size ≤ g → W.ownsRow (w.heap.size + 1) 3 1 (.slice (some ⟨g, 0, none⟩) n n) n (cellsZ (fun _ => 0) n) := fun g h hg => by
    refine ⟨by rw [cellsZ_len]; omega, .inr ⟨g, n, _, rfl, by omega, h, Nat.le_refl _, by unfold maxLen; omega, by rw [size_madeCells, Nat.mul_one], ?_⟩⟩
    rw [toList_madeCells_one, Nat.mul_one, List.take_of_length_le (by simp), cellsZ_zero]
  exact ⟨(hB.block _ (by omega)).trans hpV, own gd h1 g1, own gr h2 g2, h3, by omega, hne, hbV.trans (hB.mono hbV.size)⟩
theorem Tm.mk0 {w V W : World} {P : Pb} {wv fv rv : Value} {gd gr gb n : Nat} (hn : n ≤ 12) (hpV : PbB V w.heap.size P wv fv rv) (hbV : Below w.heap.size w V) (hs : V.heap.size = w.heap.size + 1) (hB : Below V.heap.size V W) (h1 : W.heap[gd]? = some (.cells (madeCells #[.int .i64 0] n) 3 (0, 0))) (h2 : W.heap[gr]? = some (.cells (madeCells #[.int .i64 0] n) 3 (0, 0))) (h3 : W.heap[gb]? = some (.cells #[.slice none 0 0] 23 (0, 0))) (g1 : V.heap.size ≤ gd) (g2 : V.heap.size ≤ gr) (g3 : V.heap.size ≤ gb) (hne : gd ≠ gr) (hne1 : gb ≠ gd) (hne2 : gb ≠ gr) :
    Tm w P wv fv rv gd gr gb n (fun _ => 0) (fun _ => 0) (W.setCell ⟨gb, 0, none⟩ (.slice (some ⟨gr, 0, none⟩) n n)) :=
  Tm.mk1 hn hpV hbV hs (hB.setCell (p := ⟨gb, 0, none⟩) g3 _) ((Below.heap_setCell W _ _ _ (fun e => hne1 e.symm)).trans h1) ((Below.heap_setCell W _ _ _ (fun e => hne2 e.symm)).trans h2) (by
    have := heap_setCell_same W gb 0 _ _ (.slice (some ⟨gr, 0, none⟩) n n) h3
    simpa using this) g1 g2 g3 hne
/-- The order as it is written down. -/
def oA (j t : Nat) : Int := if t < j then (t : Int) else 0
theorem oA_set (j : Nat) : (fun t => if t = j then (j : Int) else oA j t) = oA (j + 1) := by
  funext t
  unfold oA
  by_cases e : t = j
  · subst e; rw [if_pos rfl, if_pos (by omega)]
  · rw [if_neg e]
    by_cases e2 : t < j
    · rw [if_pos e2, if_pos (by omega)]
    · rw [if_neg e2, if_neg (by omega)]
set_option maxRecDepth 100000 in
set_option maxHeartbeats 8000000 in
theorem tightF (P : Pb) (wv fv rv : Value) (w : World) (h : PbV w P wv fv rv) (hn : P.who.length ≤ 12) (hf : P.fixed.length = P.who.length) (hx : ∀ x ∈ P.fixed, x = -1 ∨ (0 ≤ x ∧ x < 64)) (hw : ∀ z ∈ P.who, z < 18446744073709551616) (hlr : P.rules.length ≤ 1000) (hm : ∀ r ∈ P.rules, r.steps.length ≤ 1000) :
    Calls Tryz.prog 26 #[pbV P wv fv rv] w fun e w' => ∃ v O, e = .returned v ∧ Hid (RowI w' v (ints O)) ∧ Hid (O.Perm (List.range P.who.length)) ∧ Hid (Below w.heap.size w w') := by
  have hs := h.shape
  have hsz0 : (w.alloc (.cells #[.int .i64 P.users, wv, fv, rv] 26)).heap.size = w.heap.size + 1 := by simp
  have hbV : Below w.heap.size w (w.alloc (.cells #[.int .i64 P.users, wv, fv, rv] 26)) := (Below.refl _ w).alloc (Nat.le_refl _) _
  have hpV : PbB (w.alloc (.cells #[.int .i64 P.users, wv, fv, rv] 26)) w.heap.size P wv fv rv := heap_new w _
  have hmk := makeNH P.who.length (by omega)
  have KM : Hid (∀ (t : Nat) (V : World), t < P.who.length → Below w.heap.size w V → Calls Tryz.prog 48 #[pbV P wv fv rv, .int .i64 (t : Int)] V fun e w' => e = .returned (.int .u64 (mayP P t : Int)) ∧ Below V.heap.size V w') := fun t V ht hV => mayF P wv fv rv t V (h.below hV) ht (by omega) hx
  have KR : Hid (∀ (t : Nat) (V : World), Below w.heap.size w V → Calls Tryz.prog 49 #[pbV P wv fv rv, .int .i64 (t : Int)] V fun e w' => ∃ o c, e = .returned (.slice o (rulN P.rules (t : Int)).length c) ∧ Below V.heap.size V w') := fun t V hV => (rulesOfF P wv fv rv (t : Int) V (h.below hV) hlr hm).mono (by
    rintro e w' ⟨v, E, rfl, hE, hT, hb⟩
    obtain ⟨o, c, rfl⟩ := own_shp hT.row
    have := congrArg List.length hE
    rw [List.length_map] at this
    rw [this]
    exact ⟨o, c, rfl, hb⟩)
  have KO : Hid (∀ (t : Nat) (V : World), Calls Tryz.prog 47 #[.int .u64 (mayP P t : Int)] V fun e w' => e = .returned (.int .i64 ((M.nums (mayP P t)).length : Int)) ∧ w' = V) := fun t V => M.ones64m (mayP P t) (mayP_lt hw hx t) V
  have hlr' : Hid (∀ t : Nat, (rulN P.rules (t : Int)).length ≤ 1000 ∧ (M.nums (mayP P t)).length ≤ 64) := fun t => ⟨Nat.le_trans (List.length_filter_le _ _) hlr, by rw [M.len_nums]; exact M.cnt_le 64 _⟩
  have hB0 : Hid (Below w.heap.size w (w.alloc (.cells #[.int .i64 P.users, wv, fv, rv] 26)) ∧ PbB (w.alloc (.cells #[.int .i64 P.users, wv, fv, rv] 26)) w.heap.size P wv fv rv) := ⟨hbV, hpV⟩
  have hS0 : Hid ((w.alloc (.cells #[.int .i64 P.users, wv, fv, rv] 26)).cell? ⟨w.heap.size, 1, none⟩ = some wv) := hpV.c1
  obtain ⟨ow, cw, of, cf, or, cr, rfl, rfl, rfl⟩ := hs
  unfold pbV at KM KR ⊢
  have hn0 : ¬ (P.who.length : Int) < 0 := by omega
  clear h hx hw hm hf hbV hpV
  have hsz0' := hide' hsz0
  clear hsz0
  go_enter Tryz.func26, Tryz.ntmps26
  go_upto_region 1 with fail
  go_cut [3, 4] from 6 to 13 (fun s t wx => ∃ gd gr gb, s = .slice (some ⟨gd, 0, none⟩) P.who.length P.who.length ∧ t = .pointer (some ⟨gb, 0, none⟩) ∧ Hid (Tm w P (.slice ow P.who.length cw) (.slice of P.fixed.length cf) (.slice or P.rules.length cr) gd gr gb P.who.length (fun _ => 0) (fun _ => 0) wx))
  case first =>
    as_aux_lemma =>
    refine wp_region_held_drew (S := (fun V => V.cell? ⟨w.heap.size, 1, none⟩ = some (.slice ow P.who.length cw))) (by kernel_rfl) ?_ (fun hHeld => ?_)
    · exact cell_drew hS0.out
    refine wpAnyH_take (i := 0) (oi := { dst := some 6, op := Op.fieldAddr 26 (Operand.tmp 1) 1, type := 0, pos := "order.go:14", after := #[], guard := none }) (v := ?_) rfl (by kernel_rfl) (by kernel_rfl) (by kernel_rfl) (fun _ _ _ h => h) (Or.inl ⟨by rfl, ?_⟩) (by assumption) ?_
    rotate_left
    · intro w hSw; (try dsimp only at hSw); go_simp <;> with_reducible rfl
    simp only [Act.put, List.setIfInBounds_toArray, List.set_cons_zero, List.set_cons_succ]
    refine wpAnyH_take (i := 1) (oi := { dst := some 7, op := Op.load 22 (Operand.tmp 6), type := 22, pos := "order.go:14", after := #[{ on := 0, ground := Ground.data }], guard := none }) (v := ?_) rfl (by kernel_rfl) (by kernel_rfl) (by kernel_rfl) (fun _ _ _ h => h) (Or.inl ⟨by rfl, ?_⟩) (by assumption) ?_
    rotate_left
    · intro w hSw; (try dsimp only at hSw); go_simp <;> with_reducible rfl
    simp only [Act.put, List.setIfInBounds_toArray, List.set_cons_zero, List.set_cons_succ]
    refine wpAnyH_take (i := 2) (oi := { dst := some 8, op := Op.call { callee := Callee.builtin Builtin.len, args := #[Operand.tmp 7], argTypes := #[22] }, type := 3, pos := "order.go:14", after := #[{ on := 1, ground := Ground.data }], guard := none }) (v := ?_) rfl (by kernel_rfl) (by kernel_rfl) (by kernel_rfl) (fun _ _ _ h => h) (Or.inl ⟨by rfl, ?_⟩) (by assumption) ?_
    rotate_left
    · intro w hSw; (try dsimp only at hSw); go_simp <;> with_reducible rfl
    simp only [Act.put, List.setIfInBounds_toArray, List.set_cons_zero, List.set_cons_succ]
    refine wpAnyH_take (i := 4) (oi := { dst := some 10, op := Op.fieldAddr 26 (Operand.tmp 1) 1, type := 0, pos := "order.go:14", after := #[], guard := none }) (v := ?_) rfl (by kernel_rfl) (by kernel_rfl) (by kernel_rfl) (fun _ _ _ h => h) (Or.inl ⟨by rfl, ?_⟩) (by assumption) ?_
    rotate_left
    · intro w hSw; (try dsimp only at hSw); go_simp <;> with_reducible rfl
    simp only [Act.put, List.setIfInBounds_toArray, List.set_cons_zero, List.set_cons_succ]
    refine wpAnyH_take (i := 5) (oi := { dst := some 11, op := Op.load 22 (Operand.tmp 10), type := 22, pos := "order.go:14", after := #[{ on := 4, ground := Ground.data }], guard := none }) (v := ?_) rfl (by kernel_rfl) (by kernel_rfl) (by kernel_rfl) (fun _ _ _ h => h) (Or.inl ⟨by rfl, ?_⟩) (by assumption) ?_
    rotate_left
    · intro w hSw; (try dsimp only at hSw); go_simp <;> with_reducible rfl
    simp only [Act.put, List.setIfInBounds_toArray, List.set_cons_zero, List.set_cons_succ]
    refine wpAnyH_take (i := 6) (oi := { dst := some 12, op := Op.call { callee := Callee.builtin Builtin.len, args := #[Operand.tmp 11], argTypes := #[22] }, type := 3, pos := "order.go:14", after := #[{ on := 5, ground := Ground.data }], guard := none }) (v := ?_) rfl (by kernel_rfl) (by kernel_rfl) (by kernel_rfl) (fun _ _ _ h => h) (Or.inl ⟨by rfl, ?_⟩) (by assumption) ?_
    rotate_left
    · intro w hSw; (try dsimp only at hSw); go_simp <;> with_reducible rfl
    simp only [Act.put, List.setIfInBounds_toArray, List.set_cons_zero, List.set_cons_succ]
    refine wpAnyH_ready (rs := [3, 7, 8]) (by kernel_rfl) (by simp) ?_
    refine AllReadyH.cons (o := { dst := some 9, op := Op.makeSlice 23 (Operand.tmp 8) (Operand.tmp 8), type := 23, pos := "order.go:14", after := #[{ on := 2, ground := Ground.data }, { on := 2, ground := Ground.data }], guard := none }) rfl (fun K hK => ?_) ?_
    · skip
      go_simp
      refine hK.out _ _ ?_ (fun hHeld => ?_)
      · exact cell_drew (cell_new hS0.out)
      clear hK K
      try simp only [Act.put, List.setIfInBounds_toArray, List.set_cons_zero, List.set_cons_succ]
      refine wpAnyH_ready (rs := [7, 8]) (by kernel_rfl) (by simp) ?_
      refine AllReadyH.cons (o := { dst := some 13, op := Op.makeSlice 23 (Operand.tmp 12) (Operand.tmp 12), type := 23, pos := "order.go:14", after := #[{ on := 6, ground := Ground.data }, { on := 6, ground := Ground.data }], guard := none }) rfl (fun K hK => ?_) ?_
      · skip
        go_simp
        refine hK.out _ _ ?_ (fun hHeld => ?_)
        · exact cell_drew (cell_new (cell_new hS0.out))
        clear hK K
        try simp only [Act.put, List.setIfInBounds_toArray, List.set_cons_zero, List.set_cons_succ]
        refine wpAnyH_ready (rs := [8]) (by kernel_rfl) (by simp) ?_
        refine AllReadyH.cons (o := { dst := some 4, op := Op.alloc 23, type := 0, pos := "order.go:14", after := #[], guard := none }) rfl (fun K hK => ?_) AllReadyH.nil
        go_simp
        refine hK.out _ _ ?_ (fun hHeld => ?_)
        · exact cell_drew (cell_new (cell_new (cell_new hS0.out)))
        clear hK K
        try simp only [Act.put, List.setIfInBounds_toArray, List.set_cons_zero, List.set_cons_succ]
        refine wpAnyH_take (i := 9) (oi := { dst := some 3, op := Op.assign (Operand.tmp 9), type := 23, pos := "order.go:14", after := #[{ on := 3, ground := Ground.data }, { on := 0, ground := Ground.phase }, { on := 1, ground := Ground.phase }, { on := 2, ground := Ground.phase }, { on := 3, ground := Ground.phase }, { on := 4, ground := Ground.textOnly Departure.lateStores }, { on := 5, ground := Ground.textOnly Departure.lateStores }, { on := 6, ground := Ground.textOnly Departure.lateStoresUnsure }, { on := 7, ground := Ground.textOnly Departure.lateStoresUnsure }, { on := 8, ground := Ground.phase }], guard := none }) (v := ?_) rfl (by kernel_rfl) (by kernel_rfl) (by kernel_rfl) (fun _ _ _ h => h) (Or.inl ⟨by rfl, ?_⟩) (by assumption) ?_
        rotate_left
        · intro w hSw; (try dsimp only at hSw); go_simp <;> with_reducible rfl
        simp only [Act.put, List.setIfInBounds_toArray, List.set_cons_zero, List.set_cons_succ]
        refine wpAnyH_ready (rs := [10]) (by kernel_rfl) (by simp) ?_
        refine AllReadyH.cons (o := { dst := none, op := Op.store 23 (Operand.tmp 4) (Operand.tmp 13), type := 0, pos := "order.go:14", after := #[{ on := 8, ground := Ground.data }, { on := 7, ground := Ground.data }, { on := 9, ground := Ground.chain }, { on := 0, ground := Ground.phase }, { on := 1, ground := Ground.phase }, { on := 2, ground := Ground.phase }, { on := 3, ground := Ground.phase }, { on := 4, ground := Ground.phase }, { on := 5, ground := Ground.phase }, { on := 6, ground := Ground.phase }, { on := 7, ground := Ground.phase }, { on := 8, ground := Ground.phase }, { on := 9, ground := Ground.phase }], guard := none }) rfl (fun K hK => ?_) AllReadyH.nil
        go_simp
        refine hK.out _ _ ?_ (fun hHeld => ?_)
        · first | exact cell_drew (cell_new (cell_new (cell_new hS0.out))) | exact cell_drew (cell_setO (cell_new (cell_new (cell_new hS0.out))) (by omega))
        clear hK K
        try simp only [Act.put, List.setIfInBounds_toArray, List.set_cons_zero, List.set_cons_succ]
        refine wpAnyH_done (by kernel_rfl) ?_ _
        skip
        go_wp2
        go_meet
        first | (have h3 := three (w.alloc (.cells #[.int .i64 P.users, .slice ow P.who.length cw, .slice of P.fixed.length cf, .slice or P.rules.length cr] 26)) (.cells (madeCells #[.int .i64 0] P.who.length) 3) (.cells (madeCells #[.int .i64 0] P.who.length) 3) (.cells #[.slice (some ⟨w.heap.size + 1 + 1, 0, none⟩) P.who.length P.who.length] 23); rw [hsz0'.out] at h3; have hT := Tm.mk1 (w := w) (V := (w.alloc (.cells #[.int .i64 P.users, .slice ow P.who.length cw, .slice of P.fixed.length cf, .slice or P.rules.length cr] 26))) hn hB0.out.2 hB0.out.1 hsz0'.out (by rw [hsz0'.out]; exact h3.2.2.2) h3.1 h3.2.1 h3.2.2.1 (by rw [hsz0'.out]; omega) (by rw [hsz0'.out]; omega) (by rw [hsz0'.out]; omega) (by omega); exact ⟨_, _, _, rfl, rfl, hT.over (Below.refl _ _).drew⟩) | (have h3 := three (w.alloc (.cells #[.int .i64 P.users, .slice ow P.who.length cw, .slice of P.fixed.length cf, .slice or P.rules.length cr] 26)) (.cells (madeCells #[.int .i64 0] P.who.length) 3) (.cells (madeCells #[.int .i64 0] P.who.length) 3) (.cells #[.slice none 0 0] 23); rw [hsz0'.out] at h3; have hT := Tm.mk0 (w := w) (V := (w.alloc (.cells #[.int .i64 P.users, .slice ow P.who.length cw, .slice of P.fixed.length cf, .slice or P.rules.length cr] 26))) hn hB0.out.2 hB0.out.1 hsz0'.out (by rw [hsz0'.out]; exact h3.2.2.2) h3.1 h3.2.1 h3.2.2.1 (by rw [hsz0'.out]; omega) (by rw [hsz0'.out]; omega) (by rw [hsz0'.out]; omega) (by omega) (by omega) (by omega); exact ⟨_, _, _, rfl, rfl, hT.over (Below.refl _ _).drew⟩)
      refine AllReadyH.cons (o := { dst := some 4, op := Op.alloc 23, type := 0, pos := "order.go:14", after := #[], guard := none }) rfl (fun K hK => ?_) AllReadyH.nil
      go_simp
      refine hK.out _ _ ?_ (fun hHeld => ?_)
      · exact cell_drew (cell_new (cell_new hS0.out))
      clear hK K
      try simp only [Act.put, List.setIfInBounds_toArray, List.set_cons_zero, List.set_cons_succ]
      refine wpAnyH_take (i := 9) (oi := { dst := some 3, op := Op.assign (Operand.tmp 9), type := 23, pos := "order.go:14", after := #[{ on := 3, ground := Ground.data }, { on := 0, ground := Ground.phase }, { on := 1, ground := Ground.phase }, { on := 2, ground := Ground.phase }, { on := 3, ground := Ground.phase }, { on := 4, ground := Ground.textOnly Departure.lateStores }, { on := 5, ground := Ground.textOnly Departure.lateStores }, { on := 6, ground := Ground.textOnly Departure.lateStoresUnsure }, { on := 7, ground := Ground.textOnly Departure.lateStoresUnsure }, { on := 8, ground := Ground.phase }], guard := none }) (v := ?_) rfl (by kernel_rfl) (by kernel_rfl) (by kernel_rfl) (fun _ _ _ h => h) (Or.inl ⟨by rfl, ?_⟩) (by assumption) ?_
      rotate_left
      · intro w hSw; (try dsimp only at hSw); go_simp <;> with_reducible rfl
      simp only [Act.put, List.setIfInBounds_toArray, List.set_cons_zero, List.set_cons_succ]
      refine wpAnyH_ready (rs := [7]) (by kernel_rfl) (by simp) ?_
      refine AllReadyH.cons (o := { dst := some 13, op := Op.makeSlice 23 (Operand.tmp 12) (Operand.tmp 12), type := 23, pos := "order.go:14", after := #[{ on := 6, ground := Ground.data }, { on := 6, ground := Ground.data }], guard := none }) rfl (fun K hK => ?_) AllReadyH.nil
      go_simp
      refine hK.out _ _ ?_ (fun hHeld => ?_)
      · exact cell_drew (cell_new (cell_new (cell_new hS0.out)))
      clear hK K
      try simp only [Act.put, List.setIfInBounds_toArray, List.set_cons_zero, List.set_cons_succ]
      refine wpAnyH_ready (rs := [10]) (by kernel_rfl) (by simp) ?_
      refine AllReadyH.cons (o := { dst := none, op := Op.store 23 (Operand.tmp 4) (Operand.tmp 13), type := 0, pos := "order.go:14", after := #[{ on := 8, ground := Ground.data }, { on := 7, ground := Ground.data }, { on := 9, ground := Ground.chain }, { on := 0, ground := Ground.phase }, { on := 1, ground := Ground.phase }, { on := 2, ground := Ground.phase }, { on := 3, ground := Ground.phase }, { on := 4, ground := Ground.phase }, { on := 5, ground := Ground.phase }, { on := 6, ground := Ground.phase }, { on := 7, ground := Ground.phase }, { on := 8, ground := Ground.phase }, { on := 9, ground := Ground.phase }], guard := none }) rfl (fun K hK => ?_) AllReadyH.nil
      go_simp
      refine hK.out _ _ ?_ (fun hHeld => ?_)
      · first | exact cell_drew (cell_new (cell_new (cell_new hS0.out))) | exact cell_drew (cell_setO (cell_new (cell_new (cell_new hS0.out))) (by omega))
      clear hK K
      try simp only [Act.put, List.setIfInBounds_toArray, List.set_cons_zero, List.set_cons_succ]
      refine wpAnyH_done (by kernel_rfl) ?_ _
      skip
      go_wp2
      go_meet
      first | (have h3 := three (w.alloc (.cells #[.int .i64 P.users, .slice ow P.who.length cw, .slice of P.fixed.length cf, .slice or P.rules.length cr] 26)) (.cells (madeCells #[.int .i64 0] P.who.length) 3) (.cells #[.slice none 0 0] 23) (.cells (madeCells #[.int .i64 0] P.who.length) 3); rw [hsz0'.out] at h3; have hT := Tm.mk0 (w := w) (V := (w.alloc (.cells #[.int .i64 P.users, .slice ow P.who.length cw, .slice of P.fixed.length cf, .slice or P.rules.length cr] 26))) hn hB0.out.2 hB0.out.1 hsz0'.out (by rw [hsz0'.out]; exact h3.2.2.2) h3.1 h3.2.2.1 h3.2.1 (by rw [hsz0'.out]; omega) (by rw [hsz0'.out]; omega) (by rw [hsz0'.out]; omega) (by omega) (by omega) (by omega); exact ⟨_, _, _, rfl, rfl, hT.over (Below.refl _ _).drew⟩) | (have h3 := three (w.alloc (.cells #[.int .i64 P.users, .slice ow P.who.length cw, .slice of P.fixed.length cf, .slice or P.rules.length cr] 26)) (.cells (madeCells #[.int .i64 0] P.who.length) 3) (.cells #[.slice (some ⟨w.heap.size + 1 + 1 + 1, 0, none⟩) P.who.length P.who.length] 23) (.cells (madeCells #[.int .i64 0] P.who.length) 3); rw [hsz0'.out] at h3; have hT := Tm.mk1 (w := w) (V := (w.alloc (.cells #[.int .i64 P.users, .slice ow P.who.length cw, .slice of P.fixed.length cf, .slice or P.rules.length cr] 26))) hn hB0.out.2 hB0.out.1 hsz0'.out (by rw [hsz0'.out]; exact h3.2.2.2) h3.1 h3.2.2.1 h3.2.1 (by rw [hsz0'.out]; omega) (by rw [hsz0'.out]; omega) (by rw [hsz0'.out]; omega) (by omega); exact ⟨_, _, _, rfl, rfl, hT.over (Below.refl _ _).drew⟩)
    refine AllReadyH.cons (o := { dst := some 13, op := Op.makeSlice 23 (Operand.tmp 12) (Operand.tmp 12), type := 23, pos := "order.go:14", after := #[{ on := 6, ground := Ground.data }, { on := 6, ground := Ground.data }], guard := none }) rfl (fun K hK => ?_) ?_
    · skip
      go_simp
      refine hK.out _ _ ?_ (fun hHeld => ?_)
      · exact cell_drew (cell_new hS0.out)
      clear hK K
      try simp only [Act.put, List.setIfInBounds_toArray, List.set_cons_zero, List.set_cons_succ]
      refine wpAnyH_ready (rs := [3, 8]) (by kernel_rfl) (by simp) ?_
      refine AllReadyH.cons (o := { dst := some 9, op := Op.makeSlice 23 (Operand.tmp 8) (Operand.tmp 8), type := 23, pos := "order.go:14", after := #[{ on := 2, ground := Ground.data }, { on := 2, ground := Ground.data }], guard := none }) rfl (fun K hK => ?_) ?_
      · skip
        go_simp
        refine hK.out _ _ ?_ (fun hHeld => ?_)
        · exact cell_drew (cell_new (cell_new hS0.out))
        clear hK K
        try simp only [Act.put, List.setIfInBounds_toArray, List.set_cons_zero, List.set_cons_succ]
        refine wpAnyH_ready (rs := [8]) (by kernel_rfl) (by simp) ?_
        refine AllReadyH.cons (o := { dst := some 4, op := Op.alloc 23, type := 0, pos := "order.go:14", after := #[], guard := none }) rfl (fun K hK => ?_) AllReadyH.nil
        go_simp
        refine hK.out _ _ ?_ (fun hHeld => ?_)
        · exact cell_drew (cell_new (cell_new (cell_new hS0.out)))
        clear hK K
        try simp only [Act.put, List.setIfInBounds_toArray, List.set_cons_zero, List.set_cons_succ]
        refine wpAnyH_take (i := 9) (oi := { dst := some 3, op := Op.assign (Operand.tmp 9), type := 23, pos := "order.go:14", after := #[{ on := 3, ground := Ground.data }, { on := 0, ground := Ground.phase }, { on := 1, ground := Ground.phase }, { on := 2, ground := Ground.phase }, { on := 3, ground := Ground.phase }, { on := 4, ground := Ground.textOnly Departure.lateStores }, { on := 5, ground := Ground.textOnly Departure.lateStores }, { on := 6, ground := Ground.textOnly Departure.lateStoresUnsure }, { on := 7, ground := Ground.textOnly Departure.lateStoresUnsure }, { on := 8, ground := Ground.phase }], guard := none }) (v := ?_) rfl (by kernel_rfl) (by kernel_rfl) (by kernel_rfl) (fun _ _ _ h => h) (Or.inl ⟨by rfl, ?_⟩) (by assumption) ?_
        rotate_left
        · intro w hSw; (try dsimp only at hSw); go_simp <;> with_reducible rfl
        simp only [Act.put, List.setIfInBounds_toArray, List.set_cons_zero, List.set_cons_succ]
        refine wpAnyH_ready (rs := [10]) (by kernel_rfl) (by simp) ?_
        refine AllReadyH.cons (o := { dst := none, op := Op.store 23 (Operand.tmp 4) (Operand.tmp 13), type := 0, pos := "order.go:14", after := #[{ on := 8, ground := Ground.data }, { on := 7, ground := Ground.data }, { on := 9, ground := Ground.chain }, { on := 0, ground := Ground.phase }, { on := 1, ground := Ground.phase }, { on := 2, ground := Ground.phase }, { on := 3, ground := Ground.phase }, { on := 4, ground := Ground.phase }, { on := 5, ground := Ground.phase }, { on := 6, ground := Ground.phase }, { on := 7, ground := Ground.phase }, { on := 8, ground := Ground.phase }, { on := 9, ground := Ground.phase }], guard := none }) rfl (fun K hK => ?_) AllReadyH.nil
        go_simp
        refine hK.out _ _ ?_ (fun hHeld => ?_)
        · first | exact cell_drew (cell_new (cell_new (cell_new hS0.out))) | exact cell_drew (cell_setO (cell_new (cell_new (cell_new hS0.out))) (by omega))
        clear hK K
        try simp only [Act.put, List.setIfInBounds_toArray, List.set_cons_zero, List.set_cons_succ]
        refine wpAnyH_done (by kernel_rfl) ?_ _
        skip
        go_wp2
        go_meet
        first | (have h3 := three (w.alloc (.cells #[.int .i64 P.users, .slice ow P.who.length cw, .slice of P.fixed.length cf, .slice or P.rules.length cr] 26)) (.cells (madeCells #[.int .i64 0] P.who.length) 3) (.cells (madeCells #[.int .i64 0] P.who.length) 3) (.cells #[.slice (some ⟨w.heap.size + 1, 0, none⟩) P.who.length P.who.length] 23); rw [hsz0'.out] at h3; have hT := Tm.mk1 (w := w) (V := (w.alloc (.cells #[.int .i64 P.users, .slice ow P.who.length cw, .slice of P.fixed.length cf, .slice or P.rules.length cr] 26))) hn hB0.out.2 hB0.out.1 hsz0'.out (by rw [hsz0'.out]; exact h3.2.2.2) h3.2.1 h3.1 h3.2.2.1 (by rw [hsz0'.out]; omega) (by rw [hsz0'.out]; omega) (by rw [hsz0'.out]; omega) (by omega); exact ⟨_, _, _, rfl, rfl, hT.over (Below.refl _ _).drew⟩) | (have h3 := three (w.alloc (.cells #[.int .i64 P.users, .slice ow P.who.length cw, .slice of P.fixed.length cf, .slice or P.rules.length cr] 26)) (.cells (madeCells #[.int .i64 0] P.who.length) 3) (.cells (madeCells #[.int .i64 0] P.who.length) 3) (.cells #[.slice none 0 0] 23); rw [hsz0'.out] at h3; have hT := Tm.mk0 (w := w) (V := (w.alloc (.cells #[.int .i64 P.users, .slice ow P.who.length cw, .slice of P.fixed.length cf, .slice or P.rules.length cr] 26))) hn hB0.out.2 hB0.out.1 hsz0'.out (by rw [hsz0'.out]; exact h3.2.2.2) h3.2.1 h3.1 h3.2.2.1 (by rw [hsz0'.out]; omega) (by rw [hsz0'.out]; omega) (by rw [hsz0'.out]; omega) (by omega) (by omega) (by omega); exact ⟨_, _, _, rfl, rfl, hT.over (Below.refl _ _).drew⟩)
      refine AllReadyH.cons (o := { dst := some 4, op := Op.alloc 23, type := 0, pos := "order.go:14", after := #[], guard := none }) rfl (fun K hK => ?_) AllReadyH.nil
      go_simp
      refine hK.out _ _ ?_ (fun hHeld => ?_)
      · exact cell_drew (cell_new (cell_new hS0.out))
      clear hK K
      try simp only [Act.put, List.setIfInBounds_toArray, List.set_cons_zero, List.set_cons_succ]
      refine wpAnyH_ready (rs := [3]) (by kernel_rfl) (by simp) ?_
      refine AllReadyH.cons (o := { dst := some 9, op := Op.makeSlice 23 (Operand.tmp 8) (Operand.tmp 8), type := 23, pos := "order.go:14", after := #[{ on := 2, ground := Ground.data }, { on := 2, ground := Ground.data }], guard := none }) rfl (fun K hK => ?_) AllReadyH.nil
      go_simp
      refine hK.out _ _ ?_ (fun hHeld => ?_)
      · exact cell_drew (cell_new (cell_new (cell_new hS0.out)))
      clear hK K
      try simp only [Act.put, List.setIfInBounds_toArray, List.set_cons_zero, List.set_cons_succ]
      refine wpAnyH_take (i := 9) (oi := { dst := some 3, op := Op.assign (Operand.tmp 9), type := 23, pos := "order.go:14", after := #[{ on := 3, ground := Ground.data }, { on := 0, ground := Ground.phase }, { on := 1, ground := Ground.phase }, { on := 2, ground := Ground.phase }, { on := 3, ground := Ground.phase }, { on := 4, ground := Ground.textOnly Departure.lateStores }, { on := 5, ground := Ground.textOnly Departure.lateStores }, { on := 6, ground := Ground.textOnly Departure.lateStoresUnsure }, { on := 7, ground := Ground.textOnly Departure.lateStoresUnsure }, { on := 8, ground := Ground.phase }], guard := none }) (v := ?_) rfl (by kernel_rfl) (by kernel_rfl) (by kernel_rfl) (fun _ _ _ h => h) (Or.inl ⟨by rfl, ?_⟩) (by assumption) ?_
      rotate_left
      · intro w hSw; (try dsimp only at hSw); go_simp <;> with_reducible rfl
      simp only [Act.put, List.setIfInBounds_toArray, List.set_cons_zero, List.set_cons_succ]
      refine wpAnyH_ready (rs := [10]) (by kernel_rfl) (by simp) ?_
      refine AllReadyH.cons (o := { dst := none, op := Op.store 23 (Operand.tmp 4) (Operand.tmp 13), type := 0, pos := "order.go:14", after := #[{ on := 8, ground := Ground.data }, { on := 7, ground := Ground.data }, { on := 9, ground := Ground.chain }, { on := 0, ground := Ground.phase }, { on := 1, ground := Ground.phase }, { on := 2, ground := Ground.phase }, { on := 3, ground := Ground.phase }, { on := 4, ground := Ground.phase }, { on := 5, ground := Ground.phase }, { on := 6, ground := Ground.phase }, { on := 7, ground := Ground.phase }, { on := 8, ground := Ground.phase }, { on := 9, ground := Ground.phase }], guard := none }) rfl (fun K hK => ?_) AllReadyH.nil
      go_simp
      refine hK.out _ _ ?_ (fun hHeld => ?_)
      · first | exact cell_drew (cell_new (cell_new (cell_new hS0.out))) | exact cell_drew (cell_setO (cell_new (cell_new (cell_new hS0.out))) (by omega))
      clear hK K
      try simp only [Act.put, List.setIfInBounds_toArray, List.set_cons_zero, List.set_cons_succ]
      refine wpAnyH_done (by kernel_rfl) ?_ _
      skip
      go_wp2
      go_meet
      first | (have h3 := three (w.alloc (.cells #[.int .i64 P.users, .slice ow P.who.length cw, .slice of P.fixed.length cf, .slice or P.rules.length cr] 26)) (.cells (madeCells #[.int .i64 0] P.who.length) 3) (.cells #[.slice none 0 0] 23) (.cells (madeCells #[.int .i64 0] P.who.length) 3); rw [hsz0'.out] at h3; have hT := Tm.mk0 (w := w) (V := (w.alloc (.cells #[.int .i64 P.users, .slice ow P.who.length cw, .slice of P.fixed.length cf, .slice or P.rules.length cr] 26))) hn hB0.out.2 hB0.out.1 hsz0'.out (by rw [hsz0'.out]; exact h3.2.2.2) h3.2.2.1 h3.1 h3.2.1 (by rw [hsz0'.out]; omega) (by rw [hsz0'.out]; omega) (by rw [hsz0'.out]; omega) (by omega) (by omega) (by omega); exact ⟨_, _, _, rfl, rfl, hT.over (Below.refl _ _).drew⟩) | (have h3 := three (w.alloc (.cells #[.int .i64 P.users, .slice ow P.who.length cw, .slice of P.fixed.length cf, .slice or P.rules.length cr] 26)) (.cells (madeCells #[.int .i64 0] P.who.length) 3) (.cells #[.slice (some ⟨w.heap.size + 1, 0, none⟩) P.who.length P.who.length] 23) (.cells (madeCells #[.int .i64 0] P.who.length) 3); rw [hsz0'.out] at h3; have hT := Tm.mk1 (w := w) (V := (w.alloc (.cells #[.int .i64 P.users, .slice ow P.who.length cw, .slice of P.fixed.length cf, .slice or P.rules.length cr] 26))) hn hB0.out.2 hB0.out.1 hsz0'.out (by rw [hsz0'.out]; exact h3.2.2.2) h3.2.2.1 h3.1 h3.2.1 (by rw [hsz0'.out]; omega) (by rw [hsz0'.out]; omega) (by rw [hsz0'.out]; omega) (by omega); exact ⟨_, _, _, rfl, rfl, hT.over (Below.refl _ _).drew⟩)
    refine AllReadyH.cons (o := { dst := some 4, op := Op.alloc 23, type := 0, pos := "order.go:14", after := #[], guard := none }) rfl (fun K hK => ?_) AllReadyH.nil
    go_simp
    refine hK.out _ _ ?_ (fun hHeld => ?_)
    · exact cell_drew (cell_new hS0.out)
    clear hK K
    try simp only [Act.put, List.setIfInBounds_toArray, List.set_cons_zero, List.set_cons_succ]
    refine wpAnyH_ready (rs := [3, 7]) (by kernel_rfl) (by simp) ?_
    refine AllReadyH.cons (o := { dst := some 9, op := Op.makeSlice 23 (Operand.tmp 8) (Operand.tmp 8), type := 23, pos := "order.go:14", after := #[{ on := 2, ground := Ground.data }, { on := 2, ground := Ground.data }], guard := none }) rfl (fun K hK => ?_) ?_
    · skip
      go_simp
      refine hK.out _ _ ?_ (fun hHeld => ?_)
      · exact cell_drew (cell_new (cell_new hS0.out))
      clear hK K
      try simp only [Act.put, List.setIfInBounds_toArray, List.set_cons_zero, List.set_cons_succ]
      refine wpAnyH_take (i := 9) (oi := { dst := some 3, op := Op.assign (Operand.tmp 9), type := 23, pos := "order.go:14", after := #[{ on := 3, ground := Ground.data }, { on := 0, ground := Ground.phase }, { on := 1, ground := Ground.phase }, { on := 2, ground := Ground.phase }, { on := 3, ground := Ground.phase }, { on := 4, ground := Ground.textOnly Departure.lateStores }, { on := 5, ground := Ground.textOnly Departure.lateStores }, { on := 6, ground := Ground.textOnly Departure.lateStoresUnsure }, { on := 7, ground := Ground.textOnly Departure.lateStoresUnsure }, { on := 8, ground := Ground.phase }], guard := none }) (v := ?_) rfl (by kernel_rfl) (by kernel_rfl) (by kernel_rfl) (fun _ _ _ h => h) (Or.inl ⟨by rfl, ?_⟩) (by assumption) ?_
      rotate_left
      · intro w hSw; (try dsimp only at hSw); go_simp <;> with_reducible rfl
      simp only [Act.put, List.setIfInBounds_toArray, List.set_cons_zero, List.set_cons_succ]
      refine wpAnyH_ready (rs := [7]) (by kernel_rfl) (by simp) ?_
      refine AllReadyH.cons (o := { dst := some 13, op := Op.makeSlice 23 (Operand.tmp 12) (Operand.tmp 12), type := 23, pos := "order.go:14", after := #[{ on := 6, ground := Ground.data }, { on := 6, ground := Ground.data }], guard := none }) rfl (fun K hK => ?_) AllReadyH.nil
      go_simp
      refine hK.out _ _ ?_ (fun hHeld => ?_)
      · exact cell_drew (cell_new (cell_new (cell_new hS0.out)))
      clear hK K
      try simp only [Act.put, List.setIfInBounds_toArray, List.set_cons_zero, List.set_cons_succ]
      refine wpAnyH_ready (rs := [10]) (by kernel_rfl) (by simp) ?_
      refine AllReadyH.cons (o := { dst := none, op := Op.store 23 (Operand.tmp 4) (Operand.tmp 13), type := 0, pos := "order.go:14", after := #[{ on := 8, ground := Ground.data }, { on := 7, ground := Ground.data }, { on := 9, ground := Ground.chain }, { on := 0, ground := Ground.phase }, { on := 1, ground := Ground.phase }, { on := 2, ground := Ground.phase }, { on := 3, ground := Ground.phase }, { on := 4, ground := Ground.phase }, { on := 5, ground := Ground.phase }, { on := 6, ground := Ground.phase }, { on := 7, ground := Ground.phase }, { on := 8, ground := Ground.phase }, { on := 9, ground := Ground.phase }], guard := none }) rfl (fun K hK => ?_) AllReadyH.nil
      go_simp
      refine hK.out _ _ ?_ (fun hHeld => ?_)
      · first | exact cell_drew (cell_new (cell_new (cell_new hS0.out))) | exact cell_drew (cell_setO (cell_new (cell_new (cell_new hS0.out))) (by omega))
      clear hK K
      try simp only [Act.put, List.setIfInBounds_toArray, List.set_cons_zero, List.set_cons_succ]
      refine wpAnyH_done (by kernel_rfl) ?_ _
      skip
      go_wp2
      go_meet
      first | (have h3 := three (w.alloc (.cells #[.int .i64 P.users, .slice ow P.who.length cw, .slice of P.fixed.length cf, .slice or P.rules.length cr] 26)) (.cells #[.slice none 0 0] 23) (.cells (madeCells #[.int .i64 0] P.who.length) 3) (.cells (madeCells #[.int .i64 0] P.who.length) 3); rw [hsz0'.out] at h3; have hT := Tm.mk0 (w := w) (V := (w.alloc (.cells #[.int .i64 P.users, .slice ow P.who.length cw, .slice of P.fixed.length cf, .slice or P.rules.length cr] 26))) hn hB0.out.2 hB0.out.1 hsz0'.out (by rw [hsz0'.out]; exact h3.2.2.2) h3.2.1 h3.2.2.1 h3.1 (by rw [hsz0'.out]; omega) (by rw [hsz0'.out]; omega) (by rw [hsz0'.out]; omega) (by omega) (by omega) (by omega); exact ⟨_, _, _, rfl, rfl, hT.over (Below.refl _ _).drew⟩) | (have h3 := three (w.alloc (.cells #[.int .i64 P.users, .slice ow P.who.length cw, .slice of P.fixed.length cf, .slice or P.rules.length cr] 26)) (.cells #[.slice (some ⟨w.heap.size + 1 + 1 + 1, 0, none⟩) P.who.length P.who.length] 23) (.cells (madeCells #[.int .i64 0] P.who.length) 3) (.cells (madeCells #[.int .i64 0] P.who.length) 3); rw [hsz0'.out] at h3; have hT := Tm.mk1 (w := w) (V := (w.alloc (.cells #[.int .i64 P.users, .slice ow P.who.length cw, .slice of P.fixed.length cf, .slice or P.rules.length cr] 26))) hn hB0.out.2 hB0.out.1 hsz0'.out (by rw [hsz0'.out]; exact h3.2.2.2) h3.2.1 h3.2.2.1 h3.1 (by rw [hsz0'.out]; omega) (by rw [hsz0'.out]; omega) (by rw [hsz0'.out]; omega) (by omega); exact ⟨_, _, _, rfl, rfl, hT.over (Below.refl _ _).drew⟩)
    refine AllReadyH.cons (o := { dst := some 13, op := Op.makeSlice 23 (Operand.tmp 12) (Operand.tmp 12), type := 23, pos := "order.go:14", after := #[{ on := 6, ground := Ground.data }, { on := 6, ground := Ground.data }], guard := none }) rfl (fun K hK => ?_) AllReadyH.nil
    go_simp
    refine hK.out _ _ ?_ (fun hHeld => ?_)
    · exact cell_drew (cell_new (cell_new hS0.out))
    clear hK K
    try simp only [Act.put, List.setIfInBounds_toArray, List.set_cons_zero, List.set_cons_succ]
    refine wpAnyH_ready (rs := [3]) (by kernel_rfl) (by simp) ?_
    refine AllReadyH.cons (o := { dst := some 9, op := Op.makeSlice 23 (Operand.tmp 8) (Operand.tmp 8), type := 23, pos := "order.go:14", after := #[{ on := 2, ground := Ground.data }, { on := 2, ground := Ground.data }], guard := none }) rfl (fun K hK => ?_) AllReadyH.nil
    go_simp
    refine hK.out _ _ ?_ (fun hHeld => ?_)
    · exact cell_drew (cell_new (cell_new (cell_new hS0.out)))
    clear hK K
    try simp only [Act.put, List.setIfInBounds_toArray, List.set_cons_zero, List.set_cons_succ]
    refine wpAnyH_take (i := 9) (oi := { dst := some 3, op := Op.assign (Operand.tmp 9), type := 23, pos := "order.go:14", after := #[{ on := 3, ground := Ground.data }, { on := 0, ground := Ground.phase }, { on := 1, ground := Ground.phase }, { on := 2, ground := Ground.phase }, { on := 3, ground := Ground.phase }, { on := 4, ground := Ground.textOnly Departure.lateStores }, { on := 5, ground := Ground.textOnly Departure.lateStores }, { on := 6, ground := Ground.textOnly Departure.lateStoresUnsure }, { on := 7, ground := Ground.textOnly Departure.lateStoresUnsure }, { on := 8, ground := Ground.phase }], guard := none }) (v := ?_) rfl (by kernel_rfl) (by kernel_rfl) (by kernel_rfl) (fun _ _ _ h => h) (Or.inl ⟨by rfl, ?_⟩) (by assumption) ?_
    rotate_left
    · intro w hSw; (try dsimp only at hSw); go_simp <;> with_reducible rfl
    simp only [Act.put, List.setIfInBounds_toArray, List.set_cons_zero, List.set_cons_succ]
    refine wpAnyH_ready (rs := [10]) (by kernel_rfl) (by simp) ?_
    refine AllReadyH.cons (o := { dst := none, op := Op.store 23 (Operand.tmp 4) (Operand.tmp 13), type := 0, pos := "order.go:14", after := #[{ on := 8, ground := Ground.data }, { on := 7, ground := Ground.data }, { on := 9, ground := Ground.chain }, { on := 0, ground := Ground.phase }, { on := 1, ground := Ground.phase }, { on := 2, ground := Ground.phase }, { on := 3, ground := Ground.phase }, { on := 4, ground := Ground.phase }, { on := 5, ground := Ground.phase }, { on := 6, ground := Ground.phase }, { on := 7, ground := Ground.phase }, { on := 8, ground := Ground.phase }, { on := 9, ground := Ground.phase }], guard := none }) rfl (fun K hK => ?_) AllReadyH.nil
    go_simp
    refine hK.out _ _ ?_ (fun hHeld => ?_)
    · first | exact cell_drew (cell_new (cell_new (cell_new hS0.out))) | exact cell_drew (cell_setO (cell_new (cell_new (cell_new hS0.out))) (by omega))
    clear hK K
    try simp only [Act.put, List.setIfInBounds_toArray, List.set_cons_zero, List.set_cons_succ]
    refine wpAnyH_done (by kernel_rfl) ?_ _
    skip
    go_wp2
    go_meet
    first | (have h3 := three (w.alloc (.cells #[.int .i64 P.users, .slice ow P.who.length cw, .slice of P.fixed.length cf, .slice or P.rules.length cr] 26)) (.cells #[.slice none 0 0] 23) (.cells (madeCells #[.int .i64 0] P.who.length) 3) (.cells (madeCells #[.int .i64 0] P.who.length) 3); rw [hsz0'.out] at h3; have hT := Tm.mk0 (w := w) (V := (w.alloc (.cells #[.int .i64 P.users, .slice ow P.who.length cw, .slice of P.fixed.length cf, .slice or P.rules.length cr] 26))) hn hB0.out.2 hB0.out.1 hsz0'.out (by rw [hsz0'.out]; exact h3.2.2.2) h3.2.2.1 h3.2.1 h3.1 (by rw [hsz0'.out]; omega) (by rw [hsz0'.out]; omega) (by rw [hsz0'.out]; omega) (by omega) (by omega) (by omega); exact ⟨_, _, _, rfl, rfl, hT.over (Below.refl _ _).drew⟩) | (have h3 := three (w.alloc (.cells #[.int .i64 P.users, .slice ow P.who.length cw, .slice of P.fixed.length cf, .slice or P.rules.length cr] 26)) (.cells #[.slice (some ⟨w.heap.size + 1 + 1, 0, none⟩) P.who.length P.who.length] 23) (.cells (madeCells #[.int .i64 0] P.who.length) 3) (.cells (madeCells #[.int .i64 0] P.who.length) 3); rw [hsz0'.out] at h3; have hT := Tm.mk1 (w := w) (V := (w.alloc (.cells #[.int .i64 P.users, .slice ow P.who.length cw, .slice of P.fixed.length cf, .slice or P.rules.length cr] 26))) hn hB0.out.2 hB0.out.1 hsz0'.out (by rw [hsz0'.out]; exact h3.2.2.2) h3.2.2.1 h3.2.1 h3.1 (by rw [hsz0'.out]; omega) (by rw [hsz0'.out]; omega) (by rw [hsz0'.out]; omega) (by omega); exact ⟨_, _, _, rfl, rfl, hT.over (Below.refl _ _).drew⟩)
  case rest =>
  obtain ⟨gd, gr, gb, rfl, rfl, hT⟩ := hcut
  clear hmk hB0 hS0 hsz0'
  go_wp2
  go_loopw [5, 16] (fun _ p wr => ∃ (j : Nat) (R : Nat → Int), j ≤ P.who.length ∧ p = .int .i64 (j : Int) ∧ Hid (Tm w P (.slice ow P.who.length cw) (.slice of P.fixed.length cf) (.slice or P.rules.length cr) gd gr gb P.who.length (oA j) R wr)) (fun _ p _ => ((P.who.length : Int) - intOf p).toNat)
  case atStart => exact ⟨0, _, Nat.zero_le _, rfl, by have e : oA 0 = fun _ => 0 := (by funext t; simp [oA]); rw [e]; exact hT⟩
  case round =>
    clear hT
    obtain ⟨j, R, hj, rfl, hT⟩ := hrel
    by_cases hlt : j < P.who.length
    · have hlt' : (j : Int) < (P.who.length : Int) := by omega
      have hj0 : ¬ (j : Int) < 0 := by omega
      have cO := hT.out.cO hlt
      have fO := hT.out.ord.frozenAt j
      have hT1 := hide' (hT.out.setO j (j : Int))
      rw [oA_set] at hT1
      have K1 := hide' (fun V hV => KM.out j V hlt hV)
      have K2 := hide' (KO.out j)
      have K3 := hide' (KR.out j)
      have hl9 := hlr'.out j
      clear hT KM KO KR hlr'
      generalize mayP P j = my at *
      generalize (M.nums my).length = z at *
      generalize (rulN P.rules (j : Int)).length = rn at *
      obtain ⟨zm, hzm⟩ : ∃ x, x = z * 33 := ⟨_, rfl⟩
      have hwm : IntKind.i64.wrap ((z : Int) * 33) = (zm : Int) := by rw [show ((z : Int) * 33) = ((z * 33 : Nat) : Int) by simp, ← hzm, IntKind.wrap_i64]; omega
      obtain ⟨zz, hzz⟩ : ∃ x : Int, x = (zm : Int) - (rn : Int) := ⟨_, rfl⟩
      have hws : IntKind.i64.wrap ((zm : Int) - (rn : Int)) = zz := by rw [IntKind.wrap_i64]; omega
      clear hzz hzm hl9
      go_upto_region 6 with fail
      generalize wr.setCell ⟨gd, j, none⟩ (.int .i64 (j : Int)) = w5 at *
      have hTd := hide' (hT1.out.over (Below.refl _ w5).drew)
      clear hT1 cO fO
      refine wp_region_held_drew (S := (fun V => V.cell? ⟨gb, 0, none⟩ = some (.slice (some ⟨gr, 0, none⟩) P.who.length P.who.length) ∧ V.cell? ⟨w.heap.size, 0, none⟩ = some (.int .i64 P.users) ∧ V.cell? ⟨w.heap.size, 1, none⟩ = some (.slice ow P.who.length cw) ∧ V.cell? ⟨w.heap.size, 2, none⟩ = some (.slice of P.fixed.length cf) ∧ V.cell? ⟨w.heap.size, 3, none⟩ = some (.slice or P.rules.length cr))) (by kernel_rfl) ?_ (fun hHeld => ?_)
      · exact ⟨hTd.out.bx, hTd.out.pb.all⟩
      refine wpAnyH_take (i := 0) (oi := { dst := some 23, op := Op.load 23 (Operand.tmp 4), type := 23, pos := "order.go:17", after := #[], guard := none }) (v := ?_) rfl (by kernel_rfl) (by kernel_rfl) (by kernel_rfl) (fun _ _ _ h => h) (Or.inl ⟨by rfl, ?_⟩) (by assumption) ?_
      rotate_left
      · intro w hSw; (try dsimp only at hSw); go_simp <;> with_reducible rfl
      simp only [Act.put, List.setIfInBounds_toArray, List.set_cons_zero, List.set_cons_succ]
      refine wpAnyH_take (i := 1) (oi := { dst := some 24, op := Op.move (Operand.tmp 5), type := 3, pos := "order.go:17", after := #[], guard := none }) (v := ?_) rfl (by kernel_rfl) (by kernel_rfl) (by kernel_rfl) (fun _ _ _ h => h) (Or.inl ⟨by rfl, ?_⟩) (by assumption) ?_
      rotate_left
      · intro w hSw; (try dsimp only at hSw); go_simp <;> with_reducible rfl
      simp only [Act.put, List.setIfInBounds_toArray, List.set_cons_zero, List.set_cons_succ]
      refine wpAnyH_take (i := 2) (oi := { dst := some 25, op := Op.load 26 (Operand.tmp 1), type := 26, pos := "order.go:17", after := #[], guard := none }) (v := ?_) rfl (by kernel_rfl) (by kernel_rfl) (by kernel_rfl) (fun _ _ _ h => h) (Or.inl ⟨by rfl, ?_⟩) (by assumption) ?_
      rotate_left
      · intro w hSw; (try dsimp only at hSw); go_simp <;> with_reducible rfl
      simp only [Act.put, List.setIfInBounds_toArray, List.set_cons_zero, List.set_cons_succ]
      refine wpAnyH_take (i := 3) (oi := { dst := some 26, op := Op.move (Operand.tmp 5), type := 3, pos := "order.go:17", after := #[], guard := none }) (v := ?_) rfl (by kernel_rfl) (by kernel_rfl) (by kernel_rfl) (fun _ _ _ h => h) (Or.inl ⟨by rfl, ?_⟩) (by assumption) ?_
      rotate_left
      · intro w hSw; (try dsimp only at hSw); go_simp <;> with_reducible rfl
      simp only [Act.put, List.setIfInBounds_toArray, List.set_cons_zero, List.set_cons_succ]
      refine wpAnyH_take (i := 7) (oi := { dst := some 30, op := Op.load 26 (Operand.tmp 1), type := 26, pos := "order.go:17", after := #[], guard := none }) (v := ?_) rfl (by kernel_rfl) (by kernel_rfl) (by kernel_rfl) (fun _ _ _ h => h) (Or.inl ⟨by rfl, ?_⟩) (by assumption) ?_
      rotate_left
      · intro w hSw; (try dsimp only at hSw); go_simp <;> with_reducible rfl
      simp only [Act.put, List.setIfInBounds_toArray, List.set_cons_zero, List.set_cons_succ]
      refine wpAnyH_take (i := 8) (oi := { dst := some 31, op := Op.move (Operand.tmp 5), type := 3, pos := "order.go:17", after := #[], guard := none }) (v := ?_) rfl (by kernel_rfl) (by kernel_rfl) (by kernel_rfl) (fun _ _ _ h => h) (Or.inl ⟨by rfl, ?_⟩) (by assumption) ?_
      rotate_left
      · intro w hSw; (try dsimp only at hSw); go_simp <;> with_reducible rfl
      simp only [Act.put, List.setIfInBounds_toArray, List.set_cons_zero, List.set_cons_succ]
      refine wpAnyH_ready (rs := [4]) (by kernel_rfl) (by simp) ?_
      refine AllReadyH.cons (o := { dst := some 27, op := Op.call { callee := Callee.value (Operand.func 48), args := #[Operand.tmp 25, Operand.tmp 26], argTypes := #[26, 3] }, type := 33, pos := "order.go:17", after := #[{ on := 2, ground := Ground.data }, { on := 3, ground := Ground.data }], guard := none }) rfl (fun K hK => ?_) AllReadyH.nil
      go_simp
      go_at_call 48; refine (K1.out _ hTd.out.be).mono ?_; rintro e w6 ⟨rfl, hb6⟩; have hT6 := hide' (hTd.out.over hb6); (try dsimp only)
      refine hK.out _ _ ?_ (fun hHeld => ?_)
      · exact ⟨hT6.out.bx, hT6.out.pb.all⟩
      clear hK K
      try simp only [Act.put, List.setIfInBounds_toArray, List.set_cons_zero, List.set_cons_succ]
      refine wpAnyH_ready (rs := [5]) (by kernel_rfl) (by simp) ?_
      refine AllReadyH.cons (o := { dst := some 28, op := Op.call { callee := Callee.value (Operand.func 47), args := #[Operand.tmp 27], argTypes := #[33] }, type := 3, pos := "order.go:17", after := #[{ on := 4, ground := Ground.data }, { on := 4, ground := Ground.chain }], guard := none }) rfl (fun K hK => ?_) AllReadyH.nil
      go_simp
      go_at_call 47; refine (K2.out _).mono ?_; rintro e w7 ⟨rfl, hw7⟩; subst hw7; (try dsimp only)
      refine hK.out _ _ ?_ (fun hHeld => ?_)
      · exact ⟨hT6.out.bx, hT6.out.pb.all⟩
      clear hK K
      try simp only [Act.put, List.setIfInBounds_toArray, List.set_cons_zero, List.set_cons_succ]
      refine wpAnyH_take (i := 6) (oi := { dst := some 29, op := Op.binOp BinOp.mul 3 (Operand.tmp 28) (Operand.const (Value.int IntKind.i64 33)) 3, type := 3, pos := "order.go:17", after := #[{ on := 5, ground := Ground.data }], guard := none }) (v := ?_) rfl (by kernel_rfl) (by kernel_rfl) (by kernel_rfl) (fun _ _ _ h => h) (Or.inl ⟨by rfl, ?_⟩) (by assumption) ?_
      rotate_left
      · intro w hSw; (try dsimp only at hSw); go_simp <;> with_reducible rfl
      simp only [Act.put, List.setIfInBounds_toArray, List.set_cons_zero, List.set_cons_succ]
      refine wpAnyH_ready (rs := [9]) (by kernel_rfl) (by simp) ?_
      refine AllReadyH.cons (o := { dst := some 32, op := Op.call { callee := Callee.value (Operand.func 49), args := #[Operand.tmp 30, Operand.tmp 31], argTypes := #[26, 3] }, type := 24, pos := "order.go:17", after := #[{ on := 7, ground := Ground.data }, { on := 8, ground := Ground.data }, { on := 5, ground := Ground.chain }], guard := none }) rfl (fun K hK => ?_) AllReadyH.nil
      go_simp
      go_at_call 49; refine (K3.out _ hT6.out.be).mono ?_; rintro e w8 ⟨o8, c8, rfl, hb8⟩; have hT8 := hide' (hT6.out.over hb8); have cR := hT8.out.cR hlt; have fR := hT8.out.room.frozenAt j; (try dsimp only)
      refine hK.out _ _ ?_ (fun hHeld => ?_)
      · exact ⟨hT8.out.bx, hT8.out.pb.all⟩
      clear hK K
      try simp only [Act.put, List.setIfInBounds_toArray, List.set_cons_zero, List.set_cons_succ]
      refine wpAnyH_take (i := 10) (oi := { dst := some 33, op := Op.call { callee := Callee.builtin Builtin.len, args := #[Operand.tmp 32], argTypes := #[24] }, type := 3, pos := "order.go:17", after := #[{ on := 9, ground := Ground.data }], guard := none }) (v := ?_) rfl (by kernel_rfl) (by kernel_rfl) (by kernel_rfl) (fun _ _ _ h => h) (Or.inl ⟨by rfl, ?_⟩) (by assumption) ?_
      rotate_left
      · intro w hSw; (try dsimp only at hSw); go_simp <;> with_reducible rfl
      simp only [Act.put, List.setIfInBounds_toArray, List.set_cons_zero, List.set_cons_succ]
      refine wpAnyH_take (i := 11) (oi := { dst := some 34, op := Op.binOp BinOp.sub 3 (Operand.tmp 29) (Operand.tmp 33) 3, type := 3, pos := "order.go:17", after := #[{ on := 6, ground := Ground.data }, { on := 10, ground := Ground.data }], guard := none }) (v := ?_) rfl (by kernel_rfl) (by kernel_rfl) (by kernel_rfl) (fun _ _ _ h => h) (Or.inl ⟨by rfl, ?_⟩) (by assumption) ?_
      rotate_left
      · intro w hSw; (try dsimp only at hSw); go_simp <;> with_reducible rfl
      simp only [Act.put, List.setIfInBounds_toArray, List.set_cons_zero, List.set_cons_succ]
      refine wpAnyH_take (i := 12) (oi := { dst := some 35, op := Op.indexAddr 23 (Operand.tmp 23) (Operand.tmp 24), type := 0, pos := "order.go:17", after := #[{ on := 0, ground := Ground.data }, { on := 1, ground := Ground.data }, { on := 0, ground := Ground.phase }, { on := 1, ground := Ground.phase }, { on := 2, ground := Ground.phase }, { on := 3, ground := Ground.phase }, { on := 4, ground := Ground.phase }, { on := 5, ground := Ground.phase }, { on := 6, ground := Ground.phase }, { on := 7, ground := Ground.phase }, { on := 8, ground := Ground.phase }, { on := 9, ground := Ground.phase }, { on := 10, ground := Ground.phase }, { on := 11, ground := Ground.phase }], guard := none }) (v := ?_) rfl (by kernel_rfl) (by kernel_rfl) (by kernel_rfl) (fun _ _ _ h => h) (Or.inl ⟨by rfl, ?_⟩) (by assumption) ?_
      rotate_left
      · intro w hSw; (try dsimp only at hSw); go_simp <;> with_reducible rfl
      simp only [Act.put, List.setIfInBounds_toArray, List.set_cons_zero, List.set_cons_succ]
      refine wpAnyH_ready (rs := [13]) (by kernel_rfl) (by simp) ?_
      refine AllReadyH.cons (o := { dst := none, op := Op.store 3 (Operand.tmp 35) (Operand.tmp 34), type := 0, pos := "order.go:17", after := #[{ on := 12, ground := Ground.data }, { on := 11, ground := Ground.data }, { on := 9, ground := Ground.chain }, { on := 0, ground := Ground.phase }, { on := 1, ground := Ground.phase }, { on := 2, ground := Ground.phase }, { on := 3, ground := Ground.phase }, { on := 4, ground := Ground.phase }, { on := 5, ground := Ground.phase }, { on := 6, ground := Ground.phase }, { on := 7, ground := Ground.phase }, { on := 8, ground := Ground.phase }, { on := 9, ground := Ground.phase }, { on := 10, ground := Ground.phase }, { on := 11, ground := Ground.phase }], guard := none }) rfl (fun K hK => ?_) AllReadyH.nil
      go_simp
      refine hK.out _ _ ?_ (fun hHeld => ?_)
      · exact ⟨(hT8.out.setR j zz).bx, (hT8.out.setR j zz).pb.all⟩
      clear hK K
      try simp only [Act.put, List.setIfInBounds_toArray, List.set_cons_zero, List.set_cons_succ]
      refine wpAnyH_done (by kernel_rfl) ?_ _
      skip
      have hT9 : Hid _ := hT8.out.setR j zz
      clear hT8 hT6 hTd K1 K2 K3 cR fR
      go_wp2
      exact ⟨⟨j + 1, _, by omega, by go_num, hT9⟩, by simp [intOf]; omega⟩
    · obtain rfl : j = P.who.length := by omega
      have hKS : Hid (Calls Tryz.prog 50 #[.slice (some ⟨gd, 0, none⟩) P.who.length P.who.length, .func (.func 51) #[] #[.pointer (some ⟨gb, 0, none⟩)]] wr (SoP wr gd P.who.length (List.range P.who.length))) := by
        refine sortT gd P.who.length _ _ ⟨_, _, _, rfl⟩ wr hn ?_
        by_cases h0 : P.who.length = 0
        · rw [h0]
          exact ins0 gd _ ⟨_, _, _, rfl⟩ wr
        · have hk := hT.out.kinds
          refine insT gd gb gr P.who.length R (List.range P.who.length) wr (by omega) hn (by simp) (fun x hx => List.mem_range.1 hx) (Array.getElem?_eq_some_iff.1 hT.out.box).1 (cell_lt (hT.out.cR (j := 0) (by omega))) hk.1 (fun e => hT.out.ne1 e.symm) (fun k x hx => ?_) hT.out.bx fun t ht => hT.out.cR ht
          have hlt2 := (List.getElem?_eq_some_iff.1 hx).1
          rw [List.length_range] at hlt2
          rw [List.getElem?_range hlt2] at hx
          cases hx
          refine ⟨?_, hT.out.ord.frozenAt k⟩
          rw [hT.out.cO hlt2]
          simp [oA, hlt2]
      have hgd : Hid (w.heap.size + 1 ≤ gd) := own_ge' hT.out.ord rfl
      have hbe := hide' hT.out.be
      clear hT KM KO KR hlr'
      go_wp2_with fail
      refine hKS.out.mono ?_
      rintro e w8 ⟨rfl, L', h1, h2, h3⟩
      have hl : L'.length = P.who.length := by have := h1.out.length_eq; simpa using this
      have hfin : Hid (RowI w8 (.slice (some ⟨gd, 0, none⟩) P.who.length P.who.length) (ints L')) := by
        refine ⟨some ⟨gd, 0, none⟩, P.who.length, by rw [ints_len, hl], ⟨by rw [ints_len, hl]; exact Nat.le_refl _, fun e => by cases e⟩, fun i x hx => ⟨gd, 0, rfl, ?_⟩⟩
        rw [Nat.zero_add]
        unfold ints at hx
        rw [List.getElem?_map] at hx
        cases hy : L'[i]? with
        | none => rw [hy] at hx; cases hx
        | some y =>
          rw [hy] at hx
          cases hx
          exact h2.out i y hy
      have hB8 : Hid (Below w.heap.size w w8) := by
        obtain ⟨e1, e2, e3, e4, e5⟩ := h3.out
        have hg := hgd.out
        exact ⟨e1.trans hbe.out.os, e2.trans hbe.out.tape, e3.trans hbe.out.output, by rw [e4]; exact hbe.out.size, fun k hk => (e5 k (by omega)).trans (hbe.out.block k hk)⟩
      clear hKS h2 h3 hgd hbe hl
      go_wp2
      go_ret
      exact ⟨_, L', rfl, hfin, h1, hB8⟩
end Go.Proofs.YtcancjbpcppecaaGreatDoor.S
namespace Go.Proofs.YtcancjbpcppecaaGreatDoor.S
open Go.RowKit Go.Shelf
/-- Has it a plan? -/
noncomputable def canB (P : Pb) : Bool := @decide (∃ L, holP P L = true) (Classical.propDecidable _)
theorem canB_iff (P : Pb) : canB P = true ↔ ∃ L, holP P L = true := by unfold canB; exact @decide_eq_true_iff _ (Classical.propDecidable _)
theorem canB_no {P : Pb} (h : chkN P ≠ 0) : canB P = false := by
  cases e : canB P with
  | false => rfl
  | true => obtain ⟨L, hL⟩ := (canB_iff P).1 e; exact absurd (holP_of hL).1 h
theorem canB_re {P : Pb} {O : List Nat} (hP : chkN P = 0) (hO : O.Perm (List.range P.who.length)) : canB (reP P O) = canB P := by
  rw [Bool.eq_iff_iff, canB_iff, canB_iff]; exact can_re hP hO
theorem canB_ls {P : Pb} : ∀ {o : Option (List Int)}, LsP P o → canB P = o.isSome
  | none, h => by
    cases e : canB P with
    | false => rfl
    | true => obtain ⟨L, hL⟩ := (canB_iff P).1 e; rw [h L] at hL; cases hL
  | some l, h => (canB_iff P).2 ⟨l, h.1⟩
/-- What one search adds to the gauge at most. -/
def gK (P : Pb) : Nat := cntB P.who.length 0
def gE (P : Pb) : Nat := cntB P.who.length 0 * (P.who.length * P.users.toNat * P.who.length) + P.who.length * P.users.toNat * (P.who.length + P.who.length * P.who.length)
/-- What k searches add to the gauge. -/
def GcB (P : Pb) (k a b c a' b' c' : Nat) : Prop := (chkN P ≠ 0 → a' = a ∧ b' = b ∧ c' = c) ∧ (chkN P = 0 → (a ≤ a' ∧ a' ≤ a + k * gK P) ∧ (b ≤ b' ∧ b' ≤ b + k * (gK P * P.users.toNat)) ∧ (c ≤ c' ∧ c' ≤ c + k * gE P))
theorem GcB.one {P : Pb} {a b c a' b' c' : Nat} (hP : chkN P = 0) (h : GgB P (P.who.length * P.users.toNat * (P.who.length + P.who.length * P.who.length)) a b c a' b' c') : GcB P 1 a b c a' b' c' :=
  ⟨fun q => absurd hP q, fun _ => ⟨⟨h.1.1, by rw [Nat.one_mul]; exact h.1.2⟩, ⟨h.2.1.1, by rw [Nat.one_mul]; exact h.2.1.2⟩, ⟨h.2.2.1, by rw [Nat.one_mul]; unfold gE; have := h.2.2.2; omega⟩⟩⟩
theorem GcB.two {P : Pb} {a b c a' b' c' a2 b2 c2 : Nat} (h : GcB P 1 a b c a' b' c') (k : GcB P 1 a' b' c' a2 b2 c2) : GcB P 2 a b c a2 b2 c2 := by
  refine ⟨fun q => ?_, fun q => ?_⟩
  · obtain ⟨h1, h2, h3⟩ := h.1 q
    obtain ⟨k1, k2, k3⟩ := k.1 q
    omega
  · have h1 := h.2 q
    have k1 := k.2 q
    omega
theorem GcB.up {P : Pb} {a b c a' b' c' : Nat} (h : GcB P 1 a b c a' b' c') : GcB P 2 a b c a' b' c' := by
  refine ⟨h.1, fun q => ?_⟩
  have h1 := h.2 q
  omega
theorem GcB.zero {P : Pb} (hP : chkN P ≠ 0) (a b c : Nat) : GcB P 1 a b c a b c := ⟨fun _ => ⟨rfl, rfl, rfl⟩, fun q => absurd q hP⟩
theorem GcB.re {P : Pb} {O : List Nat} (hO : O.Perm (List.range P.who.length)) {e a b c a' b' c' : Nat} (h : GgB (reP P O) e a b c a' b' c') : GgB P e a b c a' b' c' := by
  have hlw : (reP P O).who.length = P.who.length := by show (reW P O).length = _; unfold reW; rw [List.length_map]; exact re_len hO
  unfold GgB at h
  rw [hlw] at h
  exact h
/-- What one search adds at most, in numbers. -/
theorem gE_le {P : Pb} (h : chkN P = 0) : gK P ≤ 100000000 ∧ gK P * P.users.toNat ≤ 6400000000 ∧ gE P ≤ 1000000000000 := by
  obtain ⟨h12, hU0, hU, _⟩ := chkN_zero h
  have hU' : P.users.toNat ≤ 64 := by omega
  have h1 := cntB_few h12
  have h2 : P.who.length * P.users.toNat ≤ 12 * 64 := Nat.mul_le_mul h12 hU'
  have h3 : P.who.length * P.who.length ≤ 12 * 12 := Nat.mul_le_mul h12 h12
  refine ⟨h1, Nat.mul_le_mul h1 hU', ?_⟩
  have h4 : cntB P.who.length 0 * (P.who.length * P.users.toNat * P.who.length) ≤ 100000000 * (12 * 64 * 12) := Nat.mul_le_mul h1 (Nat.mul_le_mul h2 h12)
  have h5 : P.who.length * P.users.toNat * (P.who.length + P.who.length * P.who.length) ≤ 12 * 64 * (12 + 144) := Nat.mul_le_mul h2 (by omega)
  unfold gE
  omega
theorem GcB.le {P : Pb} {k a b c a' b' c' : Nat} (h : GcB P k a b c a' b' c') (hk : k ≤ 2) : a ≤ a' ∧ a' ≤ a + 2000000000000 ∧ b ≤ b' ∧ b' ≤ b + 2000000000000 ∧ c ≤ c' ∧ c' ≤ c + 2000000000000 := by
  by_cases q : chkN P = 0
  · have h1 := h.2 q
    obtain ⟨e1, e2, e3⟩ := gE_le q
    have f1 : k * gK P ≤ 2 * 100000000 := Nat.mul_le_mul hk e1
    have f2 : k * (gK P * P.users.toNat) ≤ 2 * 6400000000 := Nat.mul_le_mul hk e2
    have f3 : k * gE P ≤ 2 * 1000000000000 := Nat.mul_le_mul hk e3
    omega
  · have h1 := h.1 q
    omega
def CaP (w : World) (P : Pb) (gs a b c : Nat) (e : Ending) (w' : World) : Prop :=
  e = .returned (.bool (canB P)) ∧ ∃ a' b' c', Hid (GgAt w' gs a' b' c') ∧ Hid (GcB P 1 a b c a' b' c') ∧ Hid (M.Fr2 w w' gs gs)
/-- first, its answer in one form. -/
def F1P (w : World) (P : Pb) (gs a b c : Nat) (e : Ending) (w' : World) : Prop :=
  ∃ v, e = .returned (.tuple #[v, .bool (canB P)]) ∧ ∃ a' b' c', Hid (GgAt w' gs a' b' c') ∧ Hid (GcB P 1 a b c a' b' c') ∧ Hid (M.Fr2 w w' gs gs) ∧ Hid (∀ o, LsP P o → (o = none ∧ v = .slice none 0 0) ∨ ∃ l, o = some l ∧ w'.ownsRow w.heap.size 3 1 v l.length (cellsI l))
theorem first1 {P : Pb} {w w' : World} {gs a b c : Nat} {e : Ending} (hP : chkN P = 0) (h : FiP w P gs a b c e w') : F1P w P gs a b c e w' := by
  obtain ⟨⟨a', b', c', h1, h2⟩, h3, h4⟩ := h
  rcases h4 with ⟨rfl, h5⟩ | ⟨v, l, rfl, h5, h6⟩
  · exact ⟨_, by rw [canB_ls h5.out]; rfl, a', b', c', h1, GcB.one hP h2.out, h3, fun o ho => .inl ⟨LsP.one ho h5.out, rfl⟩⟩
  · exact ⟨v, by rw [canB_ls h5.out]; rfl, a', b', c', h1, GcB.one hP h2.out, h3, fun o ho => .inr ⟨l, LsP.one ho h5.out, h6.out⟩⟩
set_option maxRecDepth 100000 in
set_option maxHeartbeats 4000000 in
theorem canF (P : Pb) (wv fv rv : Value) (gs a b c : Nat) (w : World) (h : PbV w P wv fv rv) (hk : Pok P) (hg : GgAt w gs a b c) (hGs : 1 ≤ gs) (ht : M.Tab w) (ha0 : a ≤ 2305843009213693952) (hb0 : b ≤ 2305843009213693952) (hc0 : c ≤ 2305843009213693952) :
    Calls Tryz.prog 11 #[.pointer (some ⟨gs, 0, none⟩), pbV P wv fv rv] w (CaP w P gs a b c) := by
  have hs := h.shape
  have hgl := hg.lt
  have hpV : Hid (PbB (w.alloc (.cells #[.int .i64 P.users, wv, fv, rv] 26)) w.heap.size P wv fv rv) := heap_new w _
  have hbV : Hid (Below w.heap.size w (w.alloc (.cells #[.int .i64 P.users, wv, fv, rv] 26))) := (Below.refl _ w).alloc (Nat.le_refl _) _
  have KC := hide' (checkPF P wv fv rv _ (h.below hbV.out) hk.w hk.f hk.r hk.s hk.b)
  have hnx : Hid (∀ V, Below w.heap.size w V → PbV V P wv fv rv ∧ GgAt V gs a b c ∧ M.Tab V) := fun V hV => ⟨h.below hV, hg.below hV, ht.over hV⟩
  obtain ⟨ow, cw, of, cf, or, cr, rfl, rfl, rfl⟩ := hs
  unfold pbV at KC ⊢
  by_cases hP : chkN P = 0
  · obtain ⟨h12, hU0, hU, hR, hfx, hwo, hru⟩ := chkN_zero hP
    obtain ⟨hfl, hx⟩ := fixB_of hfx hU
    have KT : Hid (∀ V, Below w.heap.size w V → Calls Tryz.prog 26 #[.agg #[.int .i64 P.users, .slice ow P.who.length cw, .slice of P.fixed.length cf, .slice or P.rules.length cr]] V fun e w' => ∃ v O, e = .returned v ∧ Hid (RowI w' v (ints O)) ∧ Hid (O.Perm (List.range P.who.length)) ∧ Hid (Below V.heap.size V w')) := fun V hV => tightF P _ _ _ V (h.below hV) h12 hfl hx hk.b hk.r hk.s
    have KR : Hid (∀ V O v, Below w.heap.size w V → RowI V v (ints O) → O.Perm (List.range P.who.length) → Calls Tryz.prog 25 #[.agg #[.int .i64 P.users, .slice ow P.who.length cw, .slice of P.fixed.length cf, .slice or P.rules.length cr], v] V fun e w' => ∃ va vb vc, e = .returned (.agg #[.int .i64 P.users, va, vb, vc]) ∧ Hid (PbV w' (reP P O) va vb vc) ∧ Hid (Below V.heap.size V w')) := fun V O v hV hv hO =>
      (reorderedF P _ _ _ O v V (h.below hV) hv (by rw [re_len hO]; omega) hk.r hk.s fun t ht => by have := (re_mem hO).1 ht; omega).mono fun e w' ⟨va, vb, vc, h1, h2, h3⟩ => ⟨va, vb, vc, h1, h2, h3⟩
    have KF : Hid (∀ V O va vb vc, Below w.heap.size w V → PbV V (reP P O) va vb vc → O.Perm (List.range P.who.length) → Calls Tryz.prog 24 #[.pointer (some ⟨gs, 0, none⟩), .agg #[.int .i64 P.users, va, vb, vc]] V fun e w' => ∃ v, e = .returned (.tuple #[v, .bool (canB P)]) ∧ Hid (∃ a' b' c', GgAt w' gs a' b' c' ∧ GcB P 1 a b c a' b' c') ∧ Hid (M.Fr2 V w' gs gs)) := fun V O va vb vc hV hQ hO => by
      have hsm : ∀ r ∈ (reP P O).rules, r.steps.length ≤ 1000 := fun r hr => by
        obtain ⟨r', hr', rfl⟩ := List.mem_map.1 (show r ∈ P.rules.map _ from hr)
        have := movJ_len r'.steps (ints O) (ints O).length
        rw [ints_len, re_len hO] at this
        show (movN r'.steps (ints O)).length ≤ 1000
        unfold movN
        rw [ints_len, re_len hO]
        omega
      have hwd : ∀ z ∈ (reP P O).who, z < 18446744073709551616 := fun z hz => by
        obtain ⟨t, ht, rfl⟩ := List.mem_map.1 (show z ∈ O.map _ from hz)
        have hlt := (re_mem hO).1 ht
        exact hk.b _ (by rw [List.getD_eq_getElem?_getD, List.getElem?_eq_getElem hlt]; exact List.getElem_mem hlt)
      refine (firstF (reP P O) va vb vc gs a b c V hQ (chk_reP hP hO) hwd hsm (hg.below hV) hGs (ht.over hV) ha0 hb0 hc0).mono fun e w' hF => ?_
      obtain ⟨⟨a', b', c', g1, g2⟩, g3, g4⟩ := hF
      refine (fun (q : ∃ v, e = .returned (.tuple #[v, .bool (canB P)])) => ?_) ?_
      · obtain ⟨v, hv⟩ := q
        exact ⟨v, hv, ⟨a', b', c', g1.out, GcB.one hP (by
          have hlw : (reP P O).who.length = P.who.length := by show (reW P O).length = _; unfold reW; rw [List.length_map]; exact re_len hO
          have := GcB.re hO g2.out
          rw [hlw] at this
          exact this)⟩, g3⟩
      · rw [← canB_re hP hO]
        rcases g4 with ⟨rfl, h5⟩ | ⟨v, l, rfl, h5, h6⟩
        · exact ⟨_, by rw [canB_ls h5.out]; rfl⟩
        · exact ⟨v, by rw [canB_ls h5.out]; rfl⟩
    rw [hP] at KC
    clear h hk hg ht hP hfx hwo hru hfl hx hnx
    go_enter Tryz.func11, Tryz.ntmps11
    have q := hpV.out.all
    go_wp2_with fail
    refine KC.out.mono ?_
    rintro e w1 ⟨rfl, hb1⟩
    have hB1 : Hid (Below w.heap.size w w1) := hbV.out.trans (hb1.mono hbV.out.size)
    have hp1 := hide' (hpV.out.below hb1)
    have hp1d := hide' (hp1.out.below (Below.refl _ w1).drew)
    have hB1d : Hid (Below w.heap.size w w1.drew) := hB1.out.drew
    clear q KC hb1 hbV hpV
    go_wp2
    go_region_held3 (fun V => V.cell? ⟨w.heap.size, 0, none⟩ = some (.int .i64 P.users) ∧ V.cell? ⟨w.heap.size, 1, none⟩ = some (.slice ow P.who.length cw) ∧ V.cell? ⟨w.heap.size, 2, none⟩ = some (.slice of P.fixed.length cf) ∧ V.cell? ⟨w.heap.size, 3, none⟩ = some (.slice or P.rules.length cr)) (first | (exact hp5.out.all) | (exact hp4.out.all) | (exact hp3.out.all) | (exact hp1d.out.all)) (first | (go_at_call 26; refine (KT.out _ hB1d.out).mono ?_; rintro e w3 ⟨v, O, rfl, hO, hpm, hb3⟩; have hp3 := hide' (hp1d.out.below hb3.out); have hB3 : Hid (Below w.heap.size w w3) := hB1d.out.trans (hb3.out.mono hB1d.out.size)) | (go_at_call 25; refine (KR.out _ O v hB3.out hO.out hpm.out).mono ?_; rintro e w4 ⟨va, vb, vc, rfl, hQ, hb4⟩; have hp4 := hide' (hp3.out.below hb4.out); have hB4 : Hid (Below w.heap.size w w4) := hB3.out.trans (hb4.out.mono hB3.out.size)) | (go_at_call 24; refine (KF.out _ O va vb vc hB4.out hQ.out hpm.out).mono ?_; rintro e w5 ⟨v5, rfl, hG5, hF5⟩; have hp5 : Hid (PbB w5 w.heap.size P (.slice ow P.who.length cw) (.slice of P.fixed.length cf) (.slice or P.rules.length cr)) := (hF5.out.block w.heap.size (Array.getElem?_eq_some_iff.1 hp4.out).1 (by omega) (by omega)).trans hp4.out))
    have hF9 : Hid (M.Fr2 w w5 gs gs) := (M.Fr2.below hB4.out).trans hF5.out
    clear KT KR KF hp1 hp1d hp3 hp4 hp5 hO hpm hQ hF5
    go_wp2
    go_ret
    obtain ⟨a', b', c', g1, g2⟩ := hG5.out
    exact ⟨rfl, a', b', c', g1, g2, hF9⟩
  · have hne : ((chkN P : Int) != 0) = true := by rw [bne_iff_ne]; omega
    have hcb := hide' (canB_no hP)
    have hP' := hide' hP
    generalize chkN P = kk at KC hne
    clear h hk hg ht hP
    go_enter Tryz.func11, Tryz.ntmps11
    have q := hpV.out.all
    go_wp2_with fail
    refine KC.out.mono ?_
    rintro e w1 ⟨rfl, hb1⟩
    have hB1 : Hid (Below w.heap.size w w1) := hbV.out.trans (hb1.mono hbV.out.size)
    clear q KC hb1 hbV hpV
    go_wp2
    go_ret
    exact ⟨ret_bool hcb.out.symm, a, b, c, (hnx.out w1 hB1.out).2.1, GcB.zero hP'.out a b c, M.Fr2.below hB1.out⟩
end Go.Proofs.YtcancjbpcppecaaGreatDoor.S
namespace Go.Proofs.YtcancjbpcppecaaGreatDoor.S
open Go.RowKit Go.Shelf
set_option maxRecDepth 100000 in
theorem newF (w : World) : Calls Tryz.prog 9 #[] w fun e w' => e = .returned (.pointer (some ⟨w.heap.size, 0, none⟩)) ∧ Hid (GgAt w' w.heap.size 0 0 0) ∧ Hid (Below w.heap.size w w') := by
  go_enter Tryz.func9, Tryz.ntmps9
  go_wp2
  go_ret
  refine ⟨rfl, ?_, (Below.refl _ w).alloc (Nat.le_refl _) _⟩
  exact World.rowIs_alloc w #[.int .u64 0, .int .u64 0, .int .u64 0] _ _ fun i hi => by
    have hi : i < 3 := hi
    rcases (show i = 0 ∨ i = 1 ∨ i = 2 by omega) with rfl | rfl | rfl <;> rfl
/-- Rows of words that are not the gauge's. -/
theorem rowW_frame {V W : World} {v : Value} {L : List Nat} {gs : Nat} (h : RowW V v L) (hne : ∀ ad n c, v = .slice (some ad) n c → ad.block ≠ gs) (hk : ∀ k, k < V.heap.size → k ≠ gs → W.heap[k]? = V.heap[k]?) : RowW W v L := by
  obtain ⟨oa, cap, e, e0, hc⟩ := h
  refine ⟨oa, cap, e, e0, fun i z hi => ?_⟩
  obtain ⟨g, o, e1, e2⟩ := hc i z hi
  refine ⟨g, o, e1, ?_⟩
  have h1 := hk g (cell_lt e2) (hne ⟨g, o, none⟩ _ _ (by rw [e, e1]))
  simp only [World.cell?] at e2 ⊢
  rw [h1]; exact e2
theorem rowR_frame {V W : World} {v : Value} {L : List Rl} {gs a b c : Nat} (h : RowR V v L) (hg : GgAt V gs a b c) (hk : ∀ k, k < V.heap.size → k ≠ gs → W.heap[k]? = V.heap[k]?) : RowR W v L := by
  obtain ⟨oa, cap, e, e0, hc⟩ := h
  refine ⟨oa, cap, e, e0, fun i r hi => ?_⟩
  obtain ⟨g, o, sv, e1, e2, e3, e4, e5⟩ := hc i r hi
  have hne : g ≠ gs := fun q => by rw [q] at e2; exact hg.kind e2
  have h1 := hk g (cell_lt e2) hne
  refine ⟨g, o, sv, e1, ?_, ?_, ?_, rowI_frame e5 hg hk⟩ <;> (simp only [World.cell?] at e2 e3 e4 ⊢; rw [h1]; assumption)
theorem pbV_frame {V W : World} {P : Pb} {wv fv rv : Value} {gs a b c : Nat} (h : PbV V P wv fv rv) (hg : GgAt V gs a b c) (hne : ∀ ad n c, wv = .slice (some ad) n c → ad.block ≠ gs) (hf : M.Fr2 V W gs gs) : PbV W P wv fv rv :=
  ⟨rowW_frame h.who hne fun k hk e => hf.block k hk e e, rowI_frame h.fixed hg fun k hk e => hf.block k hk e e, rowR_frame h.rules hg fun k hk e => hf.block k hk e e⟩
theorem tab_frame {V W : World} {gs : Nat} (h : M.Tab V) (hGs : 1 ≤ gs) (hf : M.Fr2 V W gs gs) : M.Tab W := h.fr2 hf hGs hGs
def LeP (w : World) (P : Pb) (gs a b c : Nat) (e : Ending) (w' : World) : Prop :=
  (∃ a' b' c', Hid (GgAt w' gs a' b' c') ∧ Hid (GcB P 2 a b c a' b' c')) ∧ Hid (M.Fr2 w w' gs gs) ∧ ((e = .returned (.tuple #[.slice none 0 0, .bool false]) ∧ Hid (LsP P none)) ∨ ∃ v l, e = .returned (.tuple #[v, .bool true]) ∧ Hid (LsP P (some l)) ∧ Hid (w'.ownsRow w.heap.size 3 1 v l.length (cellsI l)))
theorem can_none {P : Pb} (h : canB P = false) : LsP P none := fun L => by
  cases e : holP P L with
  | false => rfl
  | true => rw [(canB_iff P).2 ⟨L, e⟩] at h; cases h
end Go.Proofs.YtcancjbpcppecaaGreatDoor.S
namespace Go.Proofs.YtcancjbpcppecaaGreatDoor.S
open Go.RowKit Go.Shelf
def wkR : Rl := ⟨1, 0, [0, 1]⟩
def wkP : Pb := ⟨3, [3, 3, 4], [-1, -1, -1], [wkR]⟩
theorem wk_holds : holP wkP [0, 1, 2] = true := by decide +kernel
theorem wk_user {t : Nat} {x : Int} (h : okU wkP t x = true) : x = 0 ∨ x = 1 ∨ x = 2 := by
  unfold okU isU at h
  simp only [Bool.and_eq_true, decide_eq_true_eq] at h
  have h1 : x < 3 := h.1.2
  omega
theorem wk_one {l : List Int} (h : LsP wkP (some l)) : l = [0, 1, 2] := by
  rcases h.2 _ wk_holds with e | e
  · exact e.symm
  · exfalso
    have hl := h.1
    obtain ⟨_, h2, h3, _⟩ := holP_of hl
    have h2 : l.length = 3 := h2
    match l, h2, e, hl, h3 with
    | [a, b, c], _, e, hl, h3 =>
      rcases wk_user (h3 0 a rfl) with rfl | rfl | rfl <;> rcases wk_user (h3 1 b rfl) with rfl | rfl | rfl <;> rcases wk_user (h3 2 c rfl) with rfl | rfl | rfl <;> first | (revert e; decide +kernel) | (revert hl; decide +kernel)
theorem wk_can : canB wkP = true := (canB_iff _).2 ⟨_, wk_holds⟩
theorem wk_ok : Pok wkP := ⟨by decide, by decide, by decide, by decide, by decide⟩
/-- The problem of the runs, as it is written down. -/
theorem wk_mem (V : World) : ∃ W, W = ((((V.alloc (.cells #[.int .u64 3, .int .u64 3, .int .u64 4] 33)).alloc (.cells #[.int .i64 (-1), .int .i64 (-1), .int .i64 (-1)] 3)).alloc (.cells #[.int .i64 0, .int .i64 1] 3)).alloc (.cells #[.int .i64 1, .int .i64 0, .slice (some ⟨V.heap.size + 1 + 1, 0, none⟩) 2 2] 35)).alloc (.cells #[.int .i64 3, .slice (some ⟨V.heap.size, 0, none⟩) 3 3, .slice (some ⟨V.heap.size + 1, 0, none⟩) 3 3, .slice (some ⟨V.heap.size + 1 + 1 + 1, 0, none⟩) 1 1] 26) ∧
    PbV W wkP (.slice (some ⟨V.heap.size, 0, none⟩) 3 3) (.slice (some ⟨V.heap.size + 1, 0, none⟩) 3 3) (.slice (some ⟨V.heap.size + 1 + 1 + 1, 0, none⟩) 1 1) ∧ PbB W (V.heap.size + 1 + 1 + 1 + 1) wkP (.slice (some ⟨V.heap.size, 0, none⟩) 3 3) (.slice (some ⟨V.heap.size + 1, 0, none⟩) 3 3) (.slice (some ⟨V.heap.size + 1 + 1 + 1, 0, none⟩) 1 1) ∧ Below V.heap.size V W := by
  obtain ⟨z1, n1, k1, b1⟩ := alloc_stH V (.cells #[.int .u64 3, .int .u64 3, .int .u64 4] 33) _ rfl
  obtain ⟨z2, n2, k2, b2⟩ := alloc_stH _ (.cells #[.int .i64 (-1), .int .i64 (-1), .int .i64 (-1)] 3) _ z1
  obtain ⟨z3, n3, k3, b3⟩ := alloc_stH _ (.cells #[.int .i64 0, .int .i64 1] 3) _ z2
  obtain ⟨z4, n4, k4, b4⟩ := alloc_stH _ (.cells #[.int .i64 1, .int .i64 0, .slice (some ⟨V.heap.size + 1 + 1, 0, none⟩) 2 2] 35) _ z3
  obtain ⟨z5, n5, k5, b5⟩ := alloc_stH _ (.cells #[.int .i64 3, .slice (some ⟨V.heap.size, 0, none⟩) 3 3, .slice (some ⟨V.heap.size + 1, 0, none⟩) 3 3, .slice (some ⟨V.heap.size + 1 + 1 + 1, 0, none⟩) 1 1] 26) _ z4
  refine ⟨_, rfl, ?_, n5, (((b1.trans (b2.mono (by omega))).trans (b3.mono (by omega))).trans (b4.mono (by omega))).trans (b5.mono (by omega))⟩
  have m1 := k5 _ _ (k4 _ _ (k3 _ _ (k2 _ _ n1)))
  have m2 := k5 _ _ (k4 _ _ (k3 _ _ n2))
  have m3 := k5 _ _ (k4 _ _ n3)
  have m4 := k5 _ _ n4
  generalize ((((V.alloc (.cells #[.int .u64 3, .int .u64 3, .int .u64 4] 33)).alloc (.cells #[.int .i64 (-1), .int .i64 (-1), .int .i64 (-1)] 3)).alloc (.cells #[.int .i64 0, .int .i64 1] 3)).alloc (.cells #[.int .i64 1, .int .i64 0, .slice (some ⟨V.heap.size + 1 + 1, 0, none⟩) 2 2] 35)).alloc (.cells #[.int .i64 3, .slice (some ⟨V.heap.size, 0, none⟩) 3 3, .slice (some ⟨V.heap.size + 1, 0, none⟩) 3 3, .slice (some ⟨V.heap.size + 1 + 1 + 1, 0, none⟩) 1 1] 26) = W at *
  refine ⟨⟨_, _, rfl, ⟨Nat.le_refl _, fun e => by cases e⟩, fun i z hz => ⟨_, _, rfl, ?_⟩⟩, ⟨_, _, rfl, ⟨Nat.le_refl _, fun e => by cases e⟩, fun i z hz => ⟨_, _, rfl, ?_⟩⟩, ⟨_, _, rfl, ⟨Nat.le_refl _, fun e => by cases e⟩, fun i r hr => ?_⟩⟩
  · match i, hz with
    | 0, hz => cases hz; simp [World.cell?, m1]
    | 1, hz => cases hz; simp [World.cell?, m1]
    | 2, hz => cases hz; simp [World.cell?, m1]
    | i + 3, hz => simp [wkP] at hz
  · match i, hz with
    | 0, hz => cases hz; simp [World.cell?, m2]
    | 1, hz => cases hz; simp [World.cell?, m2]
    | 2, hz => cases hz; simp [World.cell?, m2]
    | i + 3, hz => simp [wkP] at hz
  · match i, hr with
    | 0, hr =>
      cases hr
      refine ⟨_, _, .slice (some ⟨V.heap.size + 1 + 1, 0, none⟩) 2 2, rfl, by simp [World.cell?, m4, wkR], by simp [World.cell?, m4, wkR], by simp [World.cell?, m4], ⟨_, _, rfl, ⟨Nat.le_refl _, fun e => by cases e⟩, fun j z hz => ⟨_, _, rfl, ?_⟩⟩⟩
      match j, hz with
      | 0, hz => cases hz; simp [World.cell?, m3]
      | 1, hz => cases hz; simp [World.cell?, m3]
      | j + 2, hz => simp [wkR] at hz
    | i + 1, hr => simp [wkP] at hr
theorem row_012 (V : World) : RowI (V.alloc (.cells #[.int .i64 0, .int .i64 1, .int .i64 2] 3)) (.slice (some ⟨V.heap.size, 0, none⟩) 3 3) [0, 1, 2] := by
  have n3 := heap_new V (.cells #[.int .i64 0, .int .i64 1, .int .i64 2] 3)
  generalize V.alloc (.cells #[.int .i64 0, .int .i64 1, .int .i64 2] 3) = W at *
  refine ⟨_, _, rfl, ⟨Nat.le_refl _, fun e => by cases e⟩, fun i z hz => ⟨_, _, rfl, ?_⟩⟩
  match i, hz with
  | 0, hz => cases hz; simp [World.cell?, n3]
  | 1, hz => cases hz; simp [World.cell?, n3]
  | 2, hz => cases hz; simp [World.cell?, n3]
  | i + 3, hz => simp at hz
/-- What stands between the calls. -/
structure WkS (w : World) (gs gp : Nat) (wv fv rv v : Value) (a b c : Nat) (V : World) : Prop where
  pv : PbV V wkP wv fv rv
  pb : PbB V gp wkP wv fv rv
  gg : GgAt V gs a b c
  tab : M.Tab V
  row : RowI V v [0, 1, 2]
  be : Below w.heap.size w V
theorem WkS.over {w : World} {gs gp : Nat} {wv fv rv v : Value} {a b c : Nat} {V V' : World} (h : WkS w gs gp wv fv rv v a b c V) (hb : Below V.heap.size V V') : WkS w gs gp wv fv rv v a b c V' :=
  ⟨h.pv.below hb, h.pb.below hb, h.gg.below hb, h.tab.over hb, h.row.below hb (Nat.le_refl _), h.be.trans (hb.mono h.be.size)⟩
theorem WkS.fr {w : World} {gs gp : Nat} {wv fv rv v : Value} {a b c a' b' c' : Nat} {V V' : World} (h : WkS w gs gp wv fv rv v a b c V) (hf : M.Fr2 V V' gs gs) (hg : GgAt V' gs a' b' c') (hgs : w.heap.size ≤ gs) (hne : ∀ ad n c, wv = .slice (some ad) n c → ad.block ≠ gs) (hgp : gp ≠ gs) (hG : 1 ≤ gs) : WkS w gs gp wv fv rv v a' b' c' V' :=
  ⟨pbV_frame h.pv h.gg hne hf, (hf.block gp (Array.getElem?_eq_some_iff.1 h.pb).1 hgp hgp).trans h.pb, hg, tab_frame h.tab hG hf, rowI_frame h.row h.gg fun k hk e => hf.block k hk e e, hf.new h.be hgs hgs h.be.size⟩
end Go.Proofs.YtcancjbpcppecaaGreatDoor.S
namespace Go.Proofs.YtcancjbpcppecaaGreatDoor.S
open Go.RowKit Go.Shelf
def cutR (r : Rl) : Rl := { r with steps := r.steps.take 20 }
def cutP (P : Pb) : Pb := ⟨P.users, P.who.take 20, P.fixed.take 20, (P.rules.take 40).map cutR⟩
theorem take_end {α : Type} {L : List α} {j k : Nat} (hj : j ≤ k) (h : ¬ (j < L.length ∧ j < k)) (hl : j ≤ L.length) : L.take j = L.take k := by
  rcases Nat.lt_or_ge j k with h1 | h1
  · have h2 : j = L.length := by
      rcases Nat.lt_or_ge j L.length with q | q
      · exact absurd ⟨q, h1⟩ h
      · omega
    rw [List.take_of_length_le (by omega), List.take_of_length_le (by omega)]
  · rw [show j = k by omega]
theorem owns_lowT {B B' : Nat} {W : World} {v : Value} {E : List (Rl × Value)} (h : TwS B W v E) (hB : B' ≤ B) : TwS B' W v E := ⟨owns_lowS h.row hB, fun p hp => owns_lowS (h.inner p hp) hB⟩
theorem Rq.fin {w : World} {P : Pb} {wv fv rv : Value} {W : World} {ba bb bc va vb vc : Value} {L1 : List Nat} {L2 : List Int} {E : List (Rl × Value)} (h : Rq w P wv fv rv W ba bb bc va vb vc L1 L2 E) (oa : Option Addr) (na ca : Nat) (ob : Option Addr) (nb cb : Nat) (oc : Option Addr) (nc cc : Nat) :
    let W' := (((W.setCell ⟨w.heap.size + 1, 0, none⟩ (.int .i64 P.users)).setCell ⟨w.heap.size + 1, 1, none⟩ (.slice oa na ca)).setCell ⟨w.heap.size + 1, 2, none⟩ (.slice ob nb cb)).setCell ⟨w.heap.size + 1, 3, none⟩ (.slice oc nc cc)
    W'.ownsRow w.heap.size 33 1 va L1.length (cellsW L1) ∧ W'.ownsRow w.heap.size 3 1 vb L2.length (cellsI L2) ∧ TwS w.heap.size W' vc E ∧ Below w.heap.size w W' := by
  intro W'
  have ss : ∀ {V : World}, TwS (w.heap.size + 3) V vc E → ∀ (o : Nat) (u : Value), TwS (w.heap.size + 3) (V.setCell ⟨w.heap.size + 1, o, none⟩ u) vc E := fun h o u => ⟨own_set h.row (by omega) u, fun p hp => own_set (h.inner p hp) (by omega) u⟩
  refine ⟨owns_lowS (own_set (o := 3) (own_set (o := 2) (own_set (o := 1) (own_set (o := 0) h.r1 (by omega) _) (by omega) _) (by omega) _) (by omega) _) (by omega), owns_lowS (own_set (o := 3) (own_set (o := 2) (own_set (o := 1) (own_set (o := 0) h.r2 (by omega) _) (by omega) _) (by omega) _) (by omega) _) (by omega), owns_lowT (ss (ss (ss (ss h.r3 0 _) 1 _) 2 _) 3 _) (by omega), ?_⟩
  exact (((h.be.setCell (p := ⟨w.heap.size + 1, 0, none⟩) (Nat.le_succ _) _).setCell (p := ⟨w.heap.size + 1, 1, none⟩) (Nat.le_succ _) _).setCell (p := ⟨w.heap.size + 1, 2, none⟩) (Nat.le_succ _) _).setCell (p := ⟨w.heap.size + 1, 3, none⟩) (Nat.le_succ _) _
/-- What is cut is new memory. -/
def CuP (w : World) (P : Pb) (e : Ending) (w' : World) : Prop :=
  ∃ va vb vc E, e = .returned (.agg #[.int .i64 P.users, va, vb, vc]) ∧ Hid (w'.ownsRow w.heap.size 33 1 va (P.who.take 20).length (cellsW (P.who.take 20)) ∧ w'.ownsRow w.heap.size 3 1 vb (P.fixed.take 20).length (cellsI (P.fixed.take 20)) ∧ TwS w.heap.size w' vc E ∧ E.map Prod.fst = (P.rules.take 40).map cutR) ∧ Hid (Below w.heap.size w w')
set_option maxRecDepth 100000 in
set_option maxHeartbeats 8000000 in
theorem cutF (P : Pb) (wv fv rv : Value) (w : World) (h : PbV w P wv fv rv) :
    Calls Tryz.prog 4 #[pbV P wv fv rv] w (CuP w P) := by
  have hs := h.shape
  have h' := hide' h
  obtain ⟨ow, cw, of, cf, or, cr, rfl, rfl, rfl⟩ := hs
  unfold pbV
  have hst := hide' (Rq.start w P (.slice ow P.who.length cw) (.slice of P.fixed.length cf) (.slice or P.rules.length cr))
  clear h
  go_enter Tryz.func4, Tryz.ntmps4
  go_upto_block 0 with fail
  go_cut [4] from 13 to 33 (fun s wx => ∃ va, Hid (Rq w P (.slice ow P.who.length cw) (.slice of P.fixed.length cf) (.slice or P.rules.length cr) wx va (.slice none 0 0) (.slice none 0 0) va (.slice none 0 0) (.slice none 0 0) (P.who.take 20) [] []))
  case first =>
    as_aux_lemma =>
    go_wp2_with fail
    go_loopw [4] (fun p wr => ∃ (j : Nat) (va : Value), j ≤ P.who.length ∧ j ≤ 20 ∧ p = .int .i64 (j : Int) ∧ Hid (Rq w P (.slice ow P.who.length cw) (.slice of P.fixed.length cf) (.slice or P.rules.length cr) wr va (.slice none 0 0) (.slice none 0 0) va (.slice none 0 0) (.slice none 0 0) (P.who.take j) [] [])) (fun p _ => (20 - intOf p).toNat)
    case atStart => exact ⟨0, _, Nat.zero_le _, Nat.zero_le _, rfl, hst⟩
    case round =>
      clear hst
      obtain ⟨j, va, hj, hj20, rfl, hR⟩ := hrel
      have p1 := hR.out.pb.c1
      by_cases hlt : j < P.who.length ∧ j < 20
      · have hlt' : (j : Int) < (P.who.length : Int) := by omega
        have hl2 : (j : Int) < 20 := by omega
        obtain ⟨z, hz⟩ : ∃ z, P.who[j]? = some z := ⟨_, List.getElem?_eq_getElem hlt.1⟩
        obtain ⟨oa1, ca1, e1, _, hcw⟩ := h'.out.who
        cases e1
        obtain ⟨g1, o1, rfl, d1⟩ := hcw j z hz
        have hlen : (P.who.take j).length ≤ 1000 := by rw [List.length_take]; omega
        obtain ⟨oa, ca, rfl⟩ := own_shp hR.out.r1
        have hLa2 : Hid (P.who.take j ++ [z] = P.who.take (j + 1)) := by show _ = _; rw [List.take_add_one, hz]; rfl
        have c1' : Hid (∀ V, Below w.heap.size w V → V.cell? ⟨g1, o1 + j, none⟩ = some (.int .u64 (z : Int))) := fun V hV => M.cell_over d1 hV
        generalize hLa : P.who.take j = La at *
        have hRd := hide' (hR.out.over (Below.refl _ wr).drew)
        have hq1 := hRd.out.qb.c1
        have hq2 : ∀ o, (wr.alloc o).cell? ⟨w.heap.size + 1 + 1, 1, none⟩ = some (.slice oa La.length ca) := fun o => (hRd.out.over ((Below.refl _ wr.drew).alloc (Nat.le_refl _) o)).qb.c1
        have hj0 : ¬ (j : Int) < 0 := by omega
        clear hR h' hLa hz d1 hcw
        go_upto_region 5 with fail
        refine wp_region_held_drew (S := (fun V => V.cell? ⟨w.heap.size, 1, none⟩ = some (.slice (some ⟨g1, o1, none⟩) P.who.length cw) ∧ V.cell? ⟨g1, o1 + j, none⟩ = some (.int .u64 (z : Int)))) (by kernel_rfl) ?_ (fun hHeld => ?_)
        · exact ⟨hRd.out.pb.c1, c1'.out _ hRd.out.be⟩
        refine wpAnyH_take (i := 0) (oi := { dst := some 24, op := Op.fieldAddr 26 (Operand.tmp 3) 1, type := 0, pos := "law.go:16", after := #[], guard := none }) (v := ?_) rfl (by kernel_rfl) (by kernel_rfl) (by kernel_rfl) (fun _ _ _ h => h) (Or.inl ⟨by rfl, ?_⟩) (by assumption) ?_
        rotate_left
        · intro w hSw; (try dsimp only at hSw); go_simp <;> with_reducible rfl
        simp only [Act.put, List.setIfInBounds_toArray, List.set_cons_zero, List.set_cons_succ]
        refine wpAnyH_take (i := 2) (oi := { dst := some 26, op := Op.fieldAddr 26 (Operand.tmp 1) 1, type := 0, pos := "law.go:16", after := #[], guard := none }) (v := ?_) rfl (by kernel_rfl) (by kernel_rfl) (by kernel_rfl) (fun _ _ _ h => h) (Or.inl ⟨by rfl, ?_⟩) (by assumption) ?_
        rotate_left
        · intro w hSw; (try dsimp only at hSw); go_simp <;> with_reducible rfl
        simp only [Act.put, List.setIfInBounds_toArray, List.set_cons_zero, List.set_cons_succ]
        refine wpAnyH_take (i := 3) (oi := { dst := some 27, op := Op.load 22 (Operand.tmp 26), type := 22, pos := "law.go:16", after := #[{ on := 2, ground := Ground.data }], guard := none }) (v := ?_) rfl (by kernel_rfl) (by kernel_rfl) (by kernel_rfl) (fun _ _ _ h => h) (Or.inl ⟨by rfl, ?_⟩) (by assumption) ?_
        rotate_left
        · intro w hSw; (try dsimp only at hSw); go_simp <;> with_reducible rfl
        simp only [Act.put, List.setIfInBounds_toArray, List.set_cons_zero, List.set_cons_succ]
        refine wpAnyH_take (i := 4) (oi := { dst := some 28, op := Op.move (Operand.tmp 4), type := 3, pos := "law.go:16", after := #[], guard := none }) (v := ?_) rfl (by kernel_rfl) (by kernel_rfl) (by kernel_rfl) (fun _ _ _ h => h) (Or.inl ⟨by rfl, ?_⟩) (by assumption) ?_
        rotate_left
        · intro w hSw; (try dsimp only at hSw); go_simp <;> with_reducible rfl
        simp only [Act.put, List.setIfInBounds_toArray, List.set_cons_zero, List.set_cons_succ]
        refine wpAnyH_take (i := 5) (oi := { dst := some 29, op := Op.indexAddr 22 (Operand.tmp 27) (Operand.tmp 28), type := 0, pos := "law.go:16", after := #[{ on := 3, ground := Ground.data }, { on := 4, ground := Ground.data }], guard := none }) (v := ?_) rfl (by kernel_rfl) (by kernel_rfl) (by kernel_rfl) (fun _ _ _ h => h) (Or.inl ⟨by rfl, ?_⟩) (by assumption) ?_
        rotate_left
        · intro w hSw; (try dsimp only at hSw); go_simp <;> with_reducible rfl
        simp only [Act.put, List.setIfInBounds_toArray, List.set_cons_zero, List.set_cons_succ]
        refine wpAnyH_take (i := 6) (oi := { dst := some 30, op := Op.load 33 (Operand.tmp 29), type := 33, pos := "law.go:16", after := #[{ on := 5, ground := Ground.data }], guard := none }) (v := ?_) rfl (by kernel_rfl) (by kernel_rfl) (by kernel_rfl) (fun _ _ _ h => h) (Or.inl ⟨by rfl, ?_⟩) (by assumption) ?_
        rotate_left
        · intro w hSw; (try dsimp only at hSw); go_simp <;> with_reducible rfl
        simp only [Act.put, List.setIfInBounds_toArray, List.set_cons_zero, List.set_cons_succ]
        refine wpAnyH_ready (rs := [1, 7]) (by kernel_rfl) (by simp) ?_
        refine AllReadyH.cons (o := { dst := some 25, op := Op.load 22 (Operand.tmp 24), type := 22, pos := "law.go:16", after := #[{ on := 0, ground := Ground.data }], guard := none }) rfl (fun K hK => ?_) ?_
        · skip
          go_simp
          refine hK.out _ _ ?_ (fun hHeld => ?_)
          · exact ⟨hRd.out.pb.c1, c1'.out _ hRd.out.be⟩
          clear hK K
          try simp only [Act.put, List.setIfInBounds_toArray, List.set_cons_zero, List.set_cons_succ]
          refine wpAnyH_ready (rs := [7]) (by kernel_rfl) (by simp) ?_
          refine AllReadyH.cons (o := { dst := some 31, op := Op.buildSlice 22 1 #[(0, Operand.tmp 30)], type := 22, pos := "law.go:16", after := #[{ on := 6, ground := Ground.data }], guard := none }) rfl (fun K hK => ?_) AllReadyH.nil
          go_simp
          refine hK.out _ _ ?_ (fun hHeld => ?_)
          · exact ⟨(hRd.out.over ((Below.refl _ _).alloc (Nat.le_refl _) _)).pb.c1, c1'.out _ (hRd.out.over ((Below.refl _ _).alloc (Nat.le_refl _) _)).be⟩
          clear hK K
          try simp only [Act.put, List.setIfInBounds_toArray, List.set_cons_zero, List.set_cons_succ]
          refine wpAnyH_ready (rs := [8]) (by kernel_rfl) (by simp) ?_
          refine AllReadyH.cons (o := { dst := some 32, op := Op.call { callee := Callee.builtin Builtin.append, args := #[Operand.tmp 25, Operand.tmp 31], argTypes := #[22, 22] }, type := 22, pos := "law.go:16", after := #[{ on := 1, ground := Ground.data }, { on := 7, ground := Ground.data }], guard := none }) rfl (fun K hK => ?_) AllReadyH.nil
          rw [if_pos (by rfl)]
          refine Rq.wapp1 (.tmp 25) (.tmp 31) hRd.out z rfl rfl rfl (by omega) ?_; intro o5 n5 c5 w2 hRdx; have q2 := hRdx.qb.c1; have f2 := hRdx.qb.frz 1; (try dsimp only)
          refine hK.out _ _ ?_ (fun hHeld => ?_)
          · exact ⟨hRdx.pb.c1, c1'.out _ hRdx.be⟩
          clear hK K
          try simp only [Act.put, List.setIfInBounds_toArray, List.set_cons_zero, List.set_cons_succ]
          refine wpAnyH_take (i := 9) (oi := { dst := some 33, op := Op.fieldAddr 26 (Operand.tmp 3) 1, type := 0, pos := "law.go:16", after := #[{ on := 0, ground := Ground.phase }, { on := 1, ground := Ground.phase }, { on := 2, ground := Ground.phase }, { on := 3, ground := Ground.phase }, { on := 4, ground := Ground.phase }, { on := 5, ground := Ground.phase }, { on := 6, ground := Ground.phase }, { on := 7, ground := Ground.phase }, { on := 8, ground := Ground.phase }], guard := none }) (v := ?_) rfl (by kernel_rfl) (by kernel_rfl) (by kernel_rfl) (fun _ _ _ h => h) (Or.inl ⟨by rfl, ?_⟩) (by assumption) ?_
          rotate_left
          · intro w hSw; (try dsimp only at hSw); go_simp <;> with_reducible rfl
          simp only [Act.put, List.setIfInBounds_toArray, List.set_cons_zero, List.set_cons_succ]
          refine wpAnyH_ready (rs := [10]) (by kernel_rfl) (by simp) ?_
          refine AllReadyH.cons (o := { dst := none, op := Op.store 22 (Operand.tmp 33) (Operand.tmp 32), type := 0, pos := "law.go:16", after := #[{ on := 9, ground := Ground.data }, { on := 8, ground := Ground.data }, { on := 8, ground := Ground.chain }, { on := 0, ground := Ground.phase }, { on := 1, ground := Ground.phase }, { on := 2, ground := Ground.phase }, { on := 3, ground := Ground.phase }, { on := 4, ground := Ground.phase }, { on := 5, ground := Ground.phase }, { on := 6, ground := Ground.phase }, { on := 7, ground := Ground.phase }, { on := 8, ground := Ground.phase }], guard := none }) rfl (fun K hK => ?_) AllReadyH.nil
          go_simp
          refine hK.out _ _ ?_ (fun hHeld => ?_)
          · exact ⟨(hRdx.put (hRdx.qb.s1 (.slice o5 n5 c5))).pb.c1, c1'.out _ (hRdx.put (hRdx.qb.s1 (.slice o5 n5 c5))).be⟩
          clear hK K
          try simp only [Act.put, List.setIfInBounds_toArray, List.set_cons_zero, List.set_cons_succ]
          refine wpAnyH_done (by kernel_rfl) ?_ _
          skip
          have hR9 : Hid (Rq w P (.slice (some ⟨g1, o1, none⟩) P.who.length cw) (.slice of P.fixed.length cf) (.slice or P.rules.length cr) (w2.setCell ⟨w.heap.size + 1 + 1, 1, none⟩ (.slice o5 n5 c5)) (.slice o5 n5 c5) (.slice none 0 0) (.slice none 0 0) (.slice o5 n5 c5) (.slice none 0 0) (.slice none 0 0) (P.who.take (j + 1)) [] []) := by
            have h9 := hRdx.put (hRdx.qb.s1 (.slice o5 n5 c5))
            rw [hLa2.out] at h9
            exact h9
          clear hRdx hRd hLa2 q2 f2 hq1 hq2
          go_wp2
          exact ⟨⟨j + 1, _, by omega, by omega, by go_num, hR9⟩, by simp [intOf]; omega⟩
        refine AllReadyH.cons (o := { dst := some 31, op := Op.buildSlice 22 1 #[(0, Operand.tmp 30)], type := 22, pos := "law.go:16", after := #[{ on := 6, ground := Ground.data }], guard := none }) rfl (fun K hK => ?_) AllReadyH.nil
        go_simp
        refine hK.out _ _ ?_ (fun hHeld => ?_)
        · exact ⟨(hRd.out.over ((Below.refl _ _).alloc (Nat.le_refl _) _)).pb.c1, c1'.out _ (hRd.out.over ((Below.refl _ _).alloc (Nat.le_refl _) _)).be⟩
        clear hK K
        try simp only [Act.put, List.setIfInBounds_toArray, List.set_cons_zero, List.set_cons_succ]
        refine wpAnyH_ready (rs := [1]) (by kernel_rfl) (by simp) ?_
        refine AllReadyH.cons (o := { dst := some 25, op := Op.load 22 (Operand.tmp 24), type := 22, pos := "law.go:16", after := #[{ on := 0, ground := Ground.data }], guard := none }) rfl (fun K hK => ?_) AllReadyH.nil
        go_simp
        refine hK.out _ _ ?_ (fun hHeld => ?_)
        · exact ⟨(hRd.out.over ((Below.refl _ _).alloc (Nat.le_refl _) _)).pb.c1, c1'.out _ (hRd.out.over ((Below.refl _ _).alloc (Nat.le_refl _) _)).be⟩
        clear hK K
        try simp only [Act.put, List.setIfInBounds_toArray, List.set_cons_zero, List.set_cons_succ]
        refine wpAnyH_ready (rs := [8]) (by kernel_rfl) (by simp) ?_
        refine AllReadyH.cons (o := { dst := some 32, op := Op.call { callee := Callee.builtin Builtin.append, args := #[Operand.tmp 25, Operand.tmp 31], argTypes := #[22, 22] }, type := 22, pos := "law.go:16", after := #[{ on := 1, ground := Ground.data }, { on := 7, ground := Ground.data }], guard := none }) rfl (fun K hK => ?_) AllReadyH.nil
        rw [if_pos (by rfl)]
        refine Rq.wapp1 (.tmp 25) (.tmp 31) hRd.out z rfl rfl rfl (by omega) ?_; intro o5 n5 c5 w2 hRdx; have q2 := hRdx.qb.c1; have f2 := hRdx.qb.frz 1; (try dsimp only)
        refine hK.out _ _ ?_ (fun hHeld => ?_)
        · exact ⟨hRdx.pb.c1, c1'.out _ hRdx.be⟩
        clear hK K
        try simp only [Act.put, List.setIfInBounds_toArray, List.set_cons_zero, List.set_cons_succ]
        refine wpAnyH_take (i := 9) (oi := { dst := some 33, op := Op.fieldAddr 26 (Operand.tmp 3) 1, type := 0, pos := "law.go:16", after := #[{ on := 0, ground := Ground.phase }, { on := 1, ground := Ground.phase }, { on := 2, ground := Ground.phase }, { on := 3, ground := Ground.phase }, { on := 4, ground := Ground.phase }, { on := 5, ground := Ground.phase }, { on := 6, ground := Ground.phase }, { on := 7, ground := Ground.phase }, { on := 8, ground := Ground.phase }], guard := none }) (v := ?_) rfl (by kernel_rfl) (by kernel_rfl) (by kernel_rfl) (fun _ _ _ h => h) (Or.inl ⟨by rfl, ?_⟩) (by assumption) ?_
        rotate_left
        · intro w hSw; (try dsimp only at hSw); go_simp <;> with_reducible rfl
        simp only [Act.put, List.setIfInBounds_toArray, List.set_cons_zero, List.set_cons_succ]
        refine wpAnyH_ready (rs := [10]) (by kernel_rfl) (by simp) ?_
        refine AllReadyH.cons (o := { dst := none, op := Op.store 22 (Operand.tmp 33) (Operand.tmp 32), type := 0, pos := "law.go:16", after := #[{ on := 9, ground := Ground.data }, { on := 8, ground := Ground.data }, { on := 8, ground := Ground.chain }, { on := 0, ground := Ground.phase }, { on := 1, ground := Ground.phase }, { on := 2, ground := Ground.phase }, { on := 3, ground := Ground.phase }, { on := 4, ground := Ground.phase }, { on := 5, ground := Ground.phase }, { on := 6, ground := Ground.phase }, { on := 7, ground := Ground.phase }, { on := 8, ground := Ground.phase }], guard := none }) rfl (fun K hK => ?_) AllReadyH.nil
        go_simp
        refine hK.out _ _ ?_ (fun hHeld => ?_)
        · exact ⟨(hRdx.put (hRdx.qb.s1 (.slice o5 n5 c5))).pb.c1, c1'.out _ (hRdx.put (hRdx.qb.s1 (.slice o5 n5 c5))).be⟩
        clear hK K
        try simp only [Act.put, List.setIfInBounds_toArray, List.set_cons_zero, List.set_cons_succ]
        refine wpAnyH_done (by kernel_rfl) ?_ _
        skip
        have hR9 : Hid (Rq w P (.slice (some ⟨g1, o1, none⟩) P.who.length cw) (.slice of P.fixed.length cf) (.slice or P.rules.length cr) (w2.setCell ⟨w.heap.size + 1 + 1, 1, none⟩ (.slice o5 n5 c5)) (.slice o5 n5 c5) (.slice none 0 0) (.slice none 0 0) (.slice o5 n5 c5) (.slice none 0 0) (.slice none 0 0) (P.who.take (j + 1)) [] []) := by
          have h9 := hRdx.put (hRdx.qb.s1 (.slice o5 n5 c5))
          rw [hLa2.out] at h9
          exact h9
        clear hRdx hRd hLa2 q2 f2 hq1 hq2
        go_wp2
        exact ⟨⟨j + 1, _, by omega, by omega, by go_num, hR9⟩, by simp [intOf]; omega⟩
      · have hRe : Hid (Rq w P (.slice ow P.who.length cw) (.slice of P.fixed.length cf) (.slice or P.rules.length cr) wr va (.slice none 0 0) (.slice none 0 0) va (.slice none 0 0) (.slice none 0 0) (P.who.take 20) [] []) := by rw [← take_end hj20 hlt hj]; exact hR
        have hex : ¬ (j : Int) < (P.who.length : Int) ∨ ((j : Int) < (P.who.length : Int) ∧ ¬ (j : Int) < 20) := by omega
        clear hR hlt hj20 hj h'
        rcases hex with hex | ⟨hex, hex2⟩
        all_goals
          go_wp2
          go_meet
          exact ⟨va, hRe⟩
  case rest =>
  obtain ⟨va, hRe⟩ := hcut
  clear hst
  go_upto_block 2 with fail
  go_cut [5] from 34 to 54 (fun s wx => ∃ vb, Hid (Rq w P (.slice ow P.who.length cw) (.slice of P.fixed.length cf) (.slice or P.rules.length cr) wx va vb (.slice none 0 0) va vb (.slice none 0 0) (P.who.take 20) (P.fixed.take 20) []))
  case first =>
    as_aux_lemma =>
    go_wp2_with fail
    go_loopw [5] (fun p wr => ∃ (j : Nat) (vb : Value), j ≤ P.fixed.length ∧ j ≤ 20 ∧ p = .int .i64 (j : Int) ∧ Hid (Rq w P (.slice ow P.who.length cw) (.slice of P.fixed.length cf) (.slice or P.rules.length cr) wr va vb (.slice none 0 0) va vb (.slice none 0 0) (P.who.take 20) (P.fixed.take j) [])) (fun p _ => (20 - intOf p).toNat)
    case atStart => exact ⟨0, _, Nat.zero_le _, Nat.zero_le _, rfl, hRe⟩
    case round =>
      clear hRe
      obtain ⟨j2, vb, hj2, hj20, rfl, hR⟩ := hrel
      have p2 := hR.out.pb.c2
      by_cases hlt : j2 < P.fixed.length ∧ j2 < 20
      · have hlt' : (j2 : Int) < (P.fixed.length : Int) := by omega
        have hl2 : (j2 : Int) < 20 := by omega
        obtain ⟨y, hy⟩ : ∃ y, P.fixed[j2]? = some y := ⟨_, List.getElem?_eq_getElem hlt.1⟩
        obtain ⟨oa2, ca2, e2, _, hcf⟩ := h'.out.fixed
        cases e2
        obtain ⟨g2, o2, rfl, d2⟩ := hcf j2 y hy
        have hlen : (P.fixed.take j2).length ≤ 1000 := by rw [List.length_take]; omega
        obtain ⟨ob, cb, rfl⟩ := own_shp hR.out.r2
        have hLb2 : Hid (P.fixed.take j2 ++ [y] = P.fixed.take (j2 + 1)) := by show _ = _; rw [List.take_add_one, hy]; rfl
        have c2 : Hid (∀ V, Below w.heap.size w V → V.cell? ⟨g2, o2 + j2, none⟩ = some (.int .i64 y)) := fun V hV => M.cell_over d2 hV
        generalize hLb : P.fixed.take j2 = Lb at *
        have hRd := hide' (hR.out.over (Below.refl _ wr).drew)
        have hq1 := hRd.out.qb.c2
        have hq2 : ∀ o, (wr.alloc o).cell? ⟨w.heap.size + 1 + 1, 2, none⟩ = some (.slice ob Lb.length cb) := fun o => (hRd.out.over ((Below.refl _ wr.drew).alloc (Nat.le_refl _) o)).qb.c2
        have hj0 : ¬ (j2 : Int) < 0 := by omega
        clear hR h' hLb hy d2 hcf
        go_upto_region 9 with fail
        refine wp_region_held_drew (S := (fun V => V.cell? ⟨w.heap.size, 2, none⟩ = some (.slice (some ⟨g2, o2, none⟩) P.fixed.length cf) ∧ V.cell? ⟨g2, o2 + j2, none⟩ = some (.int .i64 y))) (by kernel_rfl) ?_ (fun hHeld => ?_)
        · exact ⟨hRd.out.pb.c2, c2.out _ hRd.out.be⟩
        refine wpAnyH_take (i := 0) (oi := { dst := some 45, op := Op.fieldAddr 26 (Operand.tmp 3) 2, type := 0, pos := "law.go:19", after := #[], guard := none }) (v := ?_) rfl (by kernel_rfl) (by kernel_rfl) (by kernel_rfl) (fun _ _ _ h => h) (Or.inl ⟨by rfl, ?_⟩) (by assumption) ?_
        rotate_left
        · intro w hSw; (try dsimp only at hSw); go_simp <;> with_reducible rfl
        simp only [Act.put, List.setIfInBounds_toArray, List.set_cons_zero, List.set_cons_succ]
        refine wpAnyH_take (i := 2) (oi := { dst := some 47, op := Op.fieldAddr 26 (Operand.tmp 1) 2, type := 0, pos := "law.go:19", after := #[], guard := none }) (v := ?_) rfl (by kernel_rfl) (by kernel_rfl) (by kernel_rfl) (fun _ _ _ h => h) (Or.inl ⟨by rfl, ?_⟩) (by assumption) ?_
        rotate_left
        · intro w hSw; (try dsimp only at hSw); go_simp <;> with_reducible rfl
        simp only [Act.put, List.setIfInBounds_toArray, List.set_cons_zero, List.set_cons_succ]
        refine wpAnyH_take (i := 3) (oi := { dst := some 48, op := Op.load 23 (Operand.tmp 47), type := 23, pos := "law.go:19", after := #[{ on := 2, ground := Ground.data }], guard := none }) (v := ?_) rfl (by kernel_rfl) (by kernel_rfl) (by kernel_rfl) (fun _ _ _ h => h) (Or.inl ⟨by rfl, ?_⟩) (by assumption) ?_
        rotate_left
        · intro w hSw; (try dsimp only at hSw); go_simp <;> with_reducible rfl
        simp only [Act.put, List.setIfInBounds_toArray, List.set_cons_zero, List.set_cons_succ]
        refine wpAnyH_take (i := 4) (oi := { dst := some 49, op := Op.move (Operand.tmp 5), type := 3, pos := "law.go:19", after := #[], guard := none }) (v := ?_) rfl (by kernel_rfl) (by kernel_rfl) (by kernel_rfl) (fun _ _ _ h => h) (Or.inl ⟨by rfl, ?_⟩) (by assumption) ?_
        rotate_left
        · intro w hSw; (try dsimp only at hSw); go_simp <;> with_reducible rfl
        simp only [Act.put, List.setIfInBounds_toArray, List.set_cons_zero, List.set_cons_succ]
        refine wpAnyH_take (i := 5) (oi := { dst := some 50, op := Op.indexAddr 23 (Operand.tmp 48) (Operand.tmp 49), type := 0, pos := "law.go:19", after := #[{ on := 3, ground := Ground.data }, { on := 4, ground := Ground.data }], guard := none }) (v := ?_) rfl (by kernel_rfl) (by kernel_rfl) (by kernel_rfl) (fun _ _ _ h => h) (Or.inl ⟨by rfl, ?_⟩) (by assumption) ?_
        rotate_left
        · intro w hSw; (try dsimp only at hSw); go_simp <;> with_reducible rfl
        simp only [Act.put, List.setIfInBounds_toArray, List.set_cons_zero, List.set_cons_succ]
        refine wpAnyH_take (i := 6) (oi := { dst := some 51, op := Op.load 3 (Operand.tmp 50), type := 3, pos := "law.go:19", after := #[{ on := 5, ground := Ground.data }], guard := none }) (v := ?_) rfl (by kernel_rfl) (by kernel_rfl) (by kernel_rfl) (fun _ _ _ h => h) (Or.inl ⟨by rfl, ?_⟩) (by assumption) ?_
        rotate_left
        · intro w hSw; (try dsimp only at hSw); go_simp <;> with_reducible rfl
        simp only [Act.put, List.setIfInBounds_toArray, List.set_cons_zero, List.set_cons_succ]
        refine wpAnyH_ready (rs := [1, 7]) (by kernel_rfl) (by simp) ?_
        refine AllReadyH.cons (o := { dst := some 46, op := Op.load 23 (Operand.tmp 45), type := 23, pos := "law.go:19", after := #[{ on := 0, ground := Ground.data }], guard := none }) rfl (fun K hK => ?_) ?_
        · skip
          go_simp
          refine hK.out _ _ ?_ (fun hHeld => ?_)
          · exact ⟨hRd.out.pb.c2, c2.out _ hRd.out.be⟩
          clear hK K
          try simp only [Act.put, List.setIfInBounds_toArray, List.set_cons_zero, List.set_cons_succ]
          refine wpAnyH_ready (rs := [7]) (by kernel_rfl) (by simp) ?_
          refine AllReadyH.cons (o := { dst := some 52, op := Op.buildSlice 23 1 #[(0, Operand.tmp 51)], type := 23, pos := "law.go:19", after := #[{ on := 6, ground := Ground.data }], guard := none }) rfl (fun K hK => ?_) AllReadyH.nil
          go_simp
          refine hK.out _ _ ?_ (fun hHeld => ?_)
          · exact ⟨(hRd.out.over ((Below.refl _ _).alloc (Nat.le_refl _) _)).pb.c2, c2.out _ (hRd.out.over ((Below.refl _ _).alloc (Nat.le_refl _) _)).be⟩
          clear hK K
          try simp only [Act.put, List.setIfInBounds_toArray, List.set_cons_zero, List.set_cons_succ]
          refine wpAnyH_ready (rs := [8]) (by kernel_rfl) (by simp) ?_
          refine AllReadyH.cons (o := { dst := some 53, op := Op.call { callee := Callee.builtin Builtin.append, args := #[Operand.tmp 46, Operand.tmp 52], argTypes := #[23, 23] }, type := 23, pos := "law.go:19", after := #[{ on := 1, ground := Ground.data }, { on := 7, ground := Ground.data }], guard := none }) rfl (fun K hK => ?_) AllReadyH.nil
          rw [if_pos (by rfl)]
          refine Rq.wapp2 (.tmp 46) (.tmp 52) hRd.out y rfl rfl rfl (by omega) ?_; intro o6 n6 c6 w4 hRdx; have q2 := hRdx.qb.c2; have f2 := hRdx.qb.frz 2; (try dsimp only)
          refine hK.out _ _ ?_ (fun hHeld => ?_)
          · exact ⟨hRdx.pb.c2, c2.out _ hRdx.be⟩
          clear hK K
          try simp only [Act.put, List.setIfInBounds_toArray, List.set_cons_zero, List.set_cons_succ]
          refine wpAnyH_take (i := 9) (oi := { dst := some 54, op := Op.fieldAddr 26 (Operand.tmp 3) 2, type := 0, pos := "law.go:19", after := #[{ on := 0, ground := Ground.phase }, { on := 1, ground := Ground.phase }, { on := 2, ground := Ground.phase }, { on := 3, ground := Ground.phase }, { on := 4, ground := Ground.phase }, { on := 5, ground := Ground.phase }, { on := 6, ground := Ground.phase }, { on := 7, ground := Ground.phase }, { on := 8, ground := Ground.phase }], guard := none }) (v := ?_) rfl (by kernel_rfl) (by kernel_rfl) (by kernel_rfl) (fun _ _ _ h => h) (Or.inl ⟨by rfl, ?_⟩) (by assumption) ?_
          rotate_left
          · intro w hSw; (try dsimp only at hSw); go_simp <;> with_reducible rfl
          simp only [Act.put, List.setIfInBounds_toArray, List.set_cons_zero, List.set_cons_succ]
          refine wpAnyH_ready (rs := [10]) (by kernel_rfl) (by simp) ?_
          refine AllReadyH.cons (o := { dst := none, op := Op.store 23 (Operand.tmp 54) (Operand.tmp 53), type := 0, pos := "law.go:19", after := #[{ on := 9, ground := Ground.data }, { on := 8, ground := Ground.data }, { on := 8, ground := Ground.chain }, { on := 0, ground := Ground.phase }, { on := 1, ground := Ground.phase }, { on := 2, ground := Ground.phase }, { on := 3, ground := Ground.phase }, { on := 4, ground := Ground.phase }, { on := 5, ground := Ground.phase }, { on := 6, ground := Ground.phase }, { on := 7, ground := Ground.phase }, { on := 8, ground := Ground.phase }], guard := none }) rfl (fun K hK => ?_) AllReadyH.nil
          go_simp
          refine hK.out _ _ ?_ (fun hHeld => ?_)
          · exact ⟨(hRdx.put (hRdx.qb.s2 (.slice o6 n6 c6))).pb.c2, c2.out _ (hRdx.put (hRdx.qb.s2 (.slice o6 n6 c6))).be⟩
          clear hK K
          try simp only [Act.put, List.setIfInBounds_toArray, List.set_cons_zero, List.set_cons_succ]
          refine wpAnyH_done (by kernel_rfl) ?_ _
          skip
          have hR9 : Hid (Rq w P (.slice ow P.who.length cw) (.slice (some ⟨g2, o2, none⟩) P.fixed.length cf) (.slice or P.rules.length cr) (w4.setCell ⟨w.heap.size + 1 + 1, 2, none⟩ (.slice o6 n6 c6)) va (.slice o6 n6 c6) (.slice none 0 0) va (.slice o6 n6 c6) (.slice none 0 0) (P.who.take 20) (P.fixed.take (j2 + 1)) []) := by
            have h9 := hRdx.put (hRdx.qb.s2 (.slice o6 n6 c6))
            rw [hLb2.out] at h9
            exact h9
          clear hRdx hRd hLb2 q2 f2 hq1 hq2
          go_wp2
          exact ⟨⟨j2 + 1, _, by omega, by omega, by go_num, hR9⟩, by simp [intOf]; omega⟩
        refine AllReadyH.cons (o := { dst := some 52, op := Op.buildSlice 23 1 #[(0, Operand.tmp 51)], type := 23, pos := "law.go:19", after := #[{ on := 6, ground := Ground.data }], guard := none }) rfl (fun K hK => ?_) AllReadyH.nil
        go_simp
        refine hK.out _ _ ?_ (fun hHeld => ?_)
        · exact ⟨(hRd.out.over ((Below.refl _ _).alloc (Nat.le_refl _) _)).pb.c2, c2.out _ (hRd.out.over ((Below.refl _ _).alloc (Nat.le_refl _) _)).be⟩
        clear hK K
        try simp only [Act.put, List.setIfInBounds_toArray, List.set_cons_zero, List.set_cons_succ]
        refine wpAnyH_ready (rs := [1]) (by kernel_rfl) (by simp) ?_
        refine AllReadyH.cons (o := { dst := some 46, op := Op.load 23 (Operand.tmp 45), type := 23, pos := "law.go:19", after := #[{ on := 0, ground := Ground.data }], guard := none }) rfl (fun K hK => ?_) AllReadyH.nil
        go_simp
        refine hK.out _ _ ?_ (fun hHeld => ?_)
        · exact ⟨(hRd.out.over ((Below.refl _ _).alloc (Nat.le_refl _) _)).pb.c2, c2.out _ (hRd.out.over ((Below.refl _ _).alloc (Nat.le_refl _) _)).be⟩
        clear hK K
        try simp only [Act.put, List.setIfInBounds_toArray, List.set_cons_zero, List.set_cons_succ]
        refine wpAnyH_ready (rs := [8]) (by kernel_rfl) (by simp) ?_
        refine AllReadyH.cons (o := { dst := some 53, op := Op.call { callee := Callee.builtin Builtin.append, args := #[Operand.tmp 46, Operand.tmp 52], argTypes := #[23, 23] }, type := 23, pos := "law.go:19", after := #[{ on := 1, ground := Ground.data }, { on := 7, ground := Ground.data }], guard := none }) rfl (fun K hK => ?_) AllReadyH.nil
        rw [if_pos (by rfl)]
        refine Rq.wapp2 (.tmp 46) (.tmp 52) hRd.out y rfl rfl rfl (by omega) ?_; intro o6 n6 c6 w4 hRdx; have q2 := hRdx.qb.c2; have f2 := hRdx.qb.frz 2; (try dsimp only)
        refine hK.out _ _ ?_ (fun hHeld => ?_)
        · exact ⟨hRdx.pb.c2, c2.out _ hRdx.be⟩
        clear hK K
        try simp only [Act.put, List.setIfInBounds_toArray, List.set_cons_zero, List.set_cons_succ]
        refine wpAnyH_take (i := 9) (oi := { dst := some 54, op := Op.fieldAddr 26 (Operand.tmp 3) 2, type := 0, pos := "law.go:19", after := #[{ on := 0, ground := Ground.phase }, { on := 1, ground := Ground.phase }, { on := 2, ground := Ground.phase }, { on := 3, ground := Ground.phase }, { on := 4, ground := Ground.phase }, { on := 5, ground := Ground.phase }, { on := 6, ground := Ground.phase }, { on := 7, ground := Ground.phase }, { on := 8, ground := Ground.phase }], guard := none }) (v := ?_) rfl (by kernel_rfl) (by kernel_rfl) (by kernel_rfl) (fun _ _ _ h => h) (Or.inl ⟨by rfl, ?_⟩) (by assumption) ?_
        rotate_left
        · intro w hSw; (try dsimp only at hSw); go_simp <;> with_reducible rfl
        simp only [Act.put, List.setIfInBounds_toArray, List.set_cons_zero, List.set_cons_succ]
        refine wpAnyH_ready (rs := [10]) (by kernel_rfl) (by simp) ?_
        refine AllReadyH.cons (o := { dst := none, op := Op.store 23 (Operand.tmp 54) (Operand.tmp 53), type := 0, pos := "law.go:19", after := #[{ on := 9, ground := Ground.data }, { on := 8, ground := Ground.data }, { on := 8, ground := Ground.chain }, { on := 0, ground := Ground.phase }, { on := 1, ground := Ground.phase }, { on := 2, ground := Ground.phase }, { on := 3, ground := Ground.phase }, { on := 4, ground := Ground.phase }, { on := 5, ground := Ground.phase }, { on := 6, ground := Ground.phase }, { on := 7, ground := Ground.phase }, { on := 8, ground := Ground.phase }], guard := none }) rfl (fun K hK => ?_) AllReadyH.nil
        go_simp
        refine hK.out _ _ ?_ (fun hHeld => ?_)
        · exact ⟨(hRdx.put (hRdx.qb.s2 (.slice o6 n6 c6))).pb.c2, c2.out _ (hRdx.put (hRdx.qb.s2 (.slice o6 n6 c6))).be⟩
        clear hK K
        try simp only [Act.put, List.setIfInBounds_toArray, List.set_cons_zero, List.set_cons_succ]
        refine wpAnyH_done (by kernel_rfl) ?_ _
        skip
        have hR9 : Hid (Rq w P (.slice ow P.who.length cw) (.slice (some ⟨g2, o2, none⟩) P.fixed.length cf) (.slice or P.rules.length cr) (w4.setCell ⟨w.heap.size + 1 + 1, 2, none⟩ (.slice o6 n6 c6)) va (.slice o6 n6 c6) (.slice none 0 0) va (.slice o6 n6 c6) (.slice none 0 0) (P.who.take 20) (P.fixed.take (j2 + 1)) []) := by
          have h9 := hRdx.put (hRdx.qb.s2 (.slice o6 n6 c6))
          rw [hLb2.out] at h9
          exact h9
        clear hRdx hRd hLb2 q2 f2 hq1 hq2
        go_wp2
        exact ⟨⟨j2 + 1, _, by omega, by omega, by go_num, hR9⟩, by simp [intOf]; omega⟩
      · have hRe : Hid (Rq w P (.slice ow P.who.length cw) (.slice of P.fixed.length cf) (.slice or P.rules.length cr) wr va vb (.slice none 0 0) va vb (.slice none 0 0) (P.who.take 20) (P.fixed.take 20) []) := by rw [← take_end hj20 hlt hj2]; exact hR
        have hex : ¬ (j2 : Int) < (P.fixed.length : Int) ∨ ((j2 : Int) < (P.fixed.length : Int) ∧ ¬ (j2 : Int) < 20) := by omega
        clear hR hlt hj20 hj2 h'
        rcases hex with hex | ⟨hex, hex2⟩
        all_goals
          go_wp2
          go_meet
          exact ⟨vb, hRe⟩
  case rest =>
  obtain ⟨vb, hRe0⟩ := hcut
  clear hRe
  have hRe := hRe0
  clear hRe0
  go_wp2
  go_loopw [6, 7, 8, 9] (fun p _ _ _ wr => ∃ (j : Nat) (E : List (Rl × Value)) (vc : Value), j ≤ P.rules.length ∧ j ≤ 40 ∧ p = .int .i64 (j : Int) ∧ Hid (E.map Prod.fst = (P.rules.take j).map cutR) ∧ Hid (Rq w P (.slice ow P.who.length cw) (.slice of P.fixed.length cf) (.slice or P.rules.length cr) wr va vb vc va vb vc (P.who.take 20) (P.fixed.take 20) E)) (fun p _ _ _ _ => (40 - intOf p).toNat)
  case atStart => exact ⟨0, [], _, Nat.zero_le _, Nat.zero_le _, rfl, rfl, hRe⟩
  case round =>
    clear hRe
    obtain ⟨j3, E, vc, hj3, hj40, rfl, hE, hR⟩ := hrel
    have p3 := hR.out.pb.c3
    by_cases hlt : j3 < P.rules.length ∧ j3 < 40
    · have hlt' : (j3 : Int) < (P.rules.length : Int) := by omega
      have hl2 : (j3 : Int) < 40 := by omega
      obtain ⟨r, hx⟩ : ∃ r, P.rules[j3]? = some r := ⟨_, List.getElem?_eq_getElem hlt.1⟩
      obtain ⟨oa3, ca3, e3, _, hcr⟩ := h'.out.rules
      cases e3
      obtain ⟨g, o, sv, rfl, d1, d2, d3, d4⟩ := hcr j3 r hx
      have e1 := M.cell_over d1 hR.out.be
      have e2 := M.cell_over d2 hR.out.be
      have e3 := M.cell_over d3 hR.out.be
      have hEl : E.length ≤ 1000 := by
        have := congrArg List.length hE.out
        rw [List.length_map, List.length_map, List.length_take] at this
        omega
      have hE2 : Hid (∀ v : Value, (E ++ [(cutR r, v)]).map Prod.fst = (P.rules.take (j3 + 1)).map cutR) := fun v => by rw [List.map_append, hE.out, List.take_add_one, hx]; simp
      have hbx : Hid (Below wr.heap.size wr (wr.alloc (.cells #[.int .i64 r.kind, .int .i64 r.k, sv] 35))) := (Below.refl _ wr).alloc (Nat.le_refl _) _
      have hnb : Hid ((wr.alloc (.cells #[.int .i64 r.kind, .int .i64 r.k, sv] 35)).heap[wr.heap.size]? = some (.cells #[.int .i64 r.kind, .int .i64 r.k, sv] 35 (0, 0))) := heap_new wr _
      have hRb := hide' (hR.out.over hbx.out)
      have hd4 := hide' (d4.below hRb.out.be (Nat.le_refl _))
      obtain ⟨osv, csv, rfl⟩ : ∃ a c, sv = .slice a r.steps.length c := by obtain ⟨a, c, e, _⟩ := d4; exact ⟨a, c, e⟩
      have hwz : w.heap.size + 3 ≤ wr.heap.size := hR.out.sz
      have hbz : wr.heap.size < (wr.alloc (.cells #[.int .i64 r.kind, .int .i64 r.k, .slice osv r.steps.length csv] 35)).heap.size := by simp
      have hbz' := hide' hbz
      clear d1 d2 d3 d4 hx hE hcr hR hbx hbz h'
      go_upto_block 6 with fail
      clear e1 e2 e3 p3
      generalize wr.alloc (.cells #[.int .i64 r.kind, .int .i64 r.k, .slice osv r.steps.length csv] 35) = Wb at *
      generalize wr.heap.size = wr0 at *
      go_cut [8, 9] from 71 to 89 (fun s _ wx => Hid (wx.ownsRow Wb.heap.size 3 1 s (r.steps.take 20).length (cellsI (r.steps.take 20))) ∧ Hid (Below Wb.heap.size Wb wx))
      case first =>
        as_aux_lemma =>
        go_wp2_with fail
        go_loopw [8, 9] (fun s p wi => ∃ (k : Nat), k ≤ r.steps.length ∧ k ≤ 20 ∧ p = .int .i64 (k : Int) ∧ Hid (wi.ownsRow Wb.heap.size 3 1 s (r.steps.take k).length (cellsI (r.steps.take k))) ∧ Hid (Below Wb.heap.size Wb wi)) (fun _ p _ => (20 - intOf p).toNat)
        case atStart => exact ⟨0, Nat.zero_le _, Nat.zero_le _, rfl, World.ownsRow_nil _ _ _ _, Below.refl _ _⟩
        case round =>
          obtain ⟨k, hk, hk20, rfl, hO, hB⟩ := hrel
          have hb6 : Hid (wr.heap[wr0]? = some (.cells #[.int .i64 r.kind, .int .i64 r.k, .slice osv r.steps.length csv] 35 (0, 0))) := (hB.out.block _ hbz'.out).trans hnb.out
          have k0 : wr.cell? ⟨wr0, 0, none⟩ = some (.int .i64 r.kind) := by have := hb6.out; simp [World.cell?, this]
          have k1 : wr.cell? ⟨wr0, 1, none⟩ = some (.int .i64 r.k) := by have := hb6.out; simp [World.cell?, this]
          have k2 : wr.cell? ⟨wr0, 2, none⟩ = some (.slice osv r.steps.length csv) := by have := hb6.out; simp [World.cell?, this]
          obtain ⟨os8, ns8, cs8, rfl⟩ : ∃ a b c, u8 = .slice a b c := by obtain ⟨a, c, e⟩ := own_shp hO.out; exact ⟨a, _, c, e⟩
          by_cases hlt2 : k < r.steps.length ∧ k < 20
          · have hlt3 : (k : Int) < (r.steps.length : Int) := by omega
            have hl4 : (k : Int) < 20 := by omega
            obtain ⟨z, hz⟩ : ∃ z, r.steps[k]? = some z := ⟨_, List.getElem?_eq_getElem hlt2.1⟩
            obtain ⟨oa8, ca8, e8, _, hcs⟩ := hd4.out
            injection e8 with e8a e8b e8c
            subst e8a
            subst e8c
            obtain ⟨g8, o8, rfl, d8⟩ := hcs k z hz
            have c8 := M.cell_over d8 hB.out
            have hlen : (r.steps.take k).length ≤ 1000 := by rw [List.length_take]; omega
            have hL2 : Hid (r.steps.take k ++ [z] = r.steps.take (k + 1)) := by show _ = _; rw [List.take_add_one, hz]; rfl
            have hBs := hB.out.size
            clear hz d8 hcs e8b hRb hE2 hb6 k0 k1
            generalize r.steps.take k = Ls at *
            go_wp2_with (at_builtin; refine app_intL rfl (.tmp 82) (.tmp 88) Wb.heap.size wr (.slice os8 ns8 cs8) Ls z rfl rfl rfl hO.out hBs (by omega) ?_; intro v2 w2 hO2 hb2; have hO3 := hide' hO2; have hB3 : Hid (Below Wb.heap.size Wb w2) := hB.out.trans hb2; clear hO2 hb2)
            rw [hL2.out] at hO3
            exact ⟨⟨k + 1, by omega, by omega, by go_num, hO3, hB3⟩, by simp [intOf]; omega⟩
          · have hOe : Hid (wr.ownsRow Wb.heap.size 3 1 (.slice os8 ns8 cs8) (r.steps.take 20).length (cellsI (r.steps.take 20))) := by rw [← take_end hk20 hlt2 hk]; exact hO
            have hex : ¬ (k : Int) < (r.steps.length : Int) ∨ ((k : Int) < (r.steps.length : Int) ∧ ¬ (k : Int) < 20) := by omega
            clear hO hlt2 hk20 hk hRb hnb hb6 hd4
            rcases hex with hex | ⟨hex, hex2⟩
            all_goals
              go_wp2
              go_meet
              exact ⟨hOe, hB⟩
      case rest =>
      obtain ⟨hOe, hB⟩ := hcut
      have hb6 : Hid (wc.heap[wr0]? = some (.cells #[.int .i64 r.kind, .int .i64 r.k, .slice osv r.steps.length csv] 35 (0, 0))) := (hB.out.block _ hbz'.out).trans hnb.out
      have k0 : wc.cell? ⟨wr0, 0, none⟩ = some (.int .i64 r.kind) := by have := hb6.out; simp [World.cell?, this]
      have k1 : wc.cell? ⟨wr0, 1, none⟩ = some (.int .i64 r.k) := by have := hb6.out; simp [World.cell?, this]
      obtain ⟨os8, ns8, cs8, hu8⟩ : ∃ a b c, u8 = .slice a b c := by obtain ⟨a, c, e⟩ := own_shp hOe.out; exact ⟨a, _, c, e⟩
      subst hu8
      have hRi := hide' (hRb.out.over hB.out)
      have hown : Hid (wc.ownsRow (w.heap.size + 3) 3 1 ((cutR r, .slice os8 ns8 cs8) : Rl × Value).2 ((cutR r, .slice os8 ns8 cs8) : Rl × Value).1.steps.length (cellsI ((cutR r, .slice os8 ns8 cs8) : Rl × Value).1.steps)) := owns_lowS hOe.out (by have := hbz'.out; omega)
      have l3 := hRi.out.qb.c3
      obtain ⟨ovc, nvc, cvc, rfl⟩ : ∃ a b c, vc = .slice a b c := by obtain ⟨a, c, e⟩ := own_shp hRi.out.r3.row; exact ⟨a, _, c, e⟩
      clear hOe hB hRb hnb hb6 hd4
      go_wp2_with (at_builtin; refine Rq.app3 rfl (.tmp 91) (.tmp 98) hRi.out (cutR r, .slice os8 ns8 cs8) rfl rfl rfl hown.out (by omega) ?_; intro o5 n5 c5 w2 hR2; have hf2 := hR2.qb.frz 3; have hc2 := hR2.qb.c3; have hR3 := hide' (hR2.put (hR2.qb.s3 (.slice o5 n5 c5))); clear hR2)
      exact ⟨⟨j3 + 1, _, _, by omega, by omega, by go_num, hE2.out _, hR3⟩, by simp [intOf]; omega⟩
    · have hex : ¬ (j3 : Int) < (P.rules.length : Int) ∨ ((j3 : Int) < (P.rules.length : Int) ∧ ¬ (j3 : Int) < 40) := by omega
      have hEe : Hid (E.map Prod.fst = (P.rules.take 40).map cutR) := by rw [← take_end hj40 hlt hj3]; exact hE
      obtain ⟨oa, ca, ea⟩ := own_shp hR.out.r1
      obtain ⟨ob, cb, eb⟩ := own_shp hR.out.r2
      obtain ⟨oc, cc, ec⟩ := own_shp hR.out.r3.row
      obtain ⟨na, hna⟩ : ∃ x, x = (P.who.take 20).length := ⟨_, rfl⟩
      obtain ⟨nb, hnb⟩ : ∃ x, x = (P.fixed.take 20).length := ⟨_, rfl⟩
      obtain ⟨nc, hnc⟩ : ∃ x, x = E.length := ⟨_, rfl⟩
      rw [← hna] at ea
      rw [← hnb] at eb
      rw [← hnc] at ec
      subst ea eb ec
      have q0 := hR.out.qb.c0
      have q1 := hR.out.qb.c1
      have q2 := hR.out.qb.c2
      have q3 := hR.out.qb.c3
      have z0 := hR.out.zb.frz 0
      have y0 := hR.out.zb.c0
      have z1 := World.rowIs.frozen (World.rowIs.set hR.out.zb 0 (.int .i64 P.users)) 1
      have y1 := World.rowIs.cell (World.rowIs.set hR.out.zb 0 (.int .i64 P.users)) (i := 1) (by decide)
      have z2 := World.rowIs.frozen (World.rowIs.set (World.rowIs.set hR.out.zb 0 (.int .i64 P.users)) 1 (.slice oa na ca)) 2
      have y2 := World.rowIs.cell (World.rowIs.set (World.rowIs.set hR.out.zb 0 (.int .i64 P.users)) 1 (.slice oa na ca)) (i := 2) (by decide)
      have z3 := World.rowIs.frozen (World.rowIs.set (World.rowIs.set (World.rowIs.set hR.out.zb 0 (.int .i64 P.users)) 1 (.slice oa na ca)) 2 (.slice ob nb cb)) 3
      have y3 := World.rowIs.cell (World.rowIs.set (World.rowIs.set (World.rowIs.set hR.out.zb 0 (.int .i64 P.users)) 1 (.slice oa na ca)) 2 (.slice ob nb cb)) (i := 3) (by decide)
      have hX := World.rowIs.set (World.rowIs.set (World.rowIs.set (World.rowIs.set hR.out.zb 0 (.int .i64 P.users)) 1 (.slice oa na ca)) 2 (.slice ob nb cb)) 3 (.slice oc nc cc)
      have x0 := World.rowIs.cell hX (i := 0) (by decide)
      have x1 := World.rowIs.cell hX (i := 1) (by decide)
      have x2 := World.rowIs.cell hX (i := 2) (by decide)
      have x3 := World.rowIs.cell hX (i := 3) (by decide)
      simp [qF] at y1 y2 y3 x0 x1 x2 x3
      have hfin := hide' (Rq.fin hR.out oa na ca ob nb cb oc nc cc)
      clear hX hR hE hna hnb hnc hlt hj40 hj3
      rcases hex with hex | ⟨hex, hex2⟩
      all_goals
        go_wp2
        refine bodyPost_ret (v := .agg #[.int .i64 P.users, .slice oa na ca, .slice ob nb cb, .slice oc nc cc]) (by simp [results, Tryz.results4, go_sem, x0, x1, x2, x3]) rfl ?_
        exact ⟨_, _, _, E, rfl, ⟨hfin.out.1, hfin.out.2.1, hfin.out.2.2.1, hEe.out⟩, hfin.out.2.2.2⟩
end Go.Proofs.YtcancjbpcppecaaGreatDoor.S
namespace Go.Proofs.YtcancjbpcppecaaGreatDoor.S
open Go.RowKit Go.Shelf
theorem cutR_cut (r : Rl) : cutR (cutR r) = cutR r := by
  unfold cutR
  simp [List.take_take]
theorem cutP_cut (P : Pb) : cutP (cutP P) = cutP P := by
  unfold cutP
  simp only [List.take_take, Nat.min_self, ← List.map_take, List.map_map]
  congr 1
  exact List.map_congr_left fun r _ => cutR_cut r
theorem cutP_ok {P : Pb} (hb : ∀ z ∈ P.who, z < 18446744073709551616) : Pok (cutP P) :=
  ⟨by show (P.who.take 20).length ≤ 1000; rw [List.length_take]; omega, by show (P.fixed.take 20).length ≤ 1000; rw [List.length_take]; omega,
    by show ((P.rules.take 40).map cutR).length ≤ 1000; rw [List.length_map, List.length_take]; omega,
    fun r hr => by
      obtain ⟨q, _, rfl⟩ := List.mem_map.1 (show r ∈ (P.rules.take 40).map cutR from hr)
      show (q.steps.take 20).length ≤ 1000
      rw [List.length_take]; omega,
    fun z hz => hb z (List.mem_of_mem_take (show z ∈ P.who.take 20 from hz))⟩
/-- Cut, as the laws use it. -/
theorem cutA (P : Pb) (wv fv rv : Value) (w : World) (h : PbV w P wv fv rv) :
    Calls Tryz.prog 4 #[pbV P wv fv rv] w fun e w' => ∃ va vb vc, e = .returned (pbV (cutP P) va vb vc) ∧ Hid (PbV w' (cutP P) va vb vc) ∧ Hid (Below w.heap.size w w') := by
  refine (cutF P wv fv rv w h).mono ?_
  rintro e w' ⟨va, vb, vc, E, rfl, hO, hB⟩
  obtain ⟨o1, o2, o3, o4⟩ := hO.out
  refine ⟨va, vb, vc, rfl, ⟨RowW.of_owns o1, RowI.of_owns o2, ?_⟩, hB⟩
  have := o3.rowR
  rw [o4] at this
  exact this
/-- Cut of what was cut. -/
theorem cutB (P : Pb) (wv fv rv : Value) (w : World) (h : PbV w (cutP P) wv fv rv) :
    Calls Tryz.prog 4 #[pbV (cutP P) wv fv rv] w fun e w' => ∃ va vb vc, e = .returned (pbV (cutP P) va vb vc) ∧ Hid (PbV w' (cutP P) va vb vc) ∧ Hid (Below w.heap.size w w') := by
  have := cutA (cutP P) wv fv rv w h
  rw [cutP_cut] at this
  exact this
end Go.Proofs.YtcancjbpcppecaaGreatDoor.S
namespace Go.Proofs.YtcancjbpcppecaaGreatDoor.S
open Go.RowKit Go.Shelf
/-- A row, written over where it is chosen, so far. -/
def sprW {α : Type} (fs : Nat → Bool) (x : α) (L : List α) : Nat → List α
  | 0 => L
  | j + 1 => if fs j = true then (sprW fs x L j).set j x else sprW fs x L j
theorem sprW_len {α : Type} (fs : Nat → Bool) (x : α) (L : List α) (j : Nat) : (sprW fs x L j).length = L.length := by
  induction j with
  | zero => rfl
  | succ j ih => unfold sprW; split <;> simp [ih]
theorem sprW_at {α : Type} (fs : Nat → Bool) (x : α) (L : List α) (j t : Nat) (ht : t < L.length) : (sprW fs x L j)[t]? = if t < j ∧ fs t = true then some x else L[t]? := by
  induction j with
  | zero => rw [if_neg (by omega)]; rfl
  | succ j ih =>
    unfold sprW
    by_cases hf : fs j = true
    · rw [if_pos hf, List.getElem?_set]
      by_cases e : j = t
      · subst e
        rw [if_pos rfl, if_pos (by rw [sprW_len]; exact ht), if_pos ⟨by omega, hf⟩]
      · rw [if_neg e, ih]
        by_cases q : t < j ∧ fs t = true
        · rw [if_pos q, if_pos ⟨by omega, q.2⟩]
        · rw [if_neg q, if_neg (fun r => q ⟨by omega, r.2⟩)]
    · rw [if_neg hf, ih]
      by_cases q : t < j ∧ fs t = true
      · rw [if_pos q, if_pos ⟨by omega, q.2⟩]
      · rw [if_neg q, if_neg (fun r => q ⟨(by have : t ≠ j := fun e => hf (by rw [← e]; exact r.2); omega), r.2⟩)]
/-- The rules that are left, so far. -/
def sprR (fr : Nat → Bool) (R : List Rl) : Nat → List Rl
  | 0 => []
  | k + 1 => sprR fr R k ++ (if fr k = true then [] else (R[k]?).toList)
theorem sprR_mem {fr : Nat → Bool} {R : List Rl} {r : Rl} : ∀ {k : Nat}, r ∈ sprR fr R k ↔ ∃ i, i < k ∧ fr i = false ∧ R[i]? = some r
  | 0 => ⟨(fun h => by cases h), (fun ⟨i, h, _⟩ => by omega)⟩
  | k + 1 => by
    unfold sprR
    rw [List.mem_append, sprR_mem]
    constructor
    · rintro (⟨i, h1, h2, h3⟩ | h)
      · exact ⟨i, by omega, h2, h3⟩
      · split at h
        · cases h
        · rename_i hf
          exact ⟨k, by omega, (by cases q : fr k; rfl; exact absurd q hf), by simpa using h⟩
    · rintro ⟨i, h1, h2, h3⟩
      by_cases e : i = k
      · subst e
        refine .inr ?_
        rw [if_neg (by rw [h2]; decide), h3]
        simp
      · exact .inl ⟨i, by omega, h2, h3⟩
theorem sprR_len (fr : Nat → Bool) (R : List Rl) (k : Nat) : (sprR fr R k).length ≤ k := by
  induction k with
  | zero => exact Nat.le_refl _
  | succ k ih =>
    unfold sprR
    rw [List.length_append]
    split
    · simp; omega
    · cases R[k]? <;> simp <;> omega
/-- All users. -/
def allW (u : Int) : Nat := 2 ^ u.toNat - 1
def spP (P : Pb) (fr fs : Nat → Bool) : Pb := ⟨P.users, sprW fs (allW P.users) P.who P.who.length, sprW fs (-1) P.fixed P.who.length, sprR fr P.rules P.rules.length⟩
theorem spP_wlen (P : Pb) (fr fs : Nat → Bool) : (spP P fr fs).who.length = P.who.length := sprW_len _ _ _ _
theorem spP_flen (P : Pb) (fr fs : Nat → Bool) : (spP P fr fs).fixed.length = P.fixed.length := sprW_len _ _ _ _
theorem mem_sprW {α : Type} {fs : Nat → Bool} {x y : α} {L : List α} {j : Nat} (h : y ∈ sprW fs x L j) : y = x ∨ y ∈ L := by
  obtain ⟨t, ht⟩ := List.getElem?_of_mem h
  have hl := (List.getElem?_eq_some_iff.1 ht).1
  rw [sprW_len] at hl
  rw [sprW_at _ _ _ _ _ hl] at ht
  split at ht
  · injection ht with e; exact .inl e.symm
  · exact .inr (List.mem_of_getElem? ht)
theorem spP_chk {P : Pb} (h : chkN P = 0) (fr fs : Nat → Bool) : chkN (spP P fr fs) = 0 := by
  obtain ⟨g12, g0, g64, g32, gF, gW, gR⟩ := chkN_zero h
  have hp : 0 < 2 ^ P.users.toNat := Nat.pow_pos (by decide)
  refine chkN_ok ?_ ?_
  · rw [spP_wlen]
    have := sprR_len fr P.rules P.rules.length
    show ¬ (12 < P.who.length ∨ 64 < P.users ∨ 32 < (sprR fr P.rules P.rules.length).length)
    omega
  · rintro (q | q | q | q)
    · have q' : P.users < 0 := q
      omega
    · unfold fixB at q gF
      rw [Bool.and_eq_true] at gF
      rw [Bool.and_eq_false_iff] at q
      rcases q with q | q
      · rw [List.all_eq_false] at q
        obtain ⟨x, h1, h2⟩ := q
        rcases mem_sprW h1 with e | e
        · rw [e] at h2; simp at h2
        · exact h2 (List.all_eq_true.1 gF.1 x e)
      · rw [spP_flen, spP_wlen, gF.2] at q
        cases q
    · unfold whoB at q gW
      rw [List.all_eq_false] at q
      obtain ⟨x, h1, h2⟩ := q
      rcases mem_sprW h1 with e | e
      · refine h2 ?_
        rw [e]
        unfold outU
        exact decide_eq_true (Nat.div_eq_of_lt (by show 2 ^ P.users.toNat - 1 < 2 ^ P.users.toNat; omega))
      · exact h2 (List.all_eq_true.1 gW x e)
    · unfold rulB at q gR
      rw [List.all_eq_false] at q
      obtain ⟨r, h1, h2⟩ := q
      obtain ⟨i, _, _, h3⟩ := sprR_mem.1 h1
      have := List.all_eq_true.1 gR r (List.mem_of_getElem? h3)
      rw [spP_wlen] at h2
      exact h2 this
theorem spP_ok {P : Pb} (hk : Pok P) (hU : P.users ≤ 64) (fr fs : Nat → Bool) : Pok (spP P fr fs) := by
  refine ⟨by rw [spP_wlen]; exact hk.w, by rw [spP_flen]; exact hk.f, ?_, fun r hr => ?_, fun z hz => ?_⟩
  · have := sprR_len fr P.rules P.rules.length
    have := hk.r
    show (sprR fr P.rules P.rules.length).length ≤ _
    omega
  · obtain ⟨i, _, _, h3⟩ := sprR_mem.1 hr
    exact hk.s r (List.mem_of_getElem? h3)
  · rcases mem_sprW hz with e | e
    · rw [e]
      have h1 : (2 : Nat) ^ P.users.toNat ≤ 2 ^ 64 := Nat.pow_le_pow_right (by decide) (by omega)
      have h2 : 0 < 2 ^ P.users.toNat := Nat.pow_pos (by decide)
      show 2 ^ P.users.toNat - 1 < 18446744073709551616
      omega
    · exact hk.b z e
/-- Whoever may do a step, may where it is spared. -/
theorem spP_may {P : Pb} (h : chkN P = 0) (fr fs : Nat → Bool) {t : Nat} (ht : t < P.who.length) : mayP (spP P fr fs) t = if fs t = true then allW P.users else mayP P t := by
  obtain ⟨g12, g0, g64, g32, gF, gW, gR⟩ := chkN_zero h
  obtain ⟨gl, _⟩ := fixB_of gF g64
  have h1 := sprW_at fs (allW P.users) P.who P.who.length t ht
  have h2 := sprW_at fs (-1) P.fixed P.who.length t (by omega)
  unfold mayP
  show (if (sprW fs (-1) P.fixed P.who.length).getD t (-1) = -1 then (sprW fs (allW P.users) P.who P.who.length).getD t 0 else 2 ^ ((sprW fs (-1) P.fixed P.who.length).getD t 0).toNat) = _
  simp only [List.getD_eq_getElem?_getD, h1, h2]
  by_cases q : fs t = true
  · simp [ht, q]
  · simp [q]
theorem all_test {u x : Int} (h0 : 0 ≤ x) (h1 : x < u) : (allW u).testBit x.toNat = true := by
  unfold allW
  rw [Nat.testBit_two_pow_sub_one]
  exact decide_eq_true (by omega)
/-- What is a plan stays one where more is spared. -/
theorem spP_mono {P : Pb} (h : chkN P = 0) {fr fs fr' fs' : Nat → Bool} (hr : ∀ i, i < P.rules.length → fr i = true → fr' i = true) (hs : ∀ t, t < P.who.length → fs t = true → fs' t = true) {L : List Int} (hL : holP (spP P fr fs) L = true) : holP (spP P fr' fs') L = true := by
  obtain ⟨_, h2, h3, h4⟩ := holP_of hL
  rw [spP_wlen] at h2
  refine holP_mk (spP_chk h fr' fs') (by rw [spP_wlen]; exact h2) (fun t x hx => ?_) (fun r hr' => ?_)
  · have ht : t < P.who.length := by rw [← h2]; exact (List.getElem?_eq_some_iff.1 hx).1
    have := h3 t x hx
    unfold okU at this ⊢
    rw [Bool.and_eq_true, spP_may h fr fs ht] at this
    have hu : isU (spP P fr' fs') x = true := this.1
    rw [Bool.and_eq_true, spP_may h fr' fs' ht]
    refine ⟨hu, ?_⟩
    unfold isU at hu
    rw [Bool.and_eq_true] at hu
    by_cases q : fs' t = true
    · rw [if_pos q]
      exact all_test (of_decide_eq_true hu.1) (of_decide_eq_true hu.2)
    · have q' : ¬ fs t = true := fun e => q (hs t ht e)
      have h5 := this.2
      rw [if_neg q'] at h5
      rw [if_neg q]
      exact h5
  · obtain ⟨i, a1, a2, a3⟩ := sprR_mem.1 hr'
    refine h4 r (sprR_mem.2 ⟨i, a1, ?_, a3⟩)
    cases q : fr i with
    | false => rfl
    | true => rw [hr i a1 q] at a2; cases a2
/-- Is there no plan? -/
noncomputable def stk (P : Pb) (fr fs : Nat → Bool) : Bool := !canB (spP P fr fs)
theorem stk_mono {P : Pb} (h : chkN P = 0) {fr fs fr' fs' : Nat → Bool} (hr : ∀ i, i < P.rules.length → fr i = true → fr' i = true) (hs : ∀ t, t < P.who.length → fs t = true → fs' t = true) (hb : stk P fr' fs' = true) : stk P fr fs = true := by
  unfold stk at hb ⊢
  cases q : canB (spP P fr fs) with
  | false => rfl
  | true =>
    obtain ⟨L, hL⟩ := (canB_iff _).1 q
    have := (canB_iff _).2 ⟨L, spP_mono h hr hs hL⟩
    rw [this] at hb
    cases hb
theorem stk_congr {P : Pb} (h : chkN P = 0) {fr fs fr' fs' : Nat → Bool} (hr : ∀ i, i < P.rules.length → fr i = fr' i) (hs : ∀ t, t < P.who.length → fs t = fs' t) : stk P fr fs = stk P fr' fs' := by
  rw [Bool.eq_iff_iff]
  exact ⟨stk_mono h (fun i hi e => by rw [hr i hi]; exact e) (fun t ht e => by rw [hs t ht]; exact e), stk_mono h (fun i hi e => by rw [← hr i hi]; exact e) (fun t ht e => by rw [← hs t ht]; exact e)⟩
/-- Those ahead of a place that are not kept. -/
def sprd (K : List Nat) (hi : Nat) : Nat → Bool := fun i => decide (i < hi) && !K.contains i
/-- One after the other. -/
noncomputable def grd (F : (Nat → Bool) → Bool) : List Nat → Nat → Nat → List Nat
  | K, _, 0 => K
  | K, f, d + 1 => grd F (if F (sprd K (f + 1)) = true then K else K ++ [f]) (f + 1) d
theorem grd_add (F : (Nat → Bool) → Bool) : ∀ (a b : Nat) (K : List Nat) (f : Nat), grd F K f (a + b) = grd F (grd F K f a) (f + a) b
  | 0, b, K, f => by rw [Nat.zero_add]; rfl
  | a + 1, b, K, f => by
    rw [show a + 1 + b = (a + b) + 1 by omega]
    show grd F _ (f + 1) (a + b) = grd F (grd F _ (f + 1) a) (f + (a + 1)) b
    rw [grd_add F a b, show f + 1 + a = f + (a + 1) by omega]
/-- The more is spared, the less likely there is no plan. -/
def Anti (F : (Nat → Bool) → Bool) : Prop := ∀ f g : Nat → Bool, (∀ i, f i = true → g i = true) → F g = true → F f = true
theorem sprd_le (K : List Nat) {a b : Nat} (h : a ≤ b) (i : Nat) (hi : sprd K a i = true) : sprd K b i = true := by
  unfold sprd at hi ⊢
  rw [Bool.and_eq_true] at hi ⊢
  exact ⟨decide_eq_true (by have := of_decide_eq_true hi.1; omega), hi.2⟩
/-- Where all can be spared together, each can. -/
theorem grd_all {F : (Nat → Bool) → Bool} (hF : Anti F) : ∀ (d : Nat) (K : List Nat) (f : Nat), F (sprd K (f + d)) = true → grd F K f d = K
  | 0, _, _, _ => rfl
  | d + 1, K, f, h => by
    have h1 : F (sprd K (f + 1)) = true := hF _ _ (sprd_le K (by omega)) h
    show grd F (if F (sprd K (f + 1)) = true then K else K ++ [f]) (f + 1) d = K
    rw [if_pos h1]
    exact grd_all hF d K (f + 1) (by rw [show f + 1 + d = f + (d + 1) by omega]; exact h)
theorem grd_one (F : (Nat → Bool) → Bool) (K : List Nat) (f : Nat) (h : F (sprd K (f + 1)) = false) : grd F K f 1 = K ++ [f] := by
  show (if F (sprd K (f + 1)) = true then K else K ++ [f]) = K ++ [f]
  rw [if_neg (by rw [h]; decide)]
/-- What is kept of those ahead. -/
structure Kpt (F : (Nat → Bool) → Bool) (K : List Nat) (f : Nat) : Prop where
  lt : ∀ i ∈ K, i < f
  ok : F (sprd K f) = true
  need : ∀ i ∈ K, ∃ K0, (∀ k ∈ K0, k < i) ∧ (∀ k ∈ K, k < i → k ∈ K0) ∧ F (sprd K0 (i + 1)) = false
  rise : K.Pairwise (· < ·)
theorem Kpt.start {F : (Nat → Bool) → Bool} (h : F (sprd [] 0) = true) : Kpt F [] 0 := ⟨fun i hi => (by cases hi), h, fun i hi => (by cases hi), List.Pairwise.nil⟩
theorem Kpt.grd {F : (Nat → Bool) → Bool} (hF : Anti F) : ∀ (d : Nat) {K : List Nat} {f : Nat}, Kpt F K f → Kpt F (grd F K f d) (f + d)
  | 0, _, _, h => h
  | d + 1, K, f, h => by
    show Kpt F (Go.Proofs.YtcancjbpcppecaaGreatDoor.S.grd F (if F (sprd K (f + 1)) = true then K else K ++ [f]) (f + 1) d) (f + (d + 1))
    rw [show f + (d + 1) = f + 1 + d by omega]
    refine Kpt.grd hF d ?_
    by_cases q : F (sprd K (f + 1)) = true
    · rw [if_pos q]
      exact ⟨fun i hi => by have := h.lt i hi; omega, q, h.need, h.rise⟩
    · rw [if_neg q]
      have q' : F (sprd K (f + 1)) = false := by cases e : F (sprd K (f + 1)); rfl; exact absurd e q
      refine ⟨fun i hi => ?_, ?_, fun i hi => ?_, ?_⟩
      · rcases List.mem_append.1 hi with e | e
        · have := h.lt i e; omega
        · rw [List.mem_singleton] at e; omega
      · refine hF _ _ (fun i hi => ?_) h.ok
        unfold sprd at hi ⊢
        rw [Bool.and_eq_true] at hi ⊢
        have h1 := of_decide_eq_true hi.1
        have h2 : i ∉ K ++ [f] := by simpa using hi.2
        have h3 : i ≠ f := fun e => h2 (by rw [e]; simp)
        refine ⟨decide_eq_true (by omega), ?_⟩
        have h4 : i ∉ K := fun e => h2 (List.mem_append_left _ e)
        simpa using h4
      · rcases List.mem_append.1 hi with e | e
        · obtain ⟨K0, a1, a2, a3⟩ := h.need i e
          have := h.lt i e
          refine ⟨K0, a1, fun k hk hlt => ?_, a3⟩
          rcases List.mem_append.1 hk with e2 | e2
          · exact a2 k e2 hlt
          · rw [List.mem_singleton] at e2; omega
        · rw [List.mem_singleton] at e
          subst e
          exact ⟨K, h.lt, fun k hk hlt => (by rcases List.mem_append.1 hk with e2 | e2; exact e2; rw [List.mem_singleton] at e2; omega), q'⟩
      · refine List.pairwise_append.2 ⟨h.rise, List.pairwise_singleton _ _, fun a ha b hb => ?_⟩
        rw [List.mem_singleton] at hb
        rw [hb]; exact h.lt a ha
end Go.Proofs.YtcancjbpcppecaaGreatDoor.S
namespace Go.Proofs.YtcancjbpcppecaaGreatDoor.S
open Go.RowKit Go.Shelf
set_option maxRecDepth 100000 in
set_option maxHeartbeats 1000000 in
theorem everyF (P : Pb) (wv fv rv : Value) (w : World) (h : PbS P wv fv rv) (h0 : 0 ≤ P.users) (h1 : P.users ≤ 64) :
    Calls Tryz.prog 32 #[pbV P wv fv rv] w fun e w' => e = .returned (.int .u64 (allW P.users : Int)) ∧ Below w.heap.size w w' := by
  obtain ⟨ow, cw, of, cf, or, cr, rfl, rfl, rfl⟩ := h
  unfold pbV allW
  obtain ⟨U, hU⟩ := Int.eq_ofNat_of_zero_le h0
  rw [hU] at h1 ⊢
  rw [Int.toNat_natCast]
  clear h0 hU
  by_cases h64 : U = 64
  · subst h64
    go_enter Tryz.func32, Tryz.ntmps32
    go_wp2
    go_ret
    exact ⟨rfl, (Below.refl _ w).alloc (Nat.le_refl _) _⟩
  · have hlt : U < 64 := by omega
    have hlt' : (U : Int) < 64 := by omega
    have hp : 0 < 2 ^ U := Nat.pow_pos (by decide)
    have hq : 2 ^ U < 18446744073709551616 := Nat.lt_of_lt_of_le (Nat.pow_lt_pow_right (by decide) hlt) (Nat.le_refl (2 ^ 64))
    have e : Hid (IntKind.u64.wrap (IntKind.u64.wrap ((2 : Int) ^ U) - 1) = ((2 ^ U - 1 : Nat) : Int)) := by
      unfold Hid
      rw [IntKind.wrap_u64, IntKind.wrap_u64, show ((2 : Int) ^ U) = ((2 ^ U : Nat) : Int) by push_cast; rfl]
      omega
    clear h64 h1
    go_enter Tryz.func32, Tryz.ntmps32
    go_wp2
    go_ret
    exact ⟨congrArg (fun z => Ending.returned (Value.int .u64 z)) e.out, (Below.refl _ w).alloc (Nat.le_refl _) _⟩
set_option maxRecDepth 100000 in
set_option maxHeartbeats 1000000 in
theorem nothingF (i : Int) (w : World) : Calls Tryz.prog 15 #[.int .i64 i] w fun e w' => e = .returned (.bool false) ∧ Below w.heap.size w w' := by
  go_enter Tryz.func15, Tryz.ntmps15
  go_wp2
  go_ret
  exact ⟨rfl, Below.refl _ _⟩
/-- A choice: what it says of a place, in any world above. -/
structure Chs (V : World) (fk : Nat) (cs : Array Value) (p : Nat → Bool) : Prop where
  en : ∀ args w, (callFunc fk args).run Tryz.prog w = .ok (.enter fk args) w
  say : ∀ (W : World) (i : Nat), Below V.heap.size V W → i ≤ 1000 → Calls Tryz.prog fk (#[.int .i64 (i : Int)] ++ cs) W fun e w' => e = .returned (.bool (p i)) ∧ Below W.heap.size W w'
theorem ent_nothing : ∀ args w, (callFunc 15 args).run Tryz.prog w = .ok (.enter 15 args) w := enters_of Tryz.func15 (by kernel_rfl) rfl
theorem ent_beside : ∀ args w, (callFunc 33 args).run Tryz.prog w = .ok (.enter 33 args) w := enters_of Tryz.func33 (by kernel_rfl) rfl
theorem ent_spared : ∀ args w, (callFunc 28 args).run Tryz.prog w = .ok (.enter 28 args) w := enters_of Tryz.func28 (by kernel_rfl) rfl
theorem Chs.over {V V' : World} {fk : Nat} {cs : Array Value} {p : Nat → Bool} (h : Chs V fk cs p) (hb : Below V.heap.size V V') : Chs V' fk cs p := ⟨h.en, fun W i hW hi => h.say W i (hb.trans (hW.mono hb.size)) hi⟩
theorem nothing_chs (V : World) : Chs V 15 #[] (fun _ => false) := ⟨ent_nothing, fun W i _ _ => nothingF (i : Int) W⟩
/-- Numbers as they are told. -/
def cntI (K : List Nat) : Nat → Bool := fun i => K.contains i
theorem mem_ints {K : List Nat} {i : Nat} : decide ((i : Int) ∈ ints K) = K.contains i := by
  rw [Bool.eq_iff_iff, decide_eq_true_iff]
  unfold ints
  simp
  exact ⟨(fun ⟨a, h, e⟩ => by obtain rfl : a = i := (by omega); exact h), (fun h => ⟨i, h, rfl⟩)⟩
set_option maxRecDepth 100000 in
set_option maxHeartbeats 1000000 in
theorem besideF1 (K : List Nat) (v : Value) (g : Nat) (i : Nat) (w : World) (hc : w.cell? ⟨g, 0, none⟩ = some v) (hr : RowI w v (ints K)) (hl : K.length ≤ 1000) :
    Calls Tryz.prog 33 #[.int .i64 (i : Int), .pointer (some ⟨g, 0, none⟩)] w fun e w' => e = .returned (.bool (!K.contains i)) ∧ Below w.heap.size w w' := by
  have KC := hide' (containsI (ints K) v (i : Int) w hr (by rw [ints_len]; omega))
  obtain ⟨oa, cap, rfl, _, _⟩ := hr
  rw [← mem_ints]
  generalize decide ((i : Int) ∈ ints K) = b at *
  go_enter Tryz.func33, Tryz.ntmps33
  go_wp2_with fail
  refine KC.out.mono ?_
  rintro e w1 ⟨rfl, hb1⟩
  go_wp2
  go_ret
  exact ⟨rfl, hb1⟩
/-- beside's choice. -/
theorem beside_chs {K : List Nat} {v : Value} {g : Nat} {V : World} (hc : V.cell? ⟨g, 0, none⟩ = some v) (hr : RowI V v (ints K)) (hl : K.length ≤ 1000) : Chs V 33 #[.pointer (some ⟨g, 0, none⟩)] (fun i => !K.contains i) := ⟨ent_beside, fun W i hW _ => besideF1 K v g i W (M.cell_over hc hW) (hr.below hW (Nat.le_refl _)) hl⟩
set_option maxRecDepth 100000 in
set_option maxHeartbeats 1000000 in
theorem besideF (K : List Nat) (v : Value) (w : World) (hr : RowI w v (ints K)) (hl : K.length ≤ 1000) :
    Calls Tryz.prog 17 #[v] w fun e w' => ∃ g, e = .returned (.func (.func 33) #[] #[.pointer (some ⟨g, 0, none⟩)]) ∧ Hid (Chs w' 33 #[.pointer (some ⟨g, 0, none⟩)] (fun i => !K.contains i)) ∧ Hid (Below w.heap.size w w') := by
  have hB : Hid (Below w.heap.size w (w.alloc (.cells #[v] 23))) := (Below.refl _ w).alloc (Nat.le_refl _) _
  have hc : Hid ((w.alloc (.cells #[v] 23)).cell? ⟨w.heap.size, 0, none⟩ = some v) := by
    show _ = _
    simp only [World.cell?]
    rw [heap_new w (.cells #[v] 23)]
    rfl
  have hC := hide' (beside_chs hc.out (hr.below hB.out (Nat.le_refl _)) hl)
  obtain ⟨oa, cap, rfl, _, _⟩ := hr
  clear hc
  go_enter Tryz.func17, Tryz.ntmps17
  go_wp2
  go_ret
  exact ⟨_, rfl, hC, hB⟩
set_option maxRecDepth 100000 in
set_option maxHeartbeats 1000000 in
theorem sparedF1 (K : List Nat) (v : Value) (gt gk hi i : Nat) (w : World) (hc : w.cell? ⟨gt, 0, none⟩ = some (.int .i64 (hi : Int))) (hk : w.cell? ⟨gk, 0, none⟩ = some v) (hr : RowI w v (ints K)) (hl : K.length ≤ 1000) :
    Calls Tryz.prog 28 #[.int .i64 (i : Int), .pointer (some ⟨gt, 0, none⟩), .pointer (some ⟨gk, 0, none⟩)] w fun e w' => e = .returned (.bool (sprd K hi i)) ∧ Below w.heap.size w w' := by
  have KC := hide' (containsI (ints K) v (i : Int) w hr (by rw [ints_len]; omega))
  obtain ⟨oa, cap, rfl, _, _⟩ := hr
  unfold sprd
  rw [mem_ints] at KC
  generalize K.contains i = b at *
  by_cases hlt : i < hi
  · have hlt' : (i : Int) < (hi : Int) := by omega
    rw [decide_eq_true hlt, Bool.true_and]
    go_enter Tryz.func28, Tryz.ntmps28
    go_wp2_with fail
    refine KC.out.mono ?_
    rintro e w1 ⟨rfl, hb1⟩
    go_wp2
    go_ret
    exact ⟨rfl, hb1⟩
  · have hlt' : ¬ (i : Int) < (hi : Int) := by omega
    rw [decide_eq_false hlt, Bool.false_and]
    clear KC
    go_enter Tryz.func28, Tryz.ntmps28
    go_wp2
    go_ret
    exact ⟨rfl, Below.refl _ _⟩
theorem spared_chs {K : List Nat} {v : Value} {gt gk hi : Nat} {V : World} (hc : V.cell? ⟨gt, 0, none⟩ = some (.int .i64 (hi : Int))) (hk : V.cell? ⟨gk, 0, none⟩ = some v) (hr : RowI V v (ints K)) (hl : K.length ≤ 1000) : Chs V 28 #[.pointer (some ⟨gt, 0, none⟩), .pointer (some ⟨gk, 0, none⟩)] (sprd K hi) := ⟨ent_spared, fun W i hW _ => sparedF1 K v gt gk hi i W (M.cell_over hc hW) (M.cell_over hk hW) (hr.below hW (Nat.le_refl _)) hl⟩
end Go.Proofs.YtcancjbpcppecaaGreatDoor.S
namespace Go.Proofs.YtcancjbpcppecaaGreatDoor.S
open Go.RowKit Go.Shelf
/-- Cut, and where its rows lie. -/
theorem cutC (P : Pb) (wv fv rv : Value) (w : World) (h : PbV w P wv fv rv) :
    Calls Tryz.prog 4 #[pbV P wv fv rv] w fun e w' => ∃ va vb vc, e = .returned (pbV (cutP P) va vb vc) ∧ Hid (PbV w' (cutP P) va vb vc) ∧ Hid (Below w.heap.size w w') ∧ Hid (∀ ad n c, va = .slice (some ad) n c → w.heap.size ≤ ad.block ∧ ad.block < w'.heap.size) := by
  refine (cutF P wv fv rv w h).mono ?_
  rintro e w' ⟨va, vb, vc, E, rfl, hO, hB⟩
  obtain ⟨o1, o2, o3, o4⟩ := hO.out
  refine ⟨va, vb, vc, rfl, ⟨RowW.of_owns o1, RowI.of_owns o2, ?_⟩, hB, fun ad n c e => o1.lt ad.block (by rw [e]; rfl)⟩
  have := o3.rowR
  rw [o4] at this
  exact this
theorem cutD (P : Pb) (wv fv rv : Value) (w : World) (h : PbV w (cutP P) wv fv rv) :
    Calls Tryz.prog 4 #[pbV (cutP P) wv fv rv] w fun e w' => ∃ va vb vc, e = .returned (pbV (cutP P) va vb vc) ∧ Hid (PbV w' (cutP P) va vb vc) ∧ Hid (Below w.heap.size w w') ∧ Hid (∀ ad n c, va = .slice (some ad) n c → w.heap.size ≤ ad.block ∧ ad.block < w'.heap.size) := by
  have := cutC (cutP P) wv fv rv w h
  rw [cutP_cut] at this
  exact this
structure SvS (w : World) (Q : Pb) (qw qf qr : Value) (g gs a b c : Nat) (V : World) : Prop where
  pb : PbB V g Q qw qf qr
  pv : PbV V Q qw qf qr
  gg : GgAt V gs a b c
  tab : M.Tab V
  be : Below w.heap.size w V
theorem SvS.over {w : World} {Q : Pb} {qw qf qr : Value} {g gs a b c : Nat} {V V' : World} (h : SvS w Q qw qf qr g gs a b c V) (hb : Below V.heap.size V V') : SvS w Q qw qf qr g gs a b c V' :=
  ⟨h.pb.below hb, h.pv.below hb, h.gg.below hb, h.tab.over hb, h.be.trans (hb.mono h.be.size)⟩
theorem SvS.fr {w : World} {Q : Pb} {qw qf qr : Value} {g gs a b c a' b' c' : Nat} {V V' : World} (h : SvS w Q qw qf qr g gs a b c V) (hf : M.Fr2 V V' gs gs) (hg : GgAt V' gs a' b' c') (hgs : w.heap.size ≤ gs) (hne : ∀ ad n c, qw = .slice (some ad) n c → ad.block ≠ gs) (hgp : g ≠ gs) (hG : 1 ≤ gs) : SvS w Q qw qf qr g gs a' b' c' V' :=
  ⟨(hf.block g (Array.getElem?_eq_some_iff.1 h.pb).1 hgp hgp).trans h.pb, pbV_frame h.pv h.gg hne hf, hg, tab_frame h.tab hG hf, hf.new h.be hgs hgs h.be.size⟩
theorem SvS.start {w w1 w3 : World} {Q : Pb} {qw qf qr : Value} (hB1 : Below w.heap.size w w1) (hq : PbV w1 Q qw qf qr) (ht : M.Tab w)
    (hg : GgAt w3 (w1.alloc (.cells #[.int .i64 Q.users, qw, qf, qr] 26)).heap.size 0 0 0)
    (hb3 : Below (w1.alloc (.cells #[.int .i64 Q.users, qw, qf, qr] 26)).heap.size (w1.alloc (.cells #[.int .i64 Q.users, qw, qf, qr] 26)) w3) :
    SvS w Q qw qf qr w1.heap.size (w1.alloc (.cells #[.int .i64 Q.users, qw, qf, qr] 26)).heap.size 0 0 0 w3 := by
  have h1 : Below w1.heap.size w1 (w1.alloc (.cells #[.int .i64 Q.users, qw, qf, qr] 26)) := (Below.refl _ w1).alloc (Nat.le_refl _) _
  have h2 : Below w1.heap.size w1 w3 := h1.trans (hb3.mono h1.size)
  have hp : PbB (w1.alloc (.cells #[.int .i64 Q.users, qw, qf, qr] 26)) w1.heap.size Q qw qf qr := heap_new w1 _
  have h3 : Below w.heap.size w w3 := hB1.trans (h2.mono hB1.size)
  exact ⟨hp.below hb3, hq.below h2, hg, ht.over h3, h3⟩
theorem rowW_shapeS {W : World} {v : Value} {l : List Int} (h : RowI W v l) : ∃ o c, v = .slice o l.length c := by obtain ⟨o, c, e, _⟩ := h; exact ⟨o, c, e⟩
/-- The users of a plan are small numbers. -/
theorem plan_wf {P : Pb} {L : List Int} (h : holP P L = true) : ∀ z ∈ L, (Lit.int .i64 z).wf = true := fun z hz => by
  obtain ⟨i, hi⟩ := List.getElem?_of_mem hz
  obtain ⟨h1, _, h3, _⟩ := holP_of h
  have h4 := h3 i z hi
  have h5 := (chkN_zero h1).2.2.1
  unfold okU isU at h4
  simp only [Bool.and_eq_true, decide_eq_true_eq] at h4
  simp [Lit.wf, IntKind.min, IntKind.max, IntKind.signed, IntKind.bits]
  omega
/-- No plan comes ahead of the first. -/
theorem first_ahead {P : Pb} {l L : List Int} (h : LsP P (some l)) (hL : holP P L = true) : befB L l = false := by
  rcases h.2 L hL with rfl | e
  · exact befB_same _
  · cases q : befB L l with
    | false => rfl
    | true => have := befB_trans e q; rw [befB_same] at this; cases this
/-- Lists of ints as they are handed in. -/
def RowX (w : World) (v : Value) (L : List (List Int)) : Prop := ∃ oa cap, v = .slice oa L.length cap ∧ ∀ (i : Nat) l, L[i]? = some l → ∃ g o sv, oa = some ⟨g, o, none⟩ ∧ w.cell? ⟨g, o + i, none⟩ = some sv ∧ RowI w sv l
theorem RowX.below {w w' : World} {v : Value} {L : List (List Int)} (h : RowX w v L) (hb : Below w.heap.size w w') : RowX w' v L := by
  obtain ⟨oa, cap, e, hc⟩ := h
  refine ⟨oa, cap, e, fun i l hi => ?_⟩
  obtain ⟨g, o, sv, e1, e2, e3⟩ := hc i l hi
  exact ⟨g, o, sv, e1, (hb.cell (p := ⟨g, o + i, none⟩) (cell_lt e2)).trans e2, e3.below hb (Nat.le_refl _)⟩
end Go.Proofs.YtcancjbpcppecaaGreatDoor.S
