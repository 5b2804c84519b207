/- The document's runs of solve: wakes. -/
import Derived.Test.YtlijlelejobchaaGreatDoorJ02
import Derived.Test.YtlijlelejobchaaGreatDoorJ05
import Derived.Test.YtlijlelejobchaaGreatDoorJ21
import Derived.Test.YtlijlelejobchaaGreatDoorJ23
import Derived.Test.YtlijlelejobchaaGreatDoorJ24
import Derived.Test.YtlijlelejobchaaGreatDoorJ25
import Derived.Sort.Grow
import Derived.Sort.LotA
namespace Go.Proofs.YtlijlelejobchaaGreatDoor.S
open Go.RowKit Go.Shelf Go.Sort
set_option maxRecDepth 100000 in
set_option maxHeartbeats 1000000 in
theorem cmpT (g gr n : Nat) (room : Nat → Int) (x y : Nat) (w : World) (hx : x < n) (hy : y < n) (hb : w.cell? ⟨g, 0, none⟩ = some (.slice (some ⟨gr, 0, none⟩) n n)) (hr : ∀ t, t < n → w.cell? ⟨gr, t, none⟩ = some (.int .i64 (room t))) :
    Calls Tryz.prog 63 #[.int .i64 (x : Int), .int .i64 (y : Int), .pointer (some ⟨g, 0, none⟩)] w fun e w' => e = .returned (.int .i64 (I.cmpI (room x) (room y))) ∧ ∃ q, w' = w.drewN q := by
  have hx' : (x : Int) < (n : Int) := by omega
  have hy' : (y : Int) < (n : Int) := by omega
  have hx0 : ¬ (x : Int) < 0 := by omega
  have hy0 : ¬ (y : Int) < 0 := by omega
  have c1 := hr x hx
  have c2 := hr y hy
  have hS : Hid (w.drew.cell? ⟨g, 0, none⟩ = some (.slice (some ⟨gr, 0, none⟩) n n) ∧ w.drew.cell? ⟨gr, x, none⟩ = some (.int .i64 (room x)) ∧ w.drew.cell? ⟨gr, y, none⟩ = some (.int .i64 (room y))) := ⟨hb, c1, c2⟩
  clear hr hb c1 c2
  go_enter Tryz.func63, Tryz.ntmps63
  go_wp2
  go_region_held3 (fun V => V.cell? ⟨g, 0, none⟩ = some (.slice (some ⟨gr, 0, none⟩) n n) ∧ V.cell? ⟨gr, x, none⟩ = some (.int .i64 (room x)) ∧ V.cell? ⟨gr, y, none⟩ = some (.int .i64 (room y))) (exact hS.out) (first | (go_at_call 64; refine (I.cmpF (room x) (room y) _).mono ?_; rintro e w2 ⟨rfl, rfl⟩))
  go_wp2
  go_ret
  exact ⟨rfl, 1, rfl⟩
/-- Blocks that are not the row's stay as they were. -/
theorem sort_block {α : Type} [Inhabited α] (enc : α → Value) (W : World) (g m : Nat) (d : Array α) (os : Array Obj) {k : Nat} (hk : k < W.heap.size) (hne : k ≠ g) : (sortWorld enc W g 0 m d os).heap[k]? = W.heap[k]? := by
  unfold sortWorld
  rw [Go.Sort.heap_grow_old _ _ (by simpa using hk)]
  have : g ≠ k := fun e => hne e.symm
  simp [putRow, mapBlock, Sort.ahead, Array.getElem?_modify, this]
theorem put_block {α : Type} [Inhabited α] (enc : α → Value) (W : World) (g : Nat) (d : Array α) (m : Nat) {k : Nat} (hne : k ≠ g) : ((putRow enc W g 0 d).drewN m).heap[k]? = W.heap[k]? := by
  have : g ≠ k := fun e => hne e.symm
  show (putRow enc W g 0 d).heap[k]? = W.heap[k]?
  simp [putRow, mapBlock, Array.getElem?_modify, this]
def encF {n : Nat} (x : Fin n) : Value := .int .i64 ((x.val : Nat) : Int)
theorem swoF (n : Nat) (room : Nat → Int) : SWO (ltOf fun x y : Fin n => I.cmpI (room x.val) (room y.val)) := by
  have h : ∀ x y : Fin n, ltOf (fun x y : Fin n => I.cmpI (room x.val) (room y.val)) x y = decide (room x.val < room y.val) := fun x y => by
    unfold ltOf
    exact cmpI_neg _ _
  refine ⟨fun x => ?_, fun x y z h1 h2 => ?_, fun x y z h1 h2 => ?_⟩
  · rw [h]; simp
  · rw [h] at h1 h2 ⊢
    simp at h1 h2 ⊢; omega
  · rw [h] at h1 h2 ⊢
    simp at h1 h2 ⊢; omega
theorem ext_all {α : Type} (d : Array α) {n : Nat} (h : d.size = n) : d.extract 0 n = d := by subst h; simp
def SoP (w : World) (gd _n : Nat) (L : List Nat) (e : Ending) (w' : World) : Prop :=
  e = .returned (.tuple #[]) ∧ ∃ L' : List Nat, Hid (L'.Perm L) ∧ Hid (∀ k x : Nat, L'[k]? = some x → w'.cell? ⟨gd, k, none⟩ = some (.int .i64 (x : Int))) ∧ Hid (w'.os = w.os ∧ w'.tape = w.tape ∧ w'.output = w.output ∧ w'.heap.size = w.heap.size ∧ ∀ k, k ≠ gd → w'.heap[k]? = w.heap[k]?)
theorem insT (gd g gr n : Nat) (room : Nat → Int) (L : List Nat) (w : World) (hn : 0 < n) (hm : n ≤ 12) (hL : L.length = n) (hLn : ∀ x ∈ L, x < n) (hg : g < w.heap.size) (hgr : gr < w.heap.size) (hne1 : g ≠ gd) (hne2 : gr ≠ gd)
    (hrow : ∀ k x : Nat, L[k]? = some x → w.cell? ⟨gd, k, none⟩ = some (.int .i64 (x : Int)) ∧ w.frozen? ⟨gd, k, none⟩ = false) (hb : w.cell? ⟨g, 0, none⟩ = some (.slice (some ⟨gr, 0, none⟩) n n)) (hr : ∀ t, t < n → w.cell? ⟨gr, t, none⟩ = some (.int .i64 (room t))) :
    Calls Tryz.prog 103 #[.slice (some ⟨gd, 0, none⟩) n n, .int .i64 0, .int .i64 (n : Int), .func (.func 63) #[] #[.pointer (some ⟨g, 0, none⟩)]] w (SoP w gd n L) := by
  have : Inhabited (Fin n) := ⟨⟨0, hn⟩⟩
  obtain ⟨d, hds, hdl⟩ : ∃ d : Array (Fin n), d.size = n ∧ d.toList.map (fun x => x.val) = L := by
    have hall : ∀ l : List Nat, (∀ x ∈ l, x < n) → ∃ m : List (Fin n), m.map (fun x => x.val) = l := fun l => by
      induction l with
      | nil => exact fun _ => ⟨[], rfl⟩
      | cons a l ih =>
        intro h
        obtain ⟨m, hm⟩ := ih fun x hx => h x (List.mem_cons_of_mem _ hx)
        exact ⟨⟨a, h a List.mem_cons_self⟩ :: m, by rw [List.map_cons, hm]⟩
    obtain ⟨m, hm⟩ := hall L hLn
    refine ⟨m.toArray, ?_, hm⟩
    have := congrArg List.length hm
    rw [List.length_map, hL] at this
    simpa using this
  have hat : ∀ j, j < n → L[j]? = some (d[j]!).val := fun j hj => by
    rw [← hdl, List.getElem?_map, Array.getElem?_toList, Array.getElem?_eq_getElem (by omega), getElem!_pos d j (by omega)]; rfl
  have hH : Holds (encF (n := n)) w gd 0 d := fun j hj => by
    rw [Nat.zero_add]
    exact hrow j _ (hat j (by omega))
  have hcmp : CmpReads Tryz.prog 63 #[.pointer (some ⟨g, 0, none⟩)] (encF (n := n)) (fun x y => I.cmpI (room x.val) (room y.val)) gd 0 d.size w := fun m os dk _ x y => by
    have h1 := sort_block (encF (n := n)) w gd m dk os hg hne1
    have h2 := sort_block (encF (n := n)) w gd m dk os hgr hne2
    refine cmpT g gr n room x.val y.val _ x.2 y.2 ?_ fun t ht => ?_
    · simp only [World.cell?] at hb ⊢
      rw [h1]; exact hb
    · have := hr t ht
      simp only [World.cell?] at this ⊢
      rw [h2]; exact this
  have eg : ∀ args w, (callFunc 63 args).run Tryz.prog w = .ok (.enter 63 args) w := enters_of Tryz.func63 (by kernel_rfl) rfl
  have hp := Any.insertionSortCmpFunc_one Tryz.insI (encF (n := n)) (fun _ => rfl) (fun x y => I.cmpI (room x.val) (room y.val)) 63 #[.pointer (some ⟨g, 0, none⟩)] gd 0 n 0 n d w eg hcmp hH (Nat.zero_le _) (by omega) (by omega)
  have hps := (insertionSort_holds (swoF n room) d 0 n (Nat.zero_le _) (by omega)).1
  change Calls Tryz.prog 103 _ _ _ at hp
  rw [hds] at hp
  refine hp.mono ?_
  rintro e w' ⟨rfl, m, rfl⟩
  obtain ⟨p1, _, p3⟩ := hps
  generalize insertionSort (ltOf fun x y : Fin n => I.cmpI (room x.val) (room y.val)) d 0 n = d' at *
  have hz : d'.size = n := by omega
  refine ⟨rfl, d'.toList.map (fun x => x.val), ?_, fun k x hx => ?_, rfl, rfl, rfl, ?_, fun k hk => put_block _ _ _ _ _ hk⟩
  · rw [← hdl]
    rw [ext_all d' hz, ext_all d hds] at p3
    exact p3.map _
  · rw [List.getElem?_map, Array.getElem?_toList] at hx
    have hk : k < d'.size := by
      rcases Nat.lt_or_ge k d'.size with h' | h'
      · exact h'
      · rw [Array.getElem?_eq_none h'] at hx; cases hx
    have hw := (holds_putRow (encF (n := n)) w gd 0 d d' hH (by omega) k hk).1
    rw [Nat.zero_add] at hw
    rw [Array.getElem?_eq_getElem hk] at hx
    have hx' : d'[k].val = x := by simpa using hx
    rw [← hx']
    show (putRow encF w gd 0 d').cell? ⟨gd, k, none⟩ = _
    rw [hw, getElem!_pos d' k hk]; rfl
  · show (putRow encF w gd 0 d').heap.size = _
    simp
set_option maxRecDepth 100000 in
set_option maxHeartbeats 1000000 in
theorem ins0 (gd : Nat) (f : Value) (hf : ∃ a b c, f = .func a b c) (w : World) : Calls Tryz.prog 103 #[.slice (some ⟨gd, 0, none⟩) 0 0, .int .i64 0, .int .i64 0, f] w (SoP w gd 0 []) := by
  obtain ⟨a, b, c, rfl⟩ := hf
  go_enter Tryz.func103, Tryz.ntmps103
  go_wp2
  go_loopw [8] (fun p wr => p = .int .i64 1 ∧ wr = w) (fun _ _ => 0)
  case atStart => exact ⟨rfl, rfl⟩
  case round =>
    obtain ⟨rfl, rfl⟩ := hrel
    go_wp2
    first | go_end0 | refine bodyPost_end (v := .tuple #[]) (by simp [results, Tryz.results103, go_sem]) rfl ?_
    exact ⟨rfl, [], List.Perm.refl _, fun k x h => (by cases h), rfl, rfl, rfl, rfl, fun _ _ => rfl⟩
set_option maxRecDepth 100000 in
set_option maxHeartbeats 1000000 in
theorem stabT (gd n : Nat) (L : List Nat) (f : Value) (hf : ∃ a b c, f = .func a b c) (w : World) (hn : n ≤ 12) (K : Calls Tryz.prog 103 #[.slice (some ⟨gd, 0, none⟩) n n, .int .i64 0, .int .i64 (n : Int), f] w (SoP w gd n L)) :
    Calls Tryz.prog 87 #[.slice (some ⟨gd, 0, none⟩) n n, .int .i64 (n : Int), f] w (SoP w gd n L) := by
  obtain ⟨a, b, c, rfl⟩ := hf
  have K' := hide' K
  have h20 : ¬ (20 : Int) ≤ (n : Int) := by omega
  have h21 : ¬ (20 : Int) < (n : Int) := by omega
  clear K
  go_enter Tryz.func87, Tryz.ntmps87
  go_wp2
  go_loopw [7, 8] (fun p q wr => p = .int .i64 0 ∧ q = .int .i64 20 ∧ wr = w) (fun _ _ _ => 0)
  case atStart => exact ⟨rfl, rfl, rfl⟩
  case round =>
    obtain ⟨rfl, rfl, rfl⟩ := hrel
    go_wp2_with fail
    refine K'.out.mono ?_
    rintro e w2 ⟨rfl, L', h1, h2, h3⟩
    go_wp2
    go_loopw [6] (fun p wr2 => p = .int .i64 20 ∧ wr2 = w2) (fun _ _ => 0)
    case atStart => exact ⟨rfl, rfl⟩
    case round =>
      obtain ⟨rfl, rfl⟩ := hrel
      go_wp2
      first | go_end0 | refine bodyPost_end (v := .tuple #[]) (by simp [results, Tryz.results87, go_sem]) rfl ?_
      exact ⟨rfl, L', h1, h2, h3⟩
set_option maxRecDepth 100000 in
theorem sortT (gd n : Nat) (L : List Nat) (f : Value) (hf : ∃ a b c, f = .func a b c) (w : World) (hn : n ≤ 12) (K : Calls Tryz.prog 103 #[.slice (some ⟨gd, 0, none⟩) n n, .int .i64 0, .int .i64 (n : Int), f] w (SoP w gd n L)) :
    Calls Tryz.prog 62 #[.slice (some ⟨gd, 0, none⟩) n n, f] w (SoP w gd n L) := by
  have K' := hide' (stabT gd n L f hf w hn K)
  obtain ⟨a, b, c, rfl⟩ := hf
  clear K
  go_enter Tryz.func62, Tryz.ntmps62
  go_wp2_with fail
  refine K'.out.mono ?_
  rintro e w2 ⟨rfl, L', h1, h2, h3⟩
  go_wp2
  first | go_end0 | refine bodyPost_end (v := .tuple #[]) (by simp [results, Tryz.results62, go_sem]) rfl ?_
  exact ⟨rfl, L', h1, h2, h3⟩
end Go.Proofs.YtlijlelejobchaaGreatDoor.S
namespace Go.Proofs.YtlijlelejobchaaGreatDoor.S
open Go.RowKit Go.Shelf
/-- Two rows and a box that holds the second. -/
structure Tm (w : World) (P : Pb) (wv fv rv : Value) (gd gr gb n : Nat) (A R : Nat → Int) (W : World) : Prop where
  pb : PbB W w.heap.size P wv fv rv
  ord : W.ownsRow (w.heap.size + 1) 3 1 (.slice (some ⟨gd, 0, none⟩) n n) n (cellsZ A n)
  room : W.ownsRow (w.heap.size + 1) 3 1 (.slice (some ⟨gr, 0, none⟩) n n) n (cellsZ R n)
  box : W.heap[gb]? = some (.cells #[.slice (some ⟨gr, 0, none⟩) n n] 23 (0, 0))
  new : w.heap.size + 1 ≤ gb
  ne1 : gd ≠ gr
  be : Below w.heap.size w W
section
variable {w : World} {P : Pb} {wv fv rv : Value} {gd gr gb n : Nat} {A R : Nat → Int} {W W' : World}
theorem Tm.over (h : Tm w P wv fv rv gd gr gb n A R W) (hb : Below W.heap.size W W') : Tm w P wv fv rv gd gr gb n A R W' :=
  ⟨h.pb.below hb, own_below h.ord hb (Nat.le_refl _), own_below h.room hb (Nat.le_refl _), (hb.block gb (Array.getElem?_eq_some_iff.1 h.box).1).trans h.box, h.new, h.ne1, h.be.trans (hb.mono h.be.size)⟩
theorem Tm.kinds (h : Tm w P wv fv rv gd gr gb n A R W) : gb ≠ gd ∧ gb ≠ gr := by
  obtain ⟨c1, f1, h1⟩ := Go.Lib.ownsRow_kind h.ord gd rfl
  obtain ⟨c2, f2, h2⟩ := Go.Lib.ownsRow_kind h.room gr rfl
  have hb := h.box
  refine ⟨fun e => ?_, fun e => ?_⟩
  · rw [e, h1] at hb; simp at hb
  · rw [e, h2] at hb; simp at hb
theorem Tm.setO (h : Tm w P wv fv rv gd gr gb n A R W) (j : Nat) (z : Int) : Tm w P wv fv rv gd gr gb n (fun b => if b = j then z else A b) R (W.setCell ⟨gd, j, none⟩ (.int .i64 z)) := by
  have hk := h.kinds
  have hg : w.heap.size + 1 ≤ gd := own_ge' h.ord rfl
  refine ⟨(Below.heap_setCell W _ _ _ (by show w.heap.size ≠ gd; omega)).trans h.pb, ?_, own_same h.room fun k _ hk' => Below.heap_setCell W _ _ _ (by cases hk'; exact fun e => h.ne1 e.symm), (Below.heap_setCell W _ _ _ hk.1).trans h.box, h.new, h.ne1, h.be.setCell (by show w.heap.size ≤ gd; omega) _⟩
  have h1 := (h.ord.stored j (.int .i64 z)).1
  rw [cellsZ_set] at h1
  exact h1
theorem Tm.setR (h : Tm w P wv fv rv gd gr gb n A R W) (j : Nat) (z : Int) : Tm w P wv fv rv gd gr gb n A (fun b => if b = j then z else R b) (W.setCell ⟨gr, j, none⟩ (.int .i64 z)) := by
  have hk := h.kinds
  have hg : w.heap.size + 1 ≤ gr := own_ge' h.room rfl
  refine ⟨(Below.heap_setCell W _ _ _ (by show w.heap.size ≠ gr; omega)).trans h.pb, own_same h.ord fun k _ hk' => Below.heap_setCell W _ _ _ (by cases hk'; exact h.ne1), ?_, (Below.heap_setCell W _ _ _ hk.2).trans h.box, h.new, h.ne1, h.be.setCell (by show w.heap.size ≤ gr; omega) _⟩
  have h1 := (h.room.stored j (.int .i64 z)).1
  rw [cellsZ_set] at h1
  exact h1
theorem Tm.bx (h : Tm w P wv fv rv gd gr gb n A R W) : W.cell? ⟨gb, 0, none⟩ = some (.slice (some ⟨gr, 0, none⟩) n n) := by have := h.box; simp [World.cell?, this]
theorem Tm.cO (h : Tm w P wv fv rv gd gr gb n A R W) {j : Nat} (hj : j < n) : W.cell? ⟨gd, j, none⟩ = some (.int .i64 (A j)) := by rw [h.ord.cellAt j (by omega)]; exact cellsZ_at _ hj
theorem Tm.cR (h : Tm w P wv fv rv gd gr gb n A R W) {j : Nat} (hj : j < n) : W.cell? ⟨gr, j, none⟩ = some (.int .i64 (R j)) := by rw [h.room.cellAt j (by omega)]; exact cellsZ_at _ hj
end
theorem cell_drew {W : World} {a : Addr} {v : Value} (h : W.cell? a = some v) : W.drew.cell? a = some v := h
theorem cell_setO {W : World} {g o g' o' : Nat} {v u : Value} (h : W.cell? ⟨g, o, none⟩ = some v) (hne : g ≠ g') : (W.setCell ⟨g', o', none⟩ u).cell? ⟨g, o, none⟩ = some v := by
  have := Below.heap_setCell W ⟨g', o', none⟩ u g hne
  simp only [World.cell?] at h ⊢
  rw [this]; exact h
theorem three (V : World) (o1 o2 o3 : Obj) : (((V.alloc o1).alloc o2).alloc o3).heap[V.heap.size]? = some o1 ∧ (((V.alloc o1).alloc o2).alloc o3).heap[V.heap.size + 1]? = some o2 ∧ (((V.alloc o1).alloc o2).alloc o3).heap[V.heap.size + 1 + 1]? = some o3 ∧ Below V.heap.size V (((V.alloc o1).alloc o2).alloc o3) := by
  obtain ⟨z1, n1, k1, b1⟩ := alloc_stH V o1 _ rfl
  obtain ⟨z2, n2, k2, b2⟩ := alloc_stH _ o2 _ z1
  obtain ⟨z3, n3, k3, b3⟩ := alloc_stH _ o3 _ z2
  exact ⟨k3 _ _ (k2 _ _ n1), k3 _ _ n2, n3, (b1.trans (b2.mono (by omega))).trans (b3.mono (by omega))⟩
theorem Tm.mk1 {w V W : World} {P : Pb} {wv fv rv : Value} {gd gr gb n : Nat} (hn : n ≤ 12) (hpV : PbB V w.heap.size P wv fv rv) (hbV : Below w.heap.size w V) (hs : V.heap.size = w.heap.size + 1) (hB : Below V.heap.size V W) (h1 : W.heap[gd]? = some (.cells (madeCells #[.int .i64 0] n) 3 (0, 0))) (h2 : W.heap[gr]? = some (.cells (madeCells #[.int .i64 0] n) 3 (0, 0))) (h3 : W.heap[gb]? = some (.cells #[.slice (some ⟨gr, 0, none⟩) n n] 23 (0, 0))) (g1 : V.heap.size ≤ gd) (g2 : V.heap.size ≤ gr) (g3 : V.heap.size ≤ gb) (hne : gd ≠ gr) :
    Tm w P wv fv rv gd gr gb n (fun _ => 0) (fun _ => 0) W := by
  have own : ∀ g, W.heap[g]? = some (.cells (madeCells #[.int .i64 0] n) 3 (0, 0)) → V.heap.size ≤ g → W.ownsRow (w.heap.size + 1) 3 1 (.slice (some ⟨g, 0, none⟩) n n) n (cellsZ (fun _ => 0) n) := fun g h hg => by
    refine ⟨by rw [cellsZ_len]; omega, .inr ⟨g, n, _, rfl, by omega, h, Nat.le_refl _, by unfold maxLen; omega, by rw [size_madeCells, Nat.mul_one], ?_⟩⟩
    rw [toList_madeCells_one, Nat.mul_one, List.take_of_length_le (by simp), cellsZ_zero]
  exact ⟨(hB.block _ (by omega)).trans hpV, own gd h1 g1, own gr h2 g2, h3, by omega, hne, hbV.trans (hB.mono hbV.size)⟩
theorem Tm.mk0 {w V W : World} {P : Pb} {wv fv rv : Value} {gd gr gb n : Nat} (hn : n ≤ 12) (hpV : PbB V w.heap.size P wv fv rv) (hbV : Below w.heap.size w V) (hs : V.heap.size = w.heap.size + 1) (hB : Below V.heap.size V W) (h1 : W.heap[gd]? = some (.cells (madeCells #[.int .i64 0] n) 3 (0, 0))) (h2 : W.heap[gr]? = some (.cells (madeCells #[.int .i64 0] n) 3 (0, 0))) (h3 : W.heap[gb]? = some (.cells #[.slice none 0 0] 23 (0, 0))) (g1 : V.heap.size ≤ gd) (g2 : V.heap.size ≤ gr) (g3 : V.heap.size ≤ gb) (hne : gd ≠ gr) (hne1 : gb ≠ gd) (hne2 : gb ≠ gr) :
    Tm w P wv fv rv gd gr gb n (fun _ => 0) (fun _ => 0) (W.setCell ⟨gb, 0, none⟩ (.slice (some ⟨gr, 0, none⟩) n n)) :=
  Tm.mk1 hn hpV hbV hs (hB.setCell (p := ⟨gb, 0, none⟩) g3 _) ((Below.heap_setCell W _ _ _ (fun e => hne1 e.symm)).trans h1) ((Below.heap_setCell W _ _ _ (fun e => hne2 e.symm)).trans h2) (by
    have := heap_setCell_same W gb 0 _ _ (.slice (some ⟨gr, 0, none⟩) n n) h3
    simpa using this) g1 g2 g3 hne
/-- The order as it is written down. -/
def oA (j t : Nat) : Int := if t < j then (t : Int) else 0
theorem oA_set (j : Nat) : (fun t => if t = j then (j : Int) else oA j t) = oA (j + 1) := by
  funext t
  unfold oA
  by_cases e : t = j
  · subst e; rw [if_pos rfl, if_pos (by omega)]
  · rw [if_neg e]
    by_cases e2 : t < j
    · rw [if_pos e2, if_pos (by omega)]
    · rw [if_neg e2, if_neg (by omega)]
set_option maxRecDepth 100000 in
set_option maxHeartbeats 8000000 in
theorem tightF (P : Pb) (wv fv rv : Value) (w : World) (h : PbV w P wv fv rv) (hn : P.who.length ≤ 12) (hf : P.fixed.length = P.who.length) (hx : ∀ x ∈ P.fixed, x = -1 ∨ (0 ≤ x ∧ x < 64)) (hw : ∀ z ∈ P.who, z < 18446744073709551616) (hlr : P.rules.length ≤ 1000) (hm : ∀ r ∈ P.rules, r.steps.length ≤ 1000) :
    Calls Tryz.prog 28 #[pbV P wv fv rv] w fun e w' => ∃ v O, e = .returned v ∧ Hid (RowI w' v (ints O)) ∧ Hid (O.Perm (List.range P.who.length)) ∧ Hid (Below w.heap.size w w') := by
  have hs := h.shape
  have hsz0 : (w.alloc (.cells #[.int .i64 P.users, wv, fv, rv] 26)).heap.size = w.heap.size + 1 := by simp
  have hbV : Below w.heap.size w (w.alloc (.cells #[.int .i64 P.users, wv, fv, rv] 26)) := (Below.refl _ w).alloc (Nat.le_refl _) _
  have hpV : PbB (w.alloc (.cells #[.int .i64 P.users, wv, fv, rv] 26)) w.heap.size P wv fv rv := heap_new w _
  have hmk := makeNH P.who.length (by omega)
  have KM : Hid (∀ (t : Nat) (V : World), t < P.who.length → Below w.heap.size w V → Calls Tryz.prog 33 #[pbV P wv fv rv, .int .i64 (t : Int)] V fun e w' => e = .returned (.int .u64 (mayP P t : Int)) ∧ Below V.heap.size V w') := fun t V ht hV => mayF P wv fv rv t V (h.below hV) ht (by omega) hx
  have KR : Hid (∀ (t : Nat) (V : World), Below w.heap.size w V → Calls Tryz.prog 61 #[pbV P wv fv rv, .int .i64 (t : Int)] V fun e w' => ∃ o c, e = .returned (.slice o (rulN P.rules (t : Int)).length c) ∧ Below V.heap.size V w') := fun t V hV => (rulesOfF P wv fv rv (t : Int) V (h.below hV) hlr hm).mono (by
    rintro e w' ⟨v, E, rfl, hE, hT, hb⟩
    obtain ⟨o, c, rfl⟩ := own_shp hT.row
    have := congrArg List.length hE
    rw [List.length_map] at this
    rw [this]
    exact ⟨o, c, rfl, hb⟩)
  have KO : Hid (∀ (t : Nat) (V : World), Calls Tryz.prog 60 #[.int .u64 (mayP P t : Int)] V fun e w' => e = .returned (.int .i64 ((M.nums (mayP P t)).length : Int)) ∧ w' = V) := fun t V => M.ones64m (mayP P t) (mayP_lt hw hx t) V
  have hlr' : Hid (∀ t : Nat, (rulN P.rules (t : Int)).length ≤ 1000 ∧ (M.nums (mayP P t)).length ≤ 64) := fun t => ⟨Nat.le_trans (List.length_filter_le _ _) hlr, by rw [M.len_nums]; exact M.cnt_le 64 _⟩
  have hB0 : Hid (Below w.heap.size w (w.alloc (.cells #[.int .i64 P.users, wv, fv, rv] 26)) ∧ PbB (w.alloc (.cells #[.int .i64 P.users, wv, fv, rv] 26)) w.heap.size P wv fv rv) := ⟨hbV, hpV⟩
  have hS0 : Hid ((w.alloc (.cells #[.int .i64 P.users, wv, fv, rv] 26)).cell? ⟨w.heap.size, 1, none⟩ = some wv) := hpV.c1
  obtain ⟨ow, cw, of, cf, or, cr, rfl, rfl, rfl⟩ := hs
  unfold pbV at KM KR ⊢
  have hn0 : ¬ (P.who.length : Int) < 0 := by omega
  clear h hx hw hm hf hbV hpV
  have hsz0' := hide' hsz0
  clear hsz0
  go_enter Tryz.func28, Tryz.ntmps28
  go_upto_region 1 with fail
  go_cut [3, 4] from 6 to 13 (fun s t wx => ∃ gd gr gb, s = .slice (some ⟨gd, 0, none⟩) P.who.length P.who.length ∧ t = .pointer (some ⟨gb, 0, none⟩) ∧ Hid (Tm w P (.slice ow P.who.length cw) (.slice of P.fixed.length cf) (.slice or P.rules.length cr) gd gr gb P.who.length (fun _ => 0) (fun _ => 0) wx))
  case first =>
    as_aux_lemma =>
    refine wp_region_held_drew (S := (fun V => V.cell? ⟨w.heap.size, 1, none⟩ = some (.slice ow P.who.length cw))) (by kernel_rfl) ?_ (fun hHeld => ?_)
    · exact cell_drew hS0.out
    refine wpAnyH_take (i := 0) (oi := { dst := some 6, op := Op.fieldAddr 26 (Operand.tmp 1) 1, type := 0, pos := "order.go:14", after := #[], guard := none }) (v := ?_) rfl (by kernel_rfl) (by kernel_rfl) (by kernel_rfl) (fun _ _ _ h => h) (Or.inl ⟨by rfl, ?_⟩) (by assumption) ?_
    rotate_left
    · intro w hSw; (try dsimp only at hSw); go_simp <;> with_reducible rfl
    simp only [Act.put, List.setIfInBounds_toArray, List.set_cons_zero, List.set_cons_succ]
    refine wpAnyH_take (i := 1) (oi := { dst := some 7, op := Op.load 22 (Operand.tmp 6), type := 22, pos := "order.go:14", after := #[{ on := 0, ground := Ground.data }], guard := none }) (v := ?_) rfl (by kernel_rfl) (by kernel_rfl) (by kernel_rfl) (fun _ _ _ h => h) (Or.inl ⟨by rfl, ?_⟩) (by assumption) ?_
    rotate_left
    · intro w hSw; (try dsimp only at hSw); go_simp <;> with_reducible rfl
    simp only [Act.put, List.setIfInBounds_toArray, List.set_cons_zero, List.set_cons_succ]
    refine wpAnyH_take (i := 2) (oi := { dst := some 8, op := Op.call { callee := Callee.builtin Builtin.len, args := #[Operand.tmp 7], argTypes := #[22] }, type := 3, pos := "order.go:14", after := #[{ on := 1, ground := Ground.data }], guard := none }) (v := ?_) rfl (by kernel_rfl) (by kernel_rfl) (by kernel_rfl) (fun _ _ _ h => h) (Or.inl ⟨by rfl, ?_⟩) (by assumption) ?_
    rotate_left
    · intro w hSw; (try dsimp only at hSw); go_simp <;> with_reducible rfl
    simp only [Act.put, List.setIfInBounds_toArray, List.set_cons_zero, List.set_cons_succ]
    refine wpAnyH_take (i := 4) (oi := { dst := some 10, op := Op.fieldAddr 26 (Operand.tmp 1) 1, type := 0, pos := "order.go:14", after := #[], guard := none }) (v := ?_) rfl (by kernel_rfl) (by kernel_rfl) (by kernel_rfl) (fun _ _ _ h => h) (Or.inl ⟨by rfl, ?_⟩) (by assumption) ?_
    rotate_left
    · intro w hSw; (try dsimp only at hSw); go_simp <;> with_reducible rfl
    simp only [Act.put, List.setIfInBounds_toArray, List.set_cons_zero, List.set_cons_succ]
    refine wpAnyH_take (i := 5) (oi := { dst := some 11, op := Op.load 22 (Operand.tmp 10), type := 22, pos := "order.go:14", after := #[{ on := 4, ground := Ground.data }], guard := none }) (v := ?_) rfl (by kernel_rfl) (by kernel_rfl) (by kernel_rfl) (fun _ _ _ h => h) (Or.inl ⟨by rfl, ?_⟩) (by assumption) ?_
    rotate_left
    · intro w hSw; (try dsimp only at hSw); go_simp <;> with_reducible rfl
    simp only [Act.put, List.setIfInBounds_toArray, List.set_cons_zero, List.set_cons_succ]
    refine wpAnyH_take (i := 6) (oi := { dst := some 12, op := Op.call { callee := Callee.builtin Builtin.len, args := #[Operand.tmp 11], argTypes := #[22] }, type := 3, pos := "order.go:14", after := #[{ on := 5, ground := Ground.data }], guard := none }) (v := ?_) rfl (by kernel_rfl) (by kernel_rfl) (by kernel_rfl) (fun _ _ _ h => h) (Or.inl ⟨by rfl, ?_⟩) (by assumption) ?_
    rotate_left
    · intro w hSw; (try dsimp only at hSw); go_simp <;> with_reducible rfl
    simp only [Act.put, List.setIfInBounds_toArray, List.set_cons_zero, List.set_cons_succ]
    refine wpAnyH_ready (rs := [3, 7, 8]) (by kernel_rfl) (by simp) ?_
    refine AllReadyH.cons (o := { dst := some 9, op := Op.makeSlice 23 (Operand.tmp 8) (Operand.tmp 8), type := 23, pos := "order.go:14", after := #[{ on := 2, ground := Ground.data }, { on := 2, ground := Ground.data }], guard := none }) rfl (fun K hK => ?_) ?_
    · skip
      go_simp
      refine hK.out _ _ ?_ (fun hHeld => ?_)
      · exact cell_drew (cell_new hS0.out)
      clear hK K
      try simp only [Act.put, List.setIfInBounds_toArray, List.set_cons_zero, List.set_cons_succ]
      refine wpAnyH_ready (rs := [7, 8]) (by kernel_rfl) (by simp) ?_
      refine AllReadyH.cons (o := { dst := some 13, op := Op.makeSlice 23 (Operand.tmp 12) (Operand.tmp 12), type := 23, pos := "order.go:14", after := #[{ on := 6, ground := Ground.data }, { on := 6, ground := Ground.data }], guard := none }) rfl (fun K hK => ?_) ?_
      · skip
        go_simp
        refine hK.out _ _ ?_ (fun hHeld => ?_)
        · exact cell_drew (cell_new (cell_new hS0.out))
        clear hK K
        try simp only [Act.put, List.setIfInBounds_toArray, List.set_cons_zero, List.set_cons_succ]
        refine wpAnyH_ready (rs := [8]) (by kernel_rfl) (by simp) ?_
        refine AllReadyH.cons (o := { dst := some 4, op := Op.alloc 23, type := 0, pos := "order.go:14", after := #[], guard := none }) rfl (fun K hK => ?_) AllReadyH.nil
        go_simp
        refine hK.out _ _ ?_ (fun hHeld => ?_)
        · exact cell_drew (cell_new (cell_new (cell_new hS0.out)))
        clear hK K
        try simp only [Act.put, List.setIfInBounds_toArray, List.set_cons_zero, List.set_cons_succ]
        refine wpAnyH_take (i := 9) (oi := { dst := some 3, op := Op.assign (Operand.tmp 9), type := 23, pos := "order.go:14", after := #[{ on := 3, ground := Ground.data }, { on := 0, ground := Ground.phase }, { on := 1, ground := Ground.phase }, { on := 2, ground := Ground.phase }, { on := 3, ground := Ground.phase }, { on := 4, ground := Ground.textOnly Departure.lateStores }, { on := 5, ground := Ground.textOnly Departure.lateStores }, { on := 6, ground := Ground.textOnly Departure.lateStoresUnsure }, { on := 7, ground := Ground.textOnly Departure.lateStoresUnsure }, { on := 8, ground := Ground.phase }], guard := none }) (v := ?_) rfl (by kernel_rfl) (by kernel_rfl) (by kernel_rfl) (fun _ _ _ h => h) (Or.inl ⟨by rfl, ?_⟩) (by assumption) ?_
        rotate_left
        · intro w hSw; (try dsimp only at hSw); go_simp <;> with_reducible rfl
        simp only [Act.put, List.setIfInBounds_toArray, List.set_cons_zero, List.set_cons_succ]
        refine wpAnyH_ready (rs := [10]) (by kernel_rfl) (by simp) ?_
        refine AllReadyH.cons (o := { dst := none, op := Op.store 23 (Operand.tmp 4) (Operand.tmp 13), type := 0, pos := "order.go:14", after := #[{ on := 8, ground := Ground.data }, { on := 7, ground := Ground.data }, { on := 9, ground := Ground.chain }, { on := 0, ground := Ground.phase }, { on := 1, ground := Ground.phase }, { on := 2, ground := Ground.phase }, { on := 3, ground := Ground.phase }, { on := 4, ground := Ground.phase }, { on := 5, ground := Ground.phase }, { on := 6, ground := Ground.phase }, { on := 7, ground := Ground.phase }, { on := 8, ground := Ground.phase }, { on := 9, ground := Ground.phase }], guard := none }) rfl (fun K hK => ?_) AllReadyH.nil
        go_simp
        refine hK.out _ _ ?_ (fun hHeld => ?_)
        · first | exact cell_drew (cell_new (cell_new (cell_new hS0.out))) | exact cell_drew (cell_setO (cell_new (cell_new (cell_new hS0.out))) (by omega))
        clear hK K
        try simp only [Act.put, List.setIfInBounds_toArray, List.set_cons_zero, List.set_cons_succ]
        refine wpAnyH_done (by kernel_rfl) ?_ _
        skip
        go_wp2
        go_meet
        first | (have h3 := three (w.alloc (.cells #[.int .i64 P.users, .slice ow P.who.length cw, .slice of P.fixed.length cf, .slice or P.rules.length cr] 26)) (.cells (madeCells #[.int .i64 0] P.who.length) 3) (.cells (madeCells #[.int .i64 0] P.who.length) 3) (.cells #[.slice (some ⟨w.heap.size + 1 + 1, 0, none⟩) P.who.length P.who.length] 23); rw [hsz0'.out] at h3; have hT := Tm.mk1 (w := w) (V := (w.alloc (.cells #[.int .i64 P.users, .slice ow P.who.length cw, .slice of P.fixed.length cf, .slice or P.rules.length cr] 26))) hn hB0.out.2 hB0.out.1 hsz0'.out (by rw [hsz0'.out]; exact h3.2.2.2) h3.1 h3.2.1 h3.2.2.1 (by rw [hsz0'.out]; omega) (by rw [hsz0'.out]; omega) (by rw [hsz0'.out]; omega) (by omega); exact ⟨_, _, _, rfl, rfl, hT.over (Below.refl _ _).drew⟩) | (have h3 := three (w.alloc (.cells #[.int .i64 P.users, .slice ow P.who.length cw, .slice of P.fixed.length cf, .slice or P.rules.length cr] 26)) (.cells (madeCells #[.int .i64 0] P.who.length) 3) (.cells (madeCells #[.int .i64 0] P.who.length) 3) (.cells #[.slice none 0 0] 23); rw [hsz0'.out] at h3; have hT := Tm.mk0 (w := w) (V := (w.alloc (.cells #[.int .i64 P.users, .slice ow P.who.length cw, .slice of P.fixed.length cf, .slice or P.rules.length cr] 26))) hn hB0.out.2 hB0.out.1 hsz0'.out (by rw [hsz0'.out]; exact h3.2.2.2) h3.1 h3.2.1 h3.2.2.1 (by rw [hsz0'.out]; omega) (by rw [hsz0'.out]; omega) (by rw [hsz0'.out]; omega) (by omega) (by omega) (by omega); exact ⟨_, _, _, rfl, rfl, hT.over (Below.refl _ _).drew⟩)
      refine AllReadyH.cons (o := { dst := some 4, op := Op.alloc 23, type := 0, pos := "order.go:14", after := #[], guard := none }) rfl (fun K hK => ?_) AllReadyH.nil
      go_simp
      refine hK.out _ _ ?_ (fun hHeld => ?_)
      · exact cell_drew (cell_new (cell_new hS0.out))
      clear hK K
      try simp only [Act.put, List.setIfInBounds_toArray, List.set_cons_zero, List.set_cons_succ]
      refine wpAnyH_take (i := 9) (oi := { dst := some 3, op := Op.assign (Operand.tmp 9), type := 23, pos := "order.go:14", after := #[{ on := 3, ground := Ground.data }, { on := 0, ground := Ground.phase }, { on := 1, ground := Ground.phase }, { on := 2, ground := Ground.phase }, { on := 3, ground := Ground.phase }, { on := 4, ground := Ground.textOnly Departure.lateStores }, { on := 5, ground := Ground.textOnly Departure.lateStores }, { on := 6, ground := Ground.textOnly Departure.lateStoresUnsure }, { on := 7, ground := Ground.textOnly Departure.lateStoresUnsure }, { on := 8, ground := Ground.phase }], guard := none }) (v := ?_) rfl (by kernel_rfl) (by kernel_rfl) (by kernel_rfl) (fun _ _ _ h => h) (Or.inl ⟨by rfl, ?_⟩) (by assumption) ?_
      rotate_left
      · intro w hSw; (try dsimp only at hSw); go_simp <;> with_reducible rfl
      simp only [Act.put, List.setIfInBounds_toArray, List.set_cons_zero, List.set_cons_succ]
      refine wpAnyH_ready (rs := [7]) (by kernel_rfl) (by simp) ?_
      refine AllReadyH.cons (o := { dst := some 13, op := Op.makeSlice 23 (Operand.tmp 12) (Operand.tmp 12), type := 23, pos := "order.go:14", after := #[{ on := 6, ground := Ground.data }, { on := 6, ground := Ground.data }], guard := none }) rfl (fun K hK => ?_) AllReadyH.nil
      go_simp
      refine hK.out _ _ ?_ (fun hHeld => ?_)
      · exact cell_drew (cell_new (cell_new (cell_new hS0.out)))
      clear hK K
      try simp only [Act.put, List.setIfInBounds_toArray, List.set_cons_zero, List.set_cons_succ]
      refine wpAnyH_ready (rs := [10]) (by kernel_rfl) (by simp) ?_
      refine AllReadyH.cons (o := { dst := none, op := Op.store 23 (Operand.tmp 4) (Operand.tmp 13), type := 0, pos := "order.go:14", after := #[{ on := 8, ground := Ground.data }, { on := 7, ground := Ground.data }, { on := 9, ground := Ground.chain }, { on := 0, ground := Ground.phase }, { on := 1, ground := Ground.phase }, { on := 2, ground := Ground.phase }, { on := 3, ground := Ground.phase }, { on := 4, ground := Ground.phase }, { on := 5, ground := Ground.phase }, { on := 6, ground := Ground.phase }, { on := 7, ground := Ground.phase }, { on := 8, ground := Ground.phase }, { on := 9, ground := Ground.phase }], guard := none }) rfl (fun K hK => ?_) AllReadyH.nil
      go_simp
      refine hK.out _ _ ?_ (fun hHeld => ?_)
      · first | exact cell_drew (cell_new (cell_new (cell_new hS0.out))) | exact cell_drew (cell_setO (cell_new (cell_new (cell_new hS0.out))) (by omega))
      clear hK K
      try simp only [Act.put, List.setIfInBounds_toArray, List.set_cons_zero, List.set_cons_succ]
      refine wpAnyH_done (by kernel_rfl) ?_ _
      skip
      go_wp2
      go_meet
      first | (have h3 := three (w.alloc (.cells #[.int .i64 P.users, .slice ow P.who.length cw, .slice of P.fixed.length cf, .slice or P.rules.length cr] 26)) (.cells (madeCells #[.int .i64 0] P.who.length) 3) (.cells #[.slice none 0 0] 23) (.cells (madeCells #[.int .i64 0] P.who.length) 3); rw [hsz0'.out] at h3; have hT := Tm.mk0 (w := w) (V := (w.alloc (.cells #[.int .i64 P.users, .slice ow P.who.length cw, .slice of P.fixed.length cf, .slice or P.rules.length cr] 26))) hn hB0.out.2 hB0.out.1 hsz0'.out (by rw [hsz0'.out]; exact h3.2.2.2) h3.1 h3.2.2.1 h3.2.1 (by rw [hsz0'.out]; omega) (by rw [hsz0'.out]; omega) (by rw [hsz0'.out]; omega) (by omega) (by omega) (by omega); exact ⟨_, _, _, rfl, rfl, hT.over (Below.refl _ _).drew⟩) | (have h3 := three (w.alloc (.cells #[.int .i64 P.users, .slice ow P.who.length cw, .slice of P.fixed.length cf, .slice or P.rules.length cr] 26)) (.cells (madeCells #[.int .i64 0] P.who.length) 3) (.cells #[.slice (some ⟨w.heap.size + 1 + 1 + 1, 0, none⟩) P.who.length P.who.length] 23) (.cells (madeCells #[.int .i64 0] P.who.length) 3); rw [hsz0'.out] at h3; have hT := Tm.mk1 (w := w) (V := (w.alloc (.cells #[.int .i64 P.users, .slice ow P.who.length cw, .slice of P.fixed.length cf, .slice or P.rules.length cr] 26))) hn hB0.out.2 hB0.out.1 hsz0'.out (by rw [hsz0'.out]; exact h3.2.2.2) h3.1 h3.2.2.1 h3.2.1 (by rw [hsz0'.out]; omega) (by rw [hsz0'.out]; omega) (by rw [hsz0'.out]; omega) (by omega); exact ⟨_, _, _, rfl, rfl, hT.over (Below.refl _ _).drew⟩)
    refine AllReadyH.cons (o := { dst := some 13, op := Op.makeSlice 23 (Operand.tmp 12) (Operand.tmp 12), type := 23, pos := "order.go:14", after := #[{ on := 6, ground := Ground.data }, { on := 6, ground := Ground.data }], guard := none }) rfl (fun K hK => ?_) ?_
    · skip
      go_simp
      refine hK.out _ _ ?_ (fun hHeld => ?_)
      · exact cell_drew (cell_new hS0.out)
      clear hK K
      try simp only [Act.put, List.setIfInBounds_toArray, List.set_cons_zero, List.set_cons_succ]
      refine wpAnyH_ready (rs := [3, 8]) (by kernel_rfl) (by simp) ?_
      refine AllReadyH.cons (o := { dst := some 9, op := Op.makeSlice 23 (Operand.tmp 8) (Operand.tmp 8), type := 23, pos := "order.go:14", after := #[{ on := 2, ground := Ground.data }, { on := 2, ground := Ground.data }], guard := none }) rfl (fun K hK => ?_) ?_
      · skip
        go_simp
        refine hK.out _ _ ?_ (fun hHeld => ?_)
        · exact cell_drew (cell_new (cell_new hS0.out))
        clear hK K
        try simp only [Act.put, List.setIfInBounds_toArray, List.set_cons_zero, List.set_cons_succ]
        refine wpAnyH_ready (rs := [8]) (by kernel_rfl) (by simp) ?_
        refine AllReadyH.cons (o := { dst := some 4, op := Op.alloc 23, type := 0, pos := "order.go:14", after := #[], guard := none }) rfl (fun K hK => ?_) AllReadyH.nil
        go_simp
        refine hK.out _ _ ?_ (fun hHeld => ?_)
        · exact cell_drew (cell_new (cell_new (cell_new hS0.out)))
        clear hK K
        try simp only [Act.put, List.setIfInBounds_toArray, List.set_cons_zero, List.set_cons_succ]
        refine wpAnyH_take (i := 9) (oi := { dst := some 3, op := Op.assign (Operand.tmp 9), type := 23, pos := "order.go:14", after := #[{ on := 3, ground := Ground.data }, { on := 0, ground := Ground.phase }, { on := 1, ground := Ground.phase }, { on := 2, ground := Ground.phase }, { on := 3, ground := Ground.phase }, { on := 4, ground := Ground.textOnly Departure.lateStores }, { on := 5, ground := Ground.textOnly Departure.lateStores }, { on := 6, ground := Ground.textOnly Departure.lateStoresUnsure }, { on := 7, ground := Ground.textOnly Departure.lateStoresUnsure }, { on := 8, ground := Ground.phase }], guard := none }) (v := ?_) rfl (by kernel_rfl) (by kernel_rfl) (by kernel_rfl) (fun _ _ _ h => h) (Or.inl ⟨by rfl, ?_⟩) (by assumption) ?_
        rotate_left
        · intro w hSw; (try dsimp only at hSw); go_simp <;> with_reducible rfl
        simp only [Act.put, List.setIfInBounds_toArray, List.set_cons_zero, List.set_cons_succ]
        refine wpAnyH_ready (rs := [10]) (by kernel_rfl) (by simp) ?_
        refine AllReadyH.cons (o := { dst := none, op := Op.store 23 (Operand.tmp 4) (Operand.tmp 13), type := 0, pos := "order.go:14", after := #[{ on := 8, ground := Ground.data }, { on := 7, ground := Ground.data }, { on := 9, ground := Ground.chain }, { on := 0, ground := Ground.phase }, { on := 1, ground := Ground.phase }, { on := 2, ground := Ground.phase }, { on := 3, ground := Ground.phase }, { on := 4, ground := Ground.phase }, { on := 5, ground := Ground.phase }, { on := 6, ground := Ground.phase }, { on := 7, ground := Ground.phase }, { on := 8, ground := Ground.phase }, { on := 9, ground := Ground.phase }], guard := none }) rfl (fun K hK => ?_) AllReadyH.nil
        go_simp
        refine hK.out _ _ ?_ (fun hHeld => ?_)
        · first | exact cell_drew (cell_new (cell_new (cell_new hS0.out))) | exact cell_drew (cell_setO (cell_new (cell_new (cell_new hS0.out))) (by omega))
        clear hK K
        try simp only [Act.put, List.setIfInBounds_toArray, List.set_cons_zero, List.set_cons_succ]
        refine wpAnyH_done (by kernel_rfl) ?_ _
        skip
        go_wp2
        go_meet
        first | (have h3 := three (w.alloc (.cells #[.int .i64 P.users, .slice ow P.who.length cw, .slice of P.fixed.length cf, .slice or P.rules.length cr] 26)) (.cells (madeCells #[.int .i64 0] P.who.length) 3) (.cells (madeCells #[.int .i64 0] P.who.length) 3) (.cells #[.slice (some ⟨w.heap.size + 1, 0, none⟩) P.who.length P.who.length] 23); rw [hsz0'.out] at h3; have hT := Tm.mk1 (w := w) (V := (w.alloc (.cells #[.int .i64 P.users, .slice ow P.who.length cw, .slice of P.fixed.length cf, .slice or P.rules.length cr] 26))) hn hB0.out.2 hB0.out.1 hsz0'.out (by rw [hsz0'.out]; exact h3.2.2.2) h3.2.1 h3.1 h3.2.2.1 (by rw [hsz0'.out]; omega) (by rw [hsz0'.out]; omega) (by rw [hsz0'.out]; omega) (by omega); exact ⟨_, _, _, rfl, rfl, hT.over (Below.refl _ _).drew⟩) | (have h3 := three (w.alloc (.cells #[.int .i64 P.users, .slice ow P.who.length cw, .slice of P.fixed.length cf, .slice or P.rules.length cr] 26)) (.cells (madeCells #[.int .i64 0] P.who.length) 3) (.cells (madeCells #[.int .i64 0] P.who.length) 3) (.cells #[.slice none 0 0] 23); rw [hsz0'.out] at h3; have hT := Tm.mk0 (w := w) (V := (w.alloc (.cells #[.int .i64 P.users, .slice ow P.who.length cw, .slice of P.fixed.length cf, .slice or P.rules.length cr] 26))) hn hB0.out.2 hB0.out.1 hsz0'.out (by rw [hsz0'.out]; exact h3.2.2.2) h3.2.1 h3.1 h3.2.2.1 (by rw [hsz0'.out]; omega) (by rw [hsz0'.out]; omega) (by rw [hsz0'.out]; omega) (by omega) (by omega) (by omega); exact ⟨_, _, _, rfl, rfl, hT.over (Below.refl _ _).drew⟩)
      refine AllReadyH.cons (o := { dst := some 4, op := Op.alloc 23, type := 0, pos := "order.go:14", after := #[], guard := none }) rfl (fun K hK => ?_) AllReadyH.nil
      go_simp
      refine hK.out _ _ ?_ (fun hHeld => ?_)
      · exact cell_drew (cell_new (cell_new hS0.out))
      clear hK K
      try simp only [Act.put, List.setIfInBounds_toArray, List.set_cons_zero, List.set_cons_succ]
      refine wpAnyH_ready (rs := [3]) (by kernel_rfl) (by simp) ?_
      refine AllReadyH.cons (o := { dst := some 9, op := Op.makeSlice 23 (Operand.tmp 8) (Operand.tmp 8), type := 23, pos := "order.go:14", after := #[{ on := 2, ground := Ground.data }, { on := 2, ground := Ground.data }], guard := none }) rfl (fun K hK => ?_) AllReadyH.nil
      go_simp
      refine hK.out _ _ ?_ (fun hHeld => ?_)
      · exact cell_drew (cell_new (cell_new (cell_new hS0.out)))
      clear hK K
      try simp only [Act.put, List.setIfInBounds_toArray, List.set_cons_zero, List.set_cons_succ]
      refine wpAnyH_take (i := 9) (oi := { dst := some 3, op := Op.assign (Operand.tmp 9), type := 23, pos := "order.go:14", after := #[{ on := 3, ground := Ground.data }, { on := 0, ground := Ground.phase }, { on := 1, ground := Ground.phase }, { on := 2, ground := Ground.phase }, { on := 3, ground := Ground.phase }, { on := 4, ground := Ground.textOnly Departure.lateStores }, { on := 5, ground := Ground.textOnly Departure.lateStores }, { on := 6, ground := Ground.textOnly Departure.lateStoresUnsure }, { on := 7, ground := Ground.textOnly Departure.lateStoresUnsure }, { on := 8, ground := Ground.phase }], guard := none }) (v := ?_) rfl (by kernel_rfl) (by kernel_rfl) (by kernel_rfl) (fun _ _ _ h => h) (Or.inl ⟨by rfl, ?_⟩) (by assumption) ?_
      rotate_left
      · intro w hSw; (try dsimp only at hSw); go_simp <;> with_reducible rfl
      simp only [Act.put, List.setIfInBounds_toArray, List.set_cons_zero, List.set_cons_succ]
      refine wpAnyH_ready (rs := [10]) (by kernel_rfl) (by simp) ?_
      refine AllReadyH.cons (o := { dst := none, op := Op.store 23 (Operand.tmp 4) (Operand.tmp 13), type := 0, pos := "order.go:14", after := #[{ on := 8, ground := Ground.data }, { on := 7, ground := Ground.data }, { on := 9, ground := Ground.chain }, { on := 0, ground := Ground.phase }, { on := 1, ground := Ground.phase }, { on := 2, ground := Ground.phase }, { on := 3, ground := Ground.phase }, { on := 4, ground := Ground.phase }, { on := 5, ground := Ground.phase }, { on := 6, ground := Ground.phase }, { on := 7, ground := Ground.phase }, { on := 8, ground := Ground.phase }, { on := 9, ground := Ground.phase }], guard := none }) rfl (fun K hK => ?_) AllReadyH.nil
      go_simp
      refine hK.out _ _ ?_ (fun hHeld => ?_)
      · first | exact cell_drew (cell_new (cell_new (cell_new hS0.out))) | exact cell_drew (cell_setO (cell_new (cell_new (cell_new hS0.out))) (by omega))
      clear hK K
      try simp only [Act.put, List.setIfInBounds_toArray, List.set_cons_zero, List.set_cons_succ]
      refine wpAnyH_done (by kernel_rfl) ?_ _
      skip
      go_wp2
      go_meet
      first | (have h3 := three (w.alloc (.cells #[.int .i64 P.users, .slice ow P.who.length cw, .slice of P.fixed.length cf, .slice or P.rules.length cr] 26)) (.cells (madeCells #[.int .i64 0] P.who.length) 3) (.cells #[.slice none 0 0] 23) (.cells (madeCells #[.int .i64 0] P.who.length) 3); rw [hsz0'.out] at h3; have hT := Tm.mk0 (w := w) (V := (w.alloc (.cells #[.int .i64 P.users, .slice ow P.who.length cw, .slice of P.fixed.length cf, .slice or P.rules.length cr] 26))) hn hB0.out.2 hB0.out.1 hsz0'.out (by rw [hsz0'.out]; exact h3.2.2.2) h3.2.2.1 h3.1 h3.2.1 (by rw [hsz0'.out]; omega) (by rw [hsz0'.out]; omega) (by rw [hsz0'.out]; omega) (by omega) (by omega) (by omega); exact ⟨_, _, _, rfl, rfl, hT.over (Below.refl _ _).drew⟩) | (have h3 := three (w.alloc (.cells #[.int .i64 P.users, .slice ow P.who.length cw, .slice of P.fixed.length cf, .slice or P.rules.length cr] 26)) (.cells (madeCells #[.int .i64 0] P.who.length) 3) (.cells #[.slice (some ⟨w.heap.size + 1, 0, none⟩) P.who.length P.who.length] 23) (.cells (madeCells #[.int .i64 0] P.who.length) 3); rw [hsz0'.out] at h3; have hT := Tm.mk1 (w := w) (V := (w.alloc (.cells #[.int .i64 P.users, .slice ow P.who.length cw, .slice of P.fixed.length cf, .slice or P.rules.length cr] 26))) hn hB0.out.2 hB0.out.1 hsz0'.out (by rw [hsz0'.out]; exact h3.2.2.2) h3.2.2.1 h3.1 h3.2.1 (by rw [hsz0'.out]; omega) (by rw [hsz0'.out]; omega) (by rw [hsz0'.out]; omega) (by omega); exact ⟨_, _, _, rfl, rfl, hT.over (Below.refl _ _).drew⟩)
    refine AllReadyH.cons (o := { dst := some 4, op := Op.alloc 23, type := 0, pos := "order.go:14", after := #[], guard := none }) rfl (fun K hK => ?_) AllReadyH.nil
    go_simp
    refine hK.out _ _ ?_ (fun hHeld => ?_)
    · exact cell_drew (cell_new hS0.out)
    clear hK K
    try simp only [Act.put, List.setIfInBounds_toArray, List.set_cons_zero, List.set_cons_succ]
    refine wpAnyH_ready (rs := [3, 7]) (by kernel_rfl) (by simp) ?_
    refine AllReadyH.cons (o := { dst := some 9, op := Op.makeSlice 23 (Operand.tmp 8) (Operand.tmp 8), type := 23, pos := "order.go:14", after := #[{ on := 2, ground := Ground.data }, { on := 2, ground := Ground.data }], guard := none }) rfl (fun K hK => ?_) ?_
    · skip
      go_simp
      refine hK.out _ _ ?_ (fun hHeld => ?_)
      · exact cell_drew (cell_new (cell_new hS0.out))
      clear hK K
      try simp only [Act.put, List.setIfInBounds_toArray, List.set_cons_zero, List.set_cons_succ]
      refine wpAnyH_take (i := 9) (oi := { dst := some 3, op := Op.assign (Operand.tmp 9), type := 23, pos := "order.go:14", after := #[{ on := 3, ground := Ground.data }, { on := 0, ground := Ground.phase }, { on := 1, ground := Ground.phase }, { on := 2, ground := Ground.phase }, { on := 3, ground := Ground.phase }, { on := 4, ground := Ground.textOnly Departure.lateStores }, { on := 5, ground := Ground.textOnly Departure.lateStores }, { on := 6, ground := Ground.textOnly Departure.lateStoresUnsure }, { on := 7, ground := Ground.textOnly Departure.lateStoresUnsure }, { on := 8, ground := Ground.phase }], guard := none }) (v := ?_) rfl (by kernel_rfl) (by kernel_rfl) (by kernel_rfl) (fun _ _ _ h => h) (Or.inl ⟨by rfl, ?_⟩) (by assumption) ?_
      rotate_left
      · intro w hSw; (try dsimp only at hSw); go_simp <;> with_reducible rfl
      simp only [Act.put, List.setIfInBounds_toArray, List.set_cons_zero, List.set_cons_succ]
      refine wpAnyH_ready (rs := [7]) (by kernel_rfl) (by simp) ?_
      refine AllReadyH.cons (o := { dst := some 13, op := Op.makeSlice 23 (Operand.tmp 12) (Operand.tmp 12), type := 23, pos := "order.go:14", after := #[{ on := 6, ground := Ground.data }, { on := 6, ground := Ground.data }], guard := none }) rfl (fun K hK => ?_) AllReadyH.nil
      go_simp
      refine hK.out _ _ ?_ (fun hHeld => ?_)
      · exact cell_drew (cell_new (cell_new (cell_new hS0.out)))
      clear hK K
      try simp only [Act.put, List.setIfInBounds_toArray, List.set_cons_zero, List.set_cons_succ]
      refine wpAnyH_ready (rs := [10]) (by kernel_rfl) (by simp) ?_
      refine AllReadyH.cons (o := { dst := none, op := Op.store 23 (Operand.tmp 4) (Operand.tmp 13), type := 0, pos := "order.go:14", after := #[{ on := 8, ground := Ground.data }, { on := 7, ground := Ground.data }, { on := 9, ground := Ground.chain }, { on := 0, ground := Ground.phase }, { on := 1, ground := Ground.phase }, { on := 2, ground := Ground.phase }, { on := 3, ground := Ground.phase }, { on := 4, ground := Ground.phase }, { on := 5, ground := Ground.phase }, { on := 6, ground := Ground.phase }, { on := 7, ground := Ground.phase }, { on := 8, ground := Ground.phase }, { on := 9, ground := Ground.phase }], guard := none }) rfl (fun K hK => ?_) AllReadyH.nil
      go_simp
      refine hK.out _ _ ?_ (fun hHeld => ?_)
      · first | exact cell_drew (cell_new (cell_new (cell_new hS0.out))) | exact cell_drew (cell_setO (cell_new (cell_new (cell_new hS0.out))) (by omega))
      clear hK K
      try simp only [Act.put, List.setIfInBounds_toArray, List.set_cons_zero, List.set_cons_succ]
      refine wpAnyH_done (by kernel_rfl) ?_ _
      skip
      go_wp2
      go_meet
      first | (have h3 := three (w.alloc (.cells #[.int .i64 P.users, .slice ow P.who.length cw, .slice of P.fixed.length cf, .slice or P.rules.length cr] 26)) (.cells #[.slice none 0 0] 23) (.cells (madeCells #[.int .i64 0] P.who.length) 3) (.cells (madeCells #[.int .i64 0] P.who.length) 3); rw [hsz0'.out] at h3; have hT := Tm.mk0 (w := w) (V := (w.alloc (.cells #[.int .i64 P.users, .slice ow P.who.length cw, .slice of P.fixed.length cf, .slice or P.rules.length cr] 26))) hn hB0.out.2 hB0.out.1 hsz0'.out (by rw [hsz0'.out]; exact h3.2.2.2) h3.2.1 h3.2.2.1 h3.1 (by rw [hsz0'.out]; omega) (by rw [hsz0'.out]; omega) (by rw [hsz0'.out]; omega) (by omega) (by omega) (by omega); exact ⟨_, _, _, rfl, rfl, hT.over (Below.refl _ _).drew⟩) | (have h3 := three (w.alloc (.cells #[.int .i64 P.users, .slice ow P.who.length cw, .slice of P.fixed.length cf, .slice or P.rules.length cr] 26)) (.cells #[.slice (some ⟨w.heap.size + 1 + 1 + 1, 0, none⟩) P.who.length P.who.length] 23) (.cells (madeCells #[.int .i64 0] P.who.length) 3) (.cells (madeCells #[.int .i64 0] P.who.length) 3); rw [hsz0'.out] at h3; have hT := Tm.mk1 (w := w) (V := (w.alloc (.cells #[.int .i64 P.users, .slice ow P.who.length cw, .slice of P.fixed.length cf, .slice or P.rules.length cr] 26))) hn hB0.out.2 hB0.out.1 hsz0'.out (by rw [hsz0'.out]; exact h3.2.2.2) h3.2.1 h3.2.2.1 h3.1 (by rw [hsz0'.out]; omega) (by rw [hsz0'.out]; omega) (by rw [hsz0'.out]; omega) (by omega); exact ⟨_, _, _, rfl, rfl, hT.over (Below.refl _ _).drew⟩)
    refine AllReadyH.cons (o := { dst := some 13, op := Op.makeSlice 23 (Operand.tmp 12) (Operand.tmp 12), type := 23, pos := "order.go:14", after := #[{ on := 6, ground := Ground.data }, { on := 6, ground := Ground.data }], guard := none }) rfl (fun K hK => ?_) AllReadyH.nil
    go_simp
    refine hK.out _ _ ?_ (fun hHeld => ?_)
    · exact cell_drew (cell_new (cell_new hS0.out))
    clear hK K
    try simp only [Act.put, List.setIfInBounds_toArray, List.set_cons_zero, List.set_cons_succ]
    refine wpAnyH_ready (rs := [3]) (by kernel_rfl) (by simp) ?_
    refine AllReadyH.cons (o := { dst := some 9, op := Op.makeSlice 23 (Operand.tmp 8) (Operand.tmp 8), type := 23, pos := "order.go:14", after := #[{ on := 2, ground := Ground.data }, { on := 2, ground := Ground.data }], guard := none }) rfl (fun K hK => ?_) AllReadyH.nil
    go_simp
    refine hK.out _ _ ?_ (fun hHeld => ?_)
    · exact cell_drew (cell_new (cell_new (cell_new hS0.out)))
    clear hK K
    try simp only [Act.put, List.setIfInBounds_toArray, List.set_cons_zero, List.set_cons_succ]
    refine wpAnyH_take (i := 9) (oi := { dst := some 3, op := Op.assign (Operand.tmp 9), type := 23, pos := "order.go:14", after := #[{ on := 3, ground := Ground.data }, { on := 0, ground := Ground.phase }, { on := 1, ground := Ground.phase }, { on := 2, ground := Ground.phase }, { on := 3, ground := Ground.phase }, { on := 4, ground := Ground.textOnly Departure.lateStores }, { on := 5, ground := Ground.textOnly Departure.lateStores }, { on := 6, ground := Ground.textOnly Departure.lateStoresUnsure }, { on := 7, ground := Ground.textOnly Departure.lateStoresUnsure }, { on := 8, ground := Ground.phase }], guard := none }) (v := ?_) rfl (by kernel_rfl) (by kernel_rfl) (by kernel_rfl) (fun _ _ _ h => h) (Or.inl ⟨by rfl, ?_⟩) (by assumption) ?_
    rotate_left
    · intro w hSw; (try dsimp only at hSw); go_simp <;> with_reducible rfl
    simp only [Act.put, List.setIfInBounds_toArray, List.set_cons_zero, List.set_cons_succ]
    refine wpAnyH_ready (rs := [10]) (by kernel_rfl) (by simp) ?_
    refine AllReadyH.cons (o := { dst := none, op := Op.store 23 (Operand.tmp 4) (Operand.tmp 13), type := 0, pos := "order.go:14", after := #[{ on := 8, ground := Ground.data }, { on := 7, ground := Ground.data }, { on := 9, ground := Ground.chain }, { on := 0, ground := Ground.phase }, { on := 1, ground := Ground.phase }, { on := 2, ground := Ground.phase }, { on := 3, ground := Ground.phase }, { on := 4, ground := Ground.phase }, { on := 5, ground := Ground.phase }, { on := 6, ground := Ground.phase }, { on := 7, ground := Ground.phase }, { on := 8, ground := Ground.phase }, { on := 9, ground := Ground.phase }], guard := none }) rfl (fun K hK => ?_) AllReadyH.nil
    go_simp
    refine hK.out _ _ ?_ (fun hHeld => ?_)
    · first | exact cell_drew (cell_new (cell_new (cell_new hS0.out))) | exact cell_drew (cell_setO (cell_new (cell_new (cell_new hS0.out))) (by omega))
    clear hK K
    try simp only [Act.put, List.setIfInBounds_toArray, List.set_cons_zero, List.set_cons_succ]
    refine wpAnyH_done (by kernel_rfl) ?_ _
    skip
    go_wp2
    go_meet
    first | (have h3 := three (w.alloc (.cells #[.int .i64 P.users, .slice ow P.who.length cw, .slice of P.fixed.length cf, .slice or P.rules.length cr] 26)) (.cells #[.slice none 0 0] 23) (.cells (madeCells #[.int .i64 0] P.who.length) 3) (.cells (madeCells #[.int .i64 0] P.who.length) 3); rw [hsz0'.out] at h3; have hT := Tm.mk0 (w := w) (V := (w.alloc (.cells #[.int .i64 P.users, .slice ow P.who.length cw, .slice of P.fixed.length cf, .slice or P.rules.length cr] 26))) hn hB0.out.2 hB0.out.1 hsz0'.out (by rw [hsz0'.out]; exact h3.2.2.2) h3.2.2.1 h3.2.1 h3.1 (by rw [hsz0'.out]; omega) (by rw [hsz0'.out]; omega) (by rw [hsz0'.out]; omega) (by omega) (by omega) (by omega); exact ⟨_, _, _, rfl, rfl, hT.over (Below.refl _ _).drew⟩) | (have h3 := three (w.alloc (.cells #[.int .i64 P.users, .slice ow P.who.length cw, .slice of P.fixed.length cf, .slice or P.rules.length cr] 26)) (.cells #[.slice (some ⟨w.heap.size + 1 + 1, 0, none⟩) P.who.length P.who.length] 23) (.cells (madeCells #[.int .i64 0] P.who.length) 3) (.cells (madeCells #[.int .i64 0] P.who.length) 3); rw [hsz0'.out] at h3; have hT := Tm.mk1 (w := w) (V := (w.alloc (.cells #[.int .i64 P.users, .slice ow P.who.length cw, .slice of P.fixed.length cf, .slice or P.rules.length cr] 26))) hn hB0.out.2 hB0.out.1 hsz0'.out (by rw [hsz0'.out]; exact h3.2.2.2) h3.2.2.1 h3.2.1 h3.1 (by rw [hsz0'.out]; omega) (by rw [hsz0'.out]; omega) (by rw [hsz0'.out]; omega) (by omega); exact ⟨_, _, _, rfl, rfl, hT.over (Below.refl _ _).drew⟩)
  case rest =>
  obtain ⟨gd, gr, gb, rfl, rfl, hT⟩ := hcut
  clear hmk hB0 hS0 hsz0'
  go_wp2
  go_loopw [5, 16] (fun _ p wr => ∃ (j : Nat) (R : Nat → Int), j ≤ P.who.length ∧ p = .int .i64 (j : Int) ∧ Hid (Tm w P (.slice ow P.who.length cw) (.slice of P.fixed.length cf) (.slice or P.rules.length cr) gd gr gb P.who.length (oA j) R wr)) (fun _ p _ => ((P.who.length : Int) - intOf p).toNat)
  case atStart => exact ⟨0, _, Nat.zero_le _, rfl, by have e : oA 0 = fun _ => 0 := (by funext t; simp [oA]); rw [e]; exact hT⟩
  case round =>
    clear hT
    obtain ⟨j, R, hj, rfl, hT⟩ := hrel
    by_cases hlt : j < P.who.length
    · have hlt' : (j : Int) < (P.who.length : Int) := by omega
      have hj0 : ¬ (j : Int) < 0 := by omega
      have cO := hT.out.cO hlt
      have fO := hT.out.ord.frozenAt j
      have hT1 := hide' (hT.out.setO j (j : Int))
      rw [oA_set] at hT1
      have K1 := hide' (fun V hV => KM.out j V hlt hV)
      have K2 := hide' (KO.out j)
      have K3 := hide' (KR.out j)
      have hl9 := hlr'.out j
      clear hT KM KO KR hlr'
      generalize mayP P j = my at *
      generalize (M.nums my).length = z at *
      generalize (rulN P.rules (j : Int)).length = rn at *
      obtain ⟨zm, hzm⟩ : ∃ x, x = z * 33 := ⟨_, rfl⟩
      have hwm : IntKind.i64.wrap ((z : Int) * 33) = (zm : Int) := by rw [show ((z : Int) * 33) = ((z * 33 : Nat) : Int) by simp, ← hzm, IntKind.wrap_i64]; omega
      obtain ⟨zz, hzz⟩ : ∃ x : Int, x = (zm : Int) - (rn : Int) := ⟨_, rfl⟩
      have hws : IntKind.i64.wrap ((zm : Int) - (rn : Int)) = zz := by rw [IntKind.wrap_i64]; omega
      clear hzz hzm hl9
      go_upto_region 6 with fail
      generalize wr.setCell ⟨gd, j, none⟩ (.int .i64 (j : Int)) = w5 at *
      have hTd := hide' (hT1.out.over (Below.refl _ w5).drew)
      clear hT1 cO fO
      refine wp_region_held_drew (S := (fun V => V.cell? ⟨gb, 0, none⟩ = some (.slice (some ⟨gr, 0, none⟩) P.who.length P.who.length) ∧ V.cell? ⟨w.heap.size, 0, none⟩ = some (.int .i64 P.users) ∧ V.cell? ⟨w.heap.size, 1, none⟩ = some (.slice ow P.who.length cw) ∧ V.cell? ⟨w.heap.size, 2, none⟩ = some (.slice of P.fixed.length cf) ∧ V.cell? ⟨w.heap.size, 3, none⟩ = some (.slice or P.rules.length cr))) (by kernel_rfl) ?_ (fun hHeld => ?_)
      · exact ⟨hTd.out.bx, hTd.out.pb.all⟩
      refine wpAnyH_take (i := 0) (oi := { dst := some 23, op := Op.load 23 (Operand.tmp 4), type := 23, pos := "order.go:17", after := #[], guard := none }) (v := ?_) rfl (by kernel_rfl) (by kernel_rfl) (by kernel_rfl) (fun _ _ _ h => h) (Or.inl ⟨by rfl, ?_⟩) (by assumption) ?_
      rotate_left
      · intro w hSw; (try dsimp only at hSw); go_simp <;> with_reducible rfl
      simp only [Act.put, List.setIfInBounds_toArray, List.set_cons_zero, List.set_cons_succ]
      refine wpAnyH_take (i := 1) (oi := { dst := some 24, op := Op.move (Operand.tmp 5), type := 3, pos := "order.go:17", after := #[], guard := none }) (v := ?_) rfl (by kernel_rfl) (by kernel_rfl) (by kernel_rfl) (fun _ _ _ h => h) (Or.inl ⟨by rfl, ?_⟩) (by assumption) ?_
      rotate_left
      · intro w hSw; (try dsimp only at hSw); go_simp <;> with_reducible rfl
      simp only [Act.put, List.setIfInBounds_toArray, List.set_cons_zero, List.set_cons_succ]
      refine wpAnyH_take (i := 2) (oi := { dst := some 25, op := Op.load 26 (Operand.tmp 1), type := 26, pos := "order.go:17", after := #[], guard := none }) (v := ?_) rfl (by kernel_rfl) (by kernel_rfl) (by kernel_rfl) (fun _ _ _ h => h) (Or.inl ⟨by rfl, ?_⟩) (by assumption) ?_
      rotate_left
      · intro w hSw; (try dsimp only at hSw); go_simp <;> with_reducible rfl
      simp only [Act.put, List.setIfInBounds_toArray, List.set_cons_zero, List.set_cons_succ]
      refine wpAnyH_take (i := 3) (oi := { dst := some 26, op := Op.move (Operand.tmp 5), type := 3, pos := "order.go:17", after := #[], guard := none }) (v := ?_) rfl (by kernel_rfl) (by kernel_rfl) (by kernel_rfl) (fun _ _ _ h => h) (Or.inl ⟨by rfl, ?_⟩) (by assumption) ?_
      rotate_left
      · intro w hSw; (try dsimp only at hSw); go_simp <;> with_reducible rfl
      simp only [Act.put, List.setIfInBounds_toArray, List.set_cons_zero, List.set_cons_succ]
      refine wpAnyH_take (i := 7) (oi := { dst := some 30, op := Op.load 26 (Operand.tmp 1), type := 26, pos := "order.go:17", after := #[], guard := none }) (v := ?_) rfl (by kernel_rfl) (by kernel_rfl) (by kernel_rfl) (fun _ _ _ h => h) (Or.inl ⟨by rfl, ?_⟩) (by assumption) ?_
      rotate_left
      · intro w hSw; (try dsimp only at hSw); go_simp <;> with_reducible rfl
      simp only [Act.put, List.setIfInBounds_toArray, List.set_cons_zero, List.set_cons_succ]
      refine wpAnyH_take (i := 8) (oi := { dst := some 31, op := Op.move (Operand.tmp 5), type := 3, pos := "order.go:17", after := #[], guard := none }) (v := ?_) rfl (by kernel_rfl) (by kernel_rfl) (by kernel_rfl) (fun _ _ _ h => h) (Or.inl ⟨by rfl, ?_⟩) (by assumption) ?_
      rotate_left
      · intro w hSw; (try dsimp only at hSw); go_simp <;> with_reducible rfl
      simp only [Act.put, List.setIfInBounds_toArray, List.set_cons_zero, List.set_cons_succ]
      refine wpAnyH_ready (rs := [4]) (by kernel_rfl) (by simp) ?_
      refine AllReadyH.cons (o := { dst := some 27, op := Op.call { callee := Callee.value (Operand.func 33), args := #[Operand.tmp 25, Operand.tmp 26], argTypes := #[26, 3] }, type := 55, pos := "order.go:17", after := #[{ on := 2, ground := Ground.data }, { on := 3, ground := Ground.data }], guard := none }) rfl (fun K hK => ?_) AllReadyH.nil
      go_simp
      go_at_call 33; refine (K1.out _ hTd.out.be).mono ?_; rintro e w6 ⟨rfl, hb6⟩; have hT6 := hide' (hTd.out.over hb6); (try dsimp only)
      refine hK.out _ _ ?_ (fun hHeld => ?_)
      · exact ⟨hT6.out.bx, hT6.out.pb.all⟩
      clear hK K
      try simp only [Act.put, List.setIfInBounds_toArray, List.set_cons_zero, List.set_cons_succ]
      refine wpAnyH_ready (rs := [5]) (by kernel_rfl) (by simp) ?_
      refine AllReadyH.cons (o := { dst := some 28, op := Op.call { callee := Callee.value (Operand.func 60), args := #[Operand.tmp 27], argTypes := #[55] }, type := 3, pos := "order.go:17", after := #[{ on := 4, ground := Ground.data }, { on := 4, ground := Ground.chain }], guard := none }) rfl (fun K hK => ?_) AllReadyH.nil
      go_simp
      go_at_call 60; refine (K2.out _).mono ?_; rintro e w7 ⟨rfl, hw7⟩; subst hw7; (try dsimp only)
      refine hK.out _ _ ?_ (fun hHeld => ?_)
      · exact ⟨hT6.out.bx, hT6.out.pb.all⟩
      clear hK K
      try simp only [Act.put, List.setIfInBounds_toArray, List.set_cons_zero, List.set_cons_succ]
      refine wpAnyH_take (i := 6) (oi := { dst := some 29, op := Op.binOp BinOp.mul 3 (Operand.tmp 28) (Operand.const (Value.int IntKind.i64 33)) 3, type := 3, pos := "order.go:17", after := #[{ on := 5, ground := Ground.data }], guard := none }) (v := ?_) rfl (by kernel_rfl) (by kernel_rfl) (by kernel_rfl) (fun _ _ _ h => h) (Or.inl ⟨by rfl, ?_⟩) (by assumption) ?_
      rotate_left
      · intro w hSw; (try dsimp only at hSw); go_simp <;> with_reducible rfl
      simp only [Act.put, List.setIfInBounds_toArray, List.set_cons_zero, List.set_cons_succ]
      refine wpAnyH_ready (rs := [9]) (by kernel_rfl) (by simp) ?_
      refine AllReadyH.cons (o := { dst := some 32, op := Op.call { callee := Callee.value (Operand.func 61), args := #[Operand.tmp 30, Operand.tmp 31], argTypes := #[26, 3] }, type := 24, pos := "order.go:17", after := #[{ on := 7, ground := Ground.data }, { on := 8, ground := Ground.data }, { on := 5, ground := Ground.chain }], guard := none }) rfl (fun K hK => ?_) AllReadyH.nil
      go_simp
      go_at_call 61; refine (K3.out _ hT6.out.be).mono ?_; rintro e w8 ⟨o8, c8, rfl, hb8⟩; have hT8 := hide' (hT6.out.over hb8); have cR := hT8.out.cR hlt; have fR := hT8.out.room.frozenAt j; (try dsimp only)
      refine hK.out _ _ ?_ (fun hHeld => ?_)
      · exact ⟨hT8.out.bx, hT8.out.pb.all⟩
      clear hK K
      try simp only [Act.put, List.setIfInBounds_toArray, List.set_cons_zero, List.set_cons_succ]
      refine wpAnyH_take (i := 10) (oi := { dst := some 33, op := Op.call { callee := Callee.builtin Builtin.len, args := #[Operand.tmp 32], argTypes := #[24] }, type := 3, pos := "order.go:17", after := #[{ on := 9, ground := Ground.data }], guard := none }) (v := ?_) rfl (by kernel_rfl) (by kernel_rfl) (by kernel_rfl) (fun _ _ _ h => h) (Or.inl ⟨by rfl, ?_⟩) (by assumption) ?_
      rotate_left
      · intro w hSw; (try dsimp only at hSw); go_simp <;> with_reducible rfl
      simp only [Act.put, List.setIfInBounds_toArray, List.set_cons_zero, List.set_cons_succ]
      refine wpAnyH_take (i := 11) (oi := { dst := some 34, op := Op.binOp BinOp.sub 3 (Operand.tmp 29) (Operand.tmp 33) 3, type := 3, pos := "order.go:17", after := #[{ on := 6, ground := Ground.data }, { on := 10, ground := Ground.data }], guard := none }) (v := ?_) rfl (by kernel_rfl) (by kernel_rfl) (by kernel_rfl) (fun _ _ _ h => h) (Or.inl ⟨by rfl, ?_⟩) (by assumption) ?_
      rotate_left
      · intro w hSw; (try dsimp only at hSw); go_simp <;> with_reducible rfl
      simp only [Act.put, List.setIfInBounds_toArray, List.set_cons_zero, List.set_cons_succ]
      refine wpAnyH_take (i := 12) (oi := { dst := some 35, op := Op.indexAddr 23 (Operand.tmp 23) (Operand.tmp 24), type := 0, pos := "order.go:17", after := #[{ on := 0, ground := Ground.data }, { on := 1, ground := Ground.data }, { on := 0, ground := Ground.phase }, { on := 1, ground := Ground.phase }, { on := 2, ground := Ground.phase }, { on := 3, ground := Ground.phase }, { on := 4, ground := Ground.phase }, { on := 5, ground := Ground.phase }, { on := 6, ground := Ground.phase }, { on := 7, ground := Ground.phase }, { on := 8, ground := Ground.phase }, { on := 9, ground := Ground.phase }, { on := 10, ground := Ground.phase }, { on := 11, ground := Ground.phase }], guard := none }) (v := ?_) rfl (by kernel_rfl) (by kernel_rfl) (by kernel_rfl) (fun _ _ _ h => h) (Or.inl ⟨by rfl, ?_⟩) (by assumption) ?_
      rotate_left
      · intro w hSw; (try dsimp only at hSw); go_simp <;> with_reducible rfl
      simp only [Act.put, List.setIfInBounds_toArray, List.set_cons_zero, List.set_cons_succ]
      refine wpAnyH_ready (rs := [13]) (by kernel_rfl) (by simp) ?_
      refine AllReadyH.cons (o := { dst := none, op := Op.store 3 (Operand.tmp 35) (Operand.tmp 34), type := 0, pos := "order.go:17", after := #[{ on := 12, ground := Ground.data }, { on := 11, ground := Ground.data }, { on := 9, ground := Ground.chain }, { on := 0, ground := Ground.phase }, { on := 1, ground := Ground.phase }, { on := 2, ground := Ground.phase }, { on := 3, ground := Ground.phase }, { on := 4, ground := Ground.phase }, { on := 5, ground := Ground.phase }, { on := 6, ground := Ground.phase }, { on := 7, ground := Ground.phase }, { on := 8, ground := Ground.phase }, { on := 9, ground := Ground.phase }, { on := 10, ground := Ground.phase }, { on := 11, ground := Ground.phase }], guard := none }) rfl (fun K hK => ?_) AllReadyH.nil
      go_simp
      refine hK.out _ _ ?_ (fun hHeld => ?_)
      · exact ⟨(hT8.out.setR j zz).bx, (hT8.out.setR j zz).pb.all⟩
      clear hK K
      try simp only [Act.put, List.setIfInBounds_toArray, List.set_cons_zero, List.set_cons_succ]
      refine wpAnyH_done (by kernel_rfl) ?_ _
      skip
      have hT9 : Hid _ := hT8.out.setR j zz
      clear hT8 hT6 hTd K1 K2 K3 cR fR
      go_wp2
      exact ⟨⟨j + 1, _, by omega, by go_num, hT9⟩, by simp [intOf]; omega⟩
    · obtain rfl : j = P.who.length := by omega
      have hKS : Hid (Calls Tryz.prog 62 #[.slice (some ⟨gd, 0, none⟩) P.who.length P.who.length, .func (.func 63) #[] #[.pointer (some ⟨gb, 0, none⟩)]] wr (SoP wr gd P.who.length (List.range P.who.length))) := by
        refine sortT gd P.who.length _ _ ⟨_, _, _, rfl⟩ wr hn ?_
        by_cases h0 : P.who.length = 0
        · rw [h0]
          exact ins0 gd _ ⟨_, _, _, rfl⟩ wr
        · have hk := hT.out.kinds
          refine insT gd gb gr P.who.length R (List.range P.who.length) wr (by omega) hn (by simp) (fun x hx => List.mem_range.1 hx) (Array.getElem?_eq_some_iff.1 hT.out.box).1 (cell_lt (hT.out.cR (j := 0) (by omega))) hk.1 (fun e => hT.out.ne1 e.symm) (fun k x hx => ?_) hT.out.bx fun t ht => hT.out.cR ht
          have hlt2 := (List.getElem?_eq_some_iff.1 hx).1
          rw [List.length_range] at hlt2
          rw [List.getElem?_range hlt2] at hx
          cases hx
          refine ⟨?_, hT.out.ord.frozenAt k⟩
          rw [hT.out.cO hlt2]
          simp [oA, hlt2]
      have hgd : Hid (w.heap.size + 1 ≤ gd) := own_ge' hT.out.ord rfl
      have hbe := hide' hT.out.be
      clear hT KM KO KR hlr'
      go_wp2_with fail
      refine hKS.out.mono ?_
      rintro e w8 ⟨rfl, L', h1, h2, h3⟩
      have hl : L'.length = P.who.length := by have := h1.out.length_eq; simpa using this
      have hfin : Hid (RowI w8 (.slice (some ⟨gd, 0, none⟩) P.who.length P.who.length) (ints L')) := by
        refine ⟨some ⟨gd, 0, none⟩, P.who.length, by rw [ints_len, hl], ⟨by rw [ints_len, hl]; exact Nat.le_refl _, fun e => by cases e⟩, fun i x hx => ⟨gd, 0, rfl, ?_⟩⟩
        rw [Nat.zero_add]
        unfold ints at hx
        rw [List.getElem?_map] at hx
        cases hy : L'[i]? with
        | none => rw [hy] at hx; cases hx
        | some y =>
          rw [hy] at hx
          cases hx
          exact h2.out i y hy
      have hB8 : Hid (Below w.heap.size w w8) := by
        obtain ⟨e1, e2, e3, e4, e5⟩ := h3.out
        have hg := hgd.out
        exact ⟨e1.trans hbe.out.os, e2.trans hbe.out.tape, e3.trans hbe.out.output, by rw [e4]; exact hbe.out.size, fun k hk => (e5 k (by omega)).trans (hbe.out.block k hk)⟩
      clear hKS h2 h3 hgd hbe hl
      go_wp2
      go_ret
      exact ⟨_, L', rfl, hfin, h1, hB8⟩
end Go.Proofs.YtlijlelejobchaaGreatDoor.S
namespace Go.Proofs.YtlijlelejobchaaGreatDoor.S
open Go.RowKit Go.Shelf
/-- Has it a plan? -/
noncomputable def canB (P : Pb) : Bool := @decide (∃ L, holP P L = true) (Classical.propDecidable _)
theorem canB_iff (P : Pb) : canB P = true ↔ ∃ L, holP P L = true := by unfold canB; exact @decide_eq_true_iff _ (Classical.propDecidable _)
theorem canB_no {P : Pb} (h : chkN P ≠ 0) : canB P = false := by
  cases e : canB P with
  | false => rfl
  | true => obtain ⟨L, hL⟩ := (canB_iff P).1 e; exact absurd (holP_of hL).1 h
theorem canB_re {P : Pb} {O : List Nat} (hP : chkN P = 0) (hO : O.Perm (List.range P.who.length)) : canB (reP P O) = canB P := by
  rw [Bool.eq_iff_iff, canB_iff, canB_iff]; exact can_re hP hO
theorem canB_ls {P : Pb} : ∀ {o : Option (List Int)}, LsP P o → canB P = o.isSome
  | none, h => by
    cases e : canB P with
    | false => rfl
    | true => obtain ⟨L, hL⟩ := (canB_iff P).1 e; rw [h L] at hL; cases hL
  | some l, h => (canB_iff P).2 ⟨l, h.1⟩
/-- What one search adds to the gauge at most. -/
def gK (P : Pb) : Nat := cntB P.who.length 0
def gE (P : Pb) : Nat := cntB P.who.length 0 * (P.who.length * P.users.toNat * P.who.length) + P.who.length * P.users.toNat * (P.who.length + P.who.length * P.who.length)
/-- What k searches add to the gauge. -/
def GcB (P : Pb) (k a b c a' b' c' : Nat) : Prop := (chkN P ≠ 0 → a' = a ∧ b' = b ∧ c' = c) ∧ (chkN P = 0 → (a ≤ a' ∧ a' ≤ a + k * gK P) ∧ (b ≤ b' ∧ b' ≤ b + k * (gK P * P.users.toNat)) ∧ (c ≤ c' ∧ c' ≤ c + k * gE P))
theorem GcB.one {P : Pb} {a b c a' b' c' : Nat} (hP : chkN P = 0) (h : GgB P (P.who.length * P.users.toNat * (P.who.length + P.who.length * P.who.length)) a b c a' b' c') : GcB P 1 a b c a' b' c' :=
  ⟨fun q => absurd hP q, fun _ => ⟨⟨h.1.1, by rw [Nat.one_mul]; exact h.1.2⟩, ⟨h.2.1.1, by rw [Nat.one_mul]; exact h.2.1.2⟩, ⟨h.2.2.1, by rw [Nat.one_mul]; unfold gE; have := h.2.2.2; omega⟩⟩⟩
theorem GcB.two {P : Pb} {a b c a' b' c' a2 b2 c2 : Nat} (h : GcB P 1 a b c a' b' c') (k : GcB P 1 a' b' c' a2 b2 c2) : GcB P 2 a b c a2 b2 c2 := by
  refine ⟨fun q => ?_, fun q => ?_⟩
  · obtain ⟨h1, h2, h3⟩ := h.1 q
    obtain ⟨k1, k2, k3⟩ := k.1 q
    omega
  · have h1 := h.2 q
    have k1 := k.2 q
    omega
theorem GcB.up {P : Pb} {a b c a' b' c' : Nat} (h : GcB P 1 a b c a' b' c') : GcB P 2 a b c a' b' c' := by
  refine ⟨h.1, fun q => ?_⟩
  have h1 := h.2 q
  omega
theorem GcB.zero {P : Pb} (hP : chkN P ≠ 0) (a b c : Nat) : GcB P 1 a b c a b c := ⟨fun _ => ⟨rfl, rfl, rfl⟩, fun q => absurd q hP⟩
theorem GcB.re {P : Pb} {O : List Nat} (hO : O.Perm (List.range P.who.length)) {e a b c a' b' c' : Nat} (h : GgB (reP P O) e a b c a' b' c') : GgB P e a b c a' b' c' := by
  have hlw : (reP P O).who.length = P.who.length := by show (reW P O).length = _; unfold reW; rw [List.length_map]; exact re_len hO
  unfold GgB at h
  rw [hlw] at h
  exact h
/-- What one search adds at most, in numbers. -/
theorem gE_le {P : Pb} (h : chkN P = 0) : gK P ≤ 100000000 ∧ gK P * P.users.toNat ≤ 6400000000 ∧ gE P ≤ 1000000000000 := by
  obtain ⟨h12, hU0, hU, _⟩ := chkN_zero h
  have hU' : P.users.toNat ≤ 64 := by omega
  have h1 := cntB_few h12
  have h2 : P.who.length * P.users.toNat ≤ 12 * 64 := Nat.mul_le_mul h12 hU'
  have h3 : P.who.length * P.who.length ≤ 12 * 12 := Nat.mul_le_mul h12 h12
  refine ⟨h1, Nat.mul_le_mul h1 hU', ?_⟩
  have h4 : cntB P.who.length 0 * (P.who.length * P.users.toNat * P.who.length) ≤ 100000000 * (12 * 64 * 12) := Nat.mul_le_mul h1 (Nat.mul_le_mul h2 h12)
  have h5 : P.who.length * P.users.toNat * (P.who.length + P.who.length * P.who.length) ≤ 12 * 64 * (12 + 144) := Nat.mul_le_mul h2 (by omega)
  unfold gE
  omega
theorem GcB.le {P : Pb} {k a b c a' b' c' : Nat} (h : GcB P k a b c a' b' c') (hk : k ≤ 2) : a ≤ a' ∧ a' ≤ a + 2000000000000 ∧ b ≤ b' ∧ b' ≤ b + 2000000000000 ∧ c ≤ c' ∧ c' ≤ c + 2000000000000 := by
  by_cases q : chkN P = 0
  · have h1 := h.2 q
    obtain ⟨e1, e2, e3⟩ := gE_le q
    have f1 : k * gK P ≤ 2 * 100000000 := Nat.mul_le_mul hk e1
    have f2 : k * (gK P * P.users.toNat) ≤ 2 * 6400000000 := Nat.mul_le_mul hk e2
    have f3 : k * gE P ≤ 2 * 1000000000000 := Nat.mul_le_mul hk e3
    omega
  · have h1 := h.1 q
    omega
def CaP (w : World) (P : Pb) (gs a b c : Nat) (e : Ending) (w' : World) : Prop :=
  e = .returned (.bool (canB P)) ∧ ∃ a' b' c', Hid (GgAt w' gs a' b' c') ∧ Hid (GcB P 1 a b c a' b' c') ∧ Hid (M.Fr2 w w' gs gs)
/-- first, its answer in one form. -/
def F1P (w : World) (P : Pb) (gs a b c : Nat) (e : Ending) (w' : World) : Prop :=
  ∃ v, e = .returned (.tuple #[v, .bool (canB P)]) ∧ ∃ a' b' c', Hid (GgAt w' gs a' b' c') ∧ Hid (GcB P 1 a b c a' b' c') ∧ Hid (M.Fr2 w w' gs gs) ∧ Hid (∀ o, LsP P o → (o = none ∧ v = .slice none 0 0) ∨ ∃ l, o = some l ∧ w'.ownsRow w.heap.size 3 1 v l.length (cellsI l))
theorem first1 {P : Pb} {w w' : World} {gs a b c : Nat} {e : Ending} (hP : chkN P = 0) (h : FiP w P gs a b c e w') : F1P w P gs a b c e w' := by
  obtain ⟨⟨a', b', c', h1, h2⟩, h3, h4⟩ := h
  rcases h4 with ⟨rfl, h5⟩ | ⟨v, l, rfl, h5, h6⟩
  · exact ⟨_, by rw [canB_ls h5.out]; rfl, a', b', c', h1, GcB.one hP h2.out, h3, fun o ho => .inl ⟨LsP.one ho h5.out, rfl⟩⟩
  · exact ⟨v, by rw [canB_ls h5.out]; rfl, a', b', c', h1, GcB.one hP h2.out, h3, fun o ho => .inr ⟨l, LsP.one ho h5.out, h6.out⟩⟩
set_option maxRecDepth 100000 in
set_option maxHeartbeats 4000000 in
theorem canF (P : Pb) (wv fv rv : Value) (gs a b c : Nat) (w : World) (h : PbV w P wv fv rv) (hk : Pok P) (hg : GgAt w gs a b c) (hGs : 1 ≤ gs) (ht : M.Tab w) (ha0 : a ≤ 2305843009213693952) (hb0 : b ≤ 2305843009213693952) (hc0 : c ≤ 2305843009213693952) :
    Calls Tryz.prog 12 #[.pointer (some ⟨gs, 0, none⟩), pbV P wv fv rv] w (CaP w P gs a b c) := by
  have hs := h.shape
  have hgl := hg.lt
  have hpV : Hid (PbB (w.alloc (.cells #[.int .i64 P.users, wv, fv, rv] 26)) w.heap.size P wv fv rv) := heap_new w _
  have hbV : Hid (Below w.heap.size w (w.alloc (.cells #[.int .i64 P.users, wv, fv, rv] 26))) := (Below.refl _ w).alloc (Nat.le_refl _) _
  have KC := hide' (checkPF P wv fv rv _ (h.below hbV.out) hk.w hk.f hk.r hk.s hk.b)
  have hnx : Hid (∀ V, Below w.heap.size w V → PbV V P wv fv rv ∧ GgAt V gs a b c ∧ M.Tab V) := fun V hV => ⟨h.below hV, hg.below hV, ht.over hV⟩
  obtain ⟨ow, cw, of, cf, or, cr, rfl, rfl, rfl⟩ := hs
  unfold pbV at KC ⊢
  by_cases hP : chkN P = 0
  · obtain ⟨h12, hU0, hU, hR, hfx, hwo, hru⟩ := chkN_zero hP
    obtain ⟨hfl, hx⟩ := fixB_of hfx hU
    have KT : Hid (∀ V, Below w.heap.size w V → Calls Tryz.prog 28 #[.agg #[.int .i64 P.users, .slice ow P.who.length cw, .slice of P.fixed.length cf, .slice or P.rules.length cr]] V fun e w' => ∃ v O, e = .returned v ∧ Hid (RowI w' v (ints O)) ∧ Hid (O.Perm (List.range P.who.length)) ∧ Hid (Below V.heap.size V w')) := fun V hV => tightF P _ _ _ V (h.below hV) h12 hfl hx hk.b hk.r hk.s
    have KR : Hid (∀ V O v, Below w.heap.size w V → RowI V v (ints O) → O.Perm (List.range P.who.length) → Calls Tryz.prog 27 #[.agg #[.int .i64 P.users, .slice ow P.who.length cw, .slice of P.fixed.length cf, .slice or P.rules.length cr], v] V fun e w' => ∃ va vb vc, e = .returned (.agg #[.int .i64 P.users, va, vb, vc]) ∧ Hid (PbV w' (reP P O) va vb vc) ∧ Hid (Below V.heap.size V w')) := fun V O v hV hv hO =>
      (reorderedF P _ _ _ O v V (h.below hV) hv (by rw [re_len hO]; omega) hk.r hk.s fun t ht => by have := (re_mem hO).1 ht; omega).mono fun e w' ⟨va, vb, vc, h1, h2, h3⟩ => ⟨va, vb, vc, h1, h2, h3⟩
    have KF : Hid (∀ V O va vb vc, Below w.heap.size w V → PbV V (reP P O) va vb vc → O.Perm (List.range P.who.length) → Calls Tryz.prog 25 #[.pointer (some ⟨gs, 0, none⟩), .agg #[.int .i64 P.users, va, vb, vc]] V fun e w' => ∃ v, e = .returned (.tuple #[v, .bool (canB P)]) ∧ Hid (∃ a' b' c', GgAt w' gs a' b' c' ∧ GcB P 1 a b c a' b' c') ∧ Hid (M.Fr2 V w' gs gs)) := fun V O va vb vc hV hQ hO => by
      have hsm : ∀ r ∈ (reP P O).rules, r.steps.length ≤ 1000 := fun r hr => by
        obtain ⟨r', hr', rfl⟩ := List.mem_map.1 (show r ∈ P.rules.map _ from hr)
        have := movJ_len r'.steps (ints O) (ints O).length
        rw [ints_len, re_len hO] at this
        show (movN r'.steps (ints O)).length ≤ 1000
        unfold movN
        rw [ints_len, re_len hO]
        omega
      have hwd : ∀ z ∈ (reP P O).who, z < 18446744073709551616 := fun z hz => by
        obtain ⟨t, ht, rfl⟩ := List.mem_map.1 (show z ∈ O.map _ from hz)
        have hlt := (re_mem hO).1 ht
        exact hk.b _ (by rw [List.getD_eq_getElem?_getD, List.getElem?_eq_getElem hlt]; exact List.getElem_mem hlt)
      refine (firstF (reP P O) va vb vc gs a b c V hQ (chk_reP hP hO) hwd hsm (hg.below hV) hGs (ht.over hV) ha0 hb0 hc0).mono fun e w' hF => ?_
      obtain ⟨⟨a', b', c', g1, g2⟩, g3, g4⟩ := hF
      refine (fun (q : ∃ v, e = .returned (.tuple #[v, .bool (canB P)])) => ?_) ?_
      · obtain ⟨v, hv⟩ := q
        exact ⟨v, hv, ⟨a', b', c', g1.out, GcB.one hP (by
          have hlw : (reP P O).who.length = P.who.length := by show (reW P O).length = _; unfold reW; rw [List.length_map]; exact re_len hO
          have := GcB.re hO g2.out
          rw [hlw] at this
          exact this)⟩, g3⟩
      · rw [← canB_re hP hO]
        rcases g4 with ⟨rfl, h5⟩ | ⟨v, l, rfl, h5, h6⟩
        · exact ⟨_, by rw [canB_ls h5.out]; rfl⟩
        · exact ⟨v, by rw [canB_ls h5.out]; rfl⟩
    rw [hP] at KC
    clear h hk hg ht hP hfx hwo hru hfl hx hnx
    go_enter Tryz.func12, Tryz.ntmps12
    have q := hpV.out.all
    go_wp2_with fail
    refine KC.out.mono ?_
    rintro e w1 ⟨rfl, hb1⟩
    have hB1 : Hid (Below w.heap.size w w1) := hbV.out.trans (hb1.mono hbV.out.size)
    have hp1 := hide' (hpV.out.below hb1)
    have hp1d := hide' (hp1.out.below (Below.refl _ w1).drew)
    have hB1d : Hid (Below w.heap.size w w1.drew) := hB1.out.drew
    clear q KC hb1 hbV hpV
    go_wp2
    go_region_held3 (fun V => V.cell? ⟨w.heap.size, 0, none⟩ = some (.int .i64 P.users) ∧ V.cell? ⟨w.heap.size, 1, none⟩ = some (.slice ow P.who.length cw) ∧ V.cell? ⟨w.heap.size, 2, none⟩ = some (.slice of P.fixed.length cf) ∧ V.cell? ⟨w.heap.size, 3, none⟩ = some (.slice or P.rules.length cr)) (first | (exact hp5.out.all) | (exact hp4.out.all) | (exact hp3.out.all) | (exact hp1d.out.all)) (first | (go_at_call 28; refine (KT.out _ hB1d.out).mono ?_; rintro e w3 ⟨v, O, rfl, hO, hpm, hb3⟩; have hp3 := hide' (hp1d.out.below hb3.out); have hB3 : Hid (Below w.heap.size w w3) := hB1d.out.trans (hb3.out.mono hB1d.out.size)) | (go_at_call 27; refine (KR.out _ O v hB3.out hO.out hpm.out).mono ?_; rintro e w4 ⟨va, vb, vc, rfl, hQ, hb4⟩; have hp4 := hide' (hp3.out.below hb4.out); have hB4 : Hid (Below w.heap.size w w4) := hB3.out.trans (hb4.out.mono hB3.out.size)) | (go_at_call 25; refine (KF.out _ O va vb vc hB4.out hQ.out hpm.out).mono ?_; rintro e w5 ⟨v5, rfl, hG5, hF5⟩; have hp5 : Hid (PbB w5 w.heap.size P (.slice ow P.who.length cw) (.slice of P.fixed.length cf) (.slice or P.rules.length cr)) := (hF5.out.block w.heap.size (Array.getElem?_eq_some_iff.1 hp4.out).1 (by omega) (by omega)).trans hp4.out))
    have hF9 : Hid (M.Fr2 w w5 gs gs) := (M.Fr2.below hB4.out).trans hF5.out
    clear KT KR KF hp1 hp1d hp3 hp4 hp5 hO hpm hQ hF5
    go_wp2
    go_ret
    obtain ⟨a', b', c', g1, g2⟩ := hG5.out
    exact ⟨rfl, a', b', c', g1, g2, hF9⟩
  · have hne : ((chkN P : Int) != 0) = true := by rw [bne_iff_ne]; omega
    have hcb := hide' (canB_no hP)
    have hP' := hide' hP
    generalize chkN P = kk at KC hne
    clear h hk hg ht hP
    go_enter Tryz.func12, Tryz.ntmps12
    have q := hpV.out.all
    go_wp2_with fail
    refine KC.out.mono ?_
    rintro e w1 ⟨rfl, hb1⟩
    have hB1 : Hid (Below w.heap.size w w1) := hbV.out.trans (hb1.mono hbV.out.size)
    clear q KC hb1 hbV hpV
    go_wp2
    go_ret
    exact ⟨ret_bool hcb.out.symm, a, b, c, (hnx.out w1 hB1.out).2.1, GcB.zero hP'.out a b c, M.Fr2.below hB1.out⟩
end Go.Proofs.YtlijlelejobchaaGreatDoor.S
namespace Go.Proofs.YtlijlelejobchaaGreatDoor.S
open Go.RowKit Go.Shelf
set_option maxRecDepth 100000 in
theorem newF (w : World) : Calls Tryz.prog 6 #[] w fun e w' => e = .returned (.pointer (some ⟨w.heap.size, 0, none⟩)) ∧ Hid (GgAt w' w.heap.size 0 0 0) ∧ Hid (Below w.heap.size w w') := by
  go_enter Tryz.func6, Tryz.ntmps6
  go_wp2
  go_ret
  refine ⟨rfl, ?_, (Below.refl _ w).alloc (Nat.le_refl _) _⟩
  exact World.rowIs_alloc w #[.int .u64 0, .int .u64 0, .int .u64 0] _ _ fun i hi => by
    have hi : i < 3 := hi
    rcases (show i = 0 ∨ i = 1 ∨ i = 2 by omega) with rfl | rfl | rfl <;> rfl
/-- Rows of words that are not the gauge's. -/
theorem rowW_frame {V W : World} {v : Value} {L : List Nat} {gs : Nat} (h : RowW V v L) (hne : ∀ ad n c, v = .slice (some ad) n c → ad.block ≠ gs) (hk : ∀ k, k < V.heap.size → k ≠ gs → W.heap[k]? = V.heap[k]?) : RowW W v L := by
  obtain ⟨oa, cap, e, e0, hc⟩ := h
  refine ⟨oa, cap, e, e0, fun i z hi => ?_⟩
  obtain ⟨g, o, e1, e2⟩ := hc i z hi
  refine ⟨g, o, e1, ?_⟩
  have h1 := hk g (cell_lt e2) (hne ⟨g, o, none⟩ _ _ (by rw [e, e1]))
  simp only [World.cell?] at e2 ⊢
  rw [h1]; exact e2
theorem rowR_frame {V W : World} {v : Value} {L : List Rl} {gs a b c : Nat} (h : RowR V v L) (hg : GgAt V gs a b c) (hk : ∀ k, k < V.heap.size → k ≠ gs → W.heap[k]? = V.heap[k]?) : RowR W v L := by
  obtain ⟨oa, cap, e, e0, hc⟩ := h
  refine ⟨oa, cap, e, e0, fun i r hi => ?_⟩
  obtain ⟨g, o, sv, e1, e2, e3, e4, e5⟩ := hc i r hi
  have hne : g ≠ gs := fun q => by rw [q] at e2; exact hg.kind e2
  have h1 := hk g (cell_lt e2) hne
  refine ⟨g, o, sv, e1, ?_, ?_, ?_, rowI_frame e5 hg hk⟩ <;> (simp only [World.cell?] at e2 e3 e4 ⊢; rw [h1]; assumption)
theorem pbV_frame {V W : World} {P : Pb} {wv fv rv : Value} {gs a b c : Nat} (h : PbV V P wv fv rv) (hg : GgAt V gs a b c) (hne : ∀ ad n c, wv = .slice (some ad) n c → ad.block ≠ gs) (hf : M.Fr2 V W gs gs) : PbV W P wv fv rv :=
  ⟨rowW_frame h.who hne fun k hk e => hf.block k hk e e, rowI_frame h.fixed hg fun k hk e => hf.block k hk e e, rowR_frame h.rules hg fun k hk e => hf.block k hk e e⟩
theorem tab_frame {V W : World} {gs : Nat} (h : M.Tab V) (hGs : 1 ≤ gs) (hf : M.Fr2 V W gs gs) : M.Tab W := h.fr2 hf hGs hGs
def LeP (w : World) (P : Pb) (gs a b c : Nat) (e : Ending) (w' : World) : Prop :=
  (∃ a' b' c', Hid (GgAt w' gs a' b' c') ∧ Hid (GcB P 2 a b c a' b' c')) ∧ Hid (M.Fr2 w w' gs gs) ∧ ((e = .returned (.tuple #[.slice none 0 0, .bool false]) ∧ Hid (LsP P none)) ∨ ∃ v l, e = .returned (.tuple #[v, .bool true]) ∧ Hid (LsP P (some l)) ∧ Hid (w'.ownsRow w.heap.size 3 1 v l.length (cellsI l)))
theorem can_none {P : Pb} (h : canB P = false) : LsP P none := fun L => by
  cases e : holP P L with
  | false => rfl
  | true => rw [(canB_iff P).2 ⟨L, e⟩] at h; cases h
set_option maxRecDepth 100000 in
set_option maxHeartbeats 4000000 in
theorem leastPF (P : Pb) (wv fv rv : Value) (gs a b c : Nat) (w : World) (h : PbV w P wv fv rv) (hk : Pok P) (hg : GgAt w gs a b c) (hGs : 1 ≤ gs) (ht : M.Tab w) (hne : ∀ ad n c, wv = .slice (some ad) n c → ad.block ≠ gs) (ha0 : a ≤ 1152921504606846976) (hb0 : b ≤ 1152921504606846976) (hc0 : c ≤ 1152921504606846976) :
    Calls Tryz.prog 10 #[.pointer (some ⟨gs, 0, none⟩), pbV P wv fv rv] w (LeP w P gs a b c) := by
  have hs := h.shape
  have hgl := hg.lt
  have hpV : Hid (PbB (w.alloc (.cells #[.int .i64 P.users, wv, fv, rv] 26)) w.heap.size P wv fv rv) := heap_new w _
  have hbV : Hid (Below w.heap.size w (w.alloc (.cells #[.int .i64 P.users, wv, fv, rv] 26))) := (Below.refl _ w).alloc (Nat.le_refl _) _
  have KC := hide' (canF P wv fv rv gs a b c _ (h.below hbV.out) hk (hg.below hbV.out) hGs (ht.over hbV.out) (by omega) (by omega) (by omega))
  have KF : Hid (∀ W a' b' c', M.Fr2 w W gs gs → GgAt W gs a' b' c' → GcB P 1 a b c a' b' c' → canB P = true → Calls Tryz.prog 25 #[.pointer (some ⟨gs, 0, none⟩), pbV P wv fv rv] W (FiP W P gs a' b' c')) := fun W a' b' c' hW hg' hb' hc => by
    obtain ⟨L, hL⟩ := (canB_iff P).1 hc
    have hle := hb'.le (by decide)
    exact firstF P wv fv rv gs a' b' c' W (pbV_frame h hg hne hW) (holP_of hL).1 hk.b hk.s hg' hGs (tab_frame ht hGs hW) (by omega) (by omega) (by omega)
  have hP0 : Hid (canB P = true → chkN P = 0) := fun hc => by obtain ⟨L, hL⟩ := (canB_iff P).1 hc; exact (holP_of hL).1
  obtain ⟨ow, cw, of, cf, or, cr, rfl, rfl, rfl⟩ := hs
  unfold pbV at KC KF ⊢
  clear h hk hg ht hne
  unfold CaP at KC
  cases hc : canB P with
  | false =>
    rw [hc] at KC
    have hno := hide' (can_none hc)
    clear KF hP0
    go_enter Tryz.func10, Tryz.ntmps10
    have q := hpV.out.all
    go_wp2_with fail
    refine KC.out.mono ?_
    rintro e w1 ⟨rfl, a', b', c', g1, g2, g3⟩
    have hF1 : Hid (M.Fr2 w w1 gs gs) := (M.Fr2.below hbV.out).trans g3.out
    clear q KC hbV hpV g3
    go_wp2
    go_ret2
    exact ⟨⟨a', b', c', g1, g2.out.up⟩, hF1, .inl ⟨rfl, hno⟩⟩
  | true =>
    rw [hc] at KC
    have hP1 := hide' (hP0.out hc)
    have hc' := hide' hc
    go_enter Tryz.func10, Tryz.ntmps10
    have q := hpV.out.all
    go_wp2_with fail
    refine KC.out.mono ?_
    rintro e w1 ⟨rfl, a', b', c', g1, g2, g3⟩
    have hF1 : Hid (M.Fr2 w w1 gs gs) := (M.Fr2.below hbV.out).trans g3.out
    have hp1 : Hid (PbB w1 w.heap.size P (.slice ow P.who.length cw) (.slice of P.fixed.length cf) (.slice or P.rules.length cr)) := (g3.out.block w.heap.size (Array.getElem?_eq_some_iff.1 hpV.out).1 (by omega) (by omega)).trans hpV.out
    have KF1 := hide' (KF.out w1 a' b' c' hF1.out g1.out g2.out hc)
    have hsz := hF1.out.size
    clear q KC hbV hpV g3 KF hc hP0
    have q0 := hp1.out.c0
    have q1 := hp1.out.c1
    have q2 := hp1.out.c2
    have q3 := hp1.out.c3
    go_wp2_with fail
    refine KF1.out.mono ?_
    rintro e w2 ⟨⟨a2, b2, c2, k1, k2⟩, k3, ⟨rfl, h5⟩ | ⟨v, l, rfl, h5, h6⟩⟩
    · have := canB_ls h5.out
      rw [hc'.out] at this
      cases this
    · have hF2 : Hid (M.Fr2 w w2 gs gs) := hF1.out.trans k3.out
      have hgg : Hid (GcB P 2 a b c a2 b2 c2) := g2.out.two (GcB.one hP1.out k2.out)
      have hown : Hid (w2.ownsRow w.heap.size 3 1 v l.length (cellsI l)) := owns_lowS h6.out hsz
      clear KF1 hp1 q0 q1 q2 q3 k2 k3 h6 hF1 g1 g2
      go_wp2
      go_ret2
      exact ⟨⟨a2, b2, c2, k1, hgg⟩, hF2, .inr ⟨v, l, rfl, h5, hown⟩⟩
end Go.Proofs.YtlijlelejobchaaGreatDoor.S
namespace Go.Proofs.YtlijlelejobchaaGreatDoor.S
open Go.RowKit Go.Shelf
def wkR : Rl := ⟨1, 0, [0, 1]⟩
def wkP : Pb := ⟨3, [3, 3, 4], [-1, -1, -1], [wkR]⟩
theorem wk_holds : holP wkP [0, 1, 2] = true := by decide +kernel
theorem wk_user {t : Nat} {x : Int} (h : okU wkP t x = true) : x = 0 ∨ x = 1 ∨ x = 2 := by
  unfold okU isU at h
  simp only [Bool.and_eq_true, decide_eq_true_eq] at h
  have h1 : x < 3 := h.1.2
  omega
theorem wk_one {l : List Int} (h : LsP wkP (some l)) : l = [0, 1, 2] := by
  rcases h.2 _ wk_holds with e | e
  · exact e.symm
  · exfalso
    have hl := h.1
    obtain ⟨_, h2, h3, _⟩ := holP_of hl
    have h2 : l.length = 3 := h2
    match l, h2, e, hl, h3 with
    | [a, b, c], _, e, hl, h3 =>
      rcases wk_user (h3 0 a rfl) with rfl | rfl | rfl <;> rcases wk_user (h3 1 b rfl) with rfl | rfl | rfl <;> rcases wk_user (h3 2 c rfl) with rfl | rfl | rfl <;> first | (revert e; decide +kernel) | (revert hl; decide +kernel)
theorem wk_can : canB wkP = true := (canB_iff _).2 ⟨_, wk_holds⟩
theorem wk_ok : Pok wkP := ⟨by decide, by decide, by decide, by decide, by decide⟩
/-- The problem of the runs, as it is written down. -/
theorem wk_mem (V : World) : ∃ W, W = ((((V.alloc (.cells #[.int .u64 3, .int .u64 3, .int .u64 4] 55)).alloc (.cells #[.int .i64 (-1), .int .i64 (-1), .int .i64 (-1)] 3)).alloc (.cells #[.int .i64 0, .int .i64 1] 3)).alloc (.cells #[.int .i64 1, .int .i64 0, .slice (some ⟨V.heap.size + 1 + 1, 0, none⟩) 2 2] 44)).alloc (.cells #[.int .i64 3, .slice (some ⟨V.heap.size, 0, none⟩) 3 3, .slice (some ⟨V.heap.size + 1, 0, none⟩) 3 3, .slice (some ⟨V.heap.size + 1 + 1 + 1, 0, none⟩) 1 1] 26) ∧
    PbV W wkP (.slice (some ⟨V.heap.size, 0, none⟩) 3 3) (.slice (some ⟨V.heap.size + 1, 0, none⟩) 3 3) (.slice (some ⟨V.heap.size + 1 + 1 + 1, 0, none⟩) 1 1) ∧ PbB W (V.heap.size + 1 + 1 + 1 + 1) wkP (.slice (some ⟨V.heap.size, 0, none⟩) 3 3) (.slice (some ⟨V.heap.size + 1, 0, none⟩) 3 3) (.slice (some ⟨V.heap.size + 1 + 1 + 1, 0, none⟩) 1 1) ∧ Below V.heap.size V W := by
  obtain ⟨z1, n1, k1, b1⟩ := alloc_stH V (.cells #[.int .u64 3, .int .u64 3, .int .u64 4] 55) _ rfl
  obtain ⟨z2, n2, k2, b2⟩ := alloc_stH _ (.cells #[.int .i64 (-1), .int .i64 (-1), .int .i64 (-1)] 3) _ z1
  obtain ⟨z3, n3, k3, b3⟩ := alloc_stH _ (.cells #[.int .i64 0, .int .i64 1] 3) _ z2
  obtain ⟨z4, n4, k4, b4⟩ := alloc_stH _ (.cells #[.int .i64 1, .int .i64 0, .slice (some ⟨V.heap.size + 1 + 1, 0, none⟩) 2 2] 44) _ z3
  obtain ⟨z5, n5, k5, b5⟩ := alloc_stH _ (.cells #[.int .i64 3, .slice (some ⟨V.heap.size, 0, none⟩) 3 3, .slice (some ⟨V.heap.size + 1, 0, none⟩) 3 3, .slice (some ⟨V.heap.size + 1 + 1 + 1, 0, none⟩) 1 1] 26) _ z4
  refine ⟨_, rfl, ?_, n5, (((b1.trans (b2.mono (by omega))).trans (b3.mono (by omega))).trans (b4.mono (by omega))).trans (b5.mono (by omega))⟩
  have m1 := k5 _ _ (k4 _ _ (k3 _ _ (k2 _ _ n1)))
  have m2 := k5 _ _ (k4 _ _ (k3 _ _ n2))
  have m3 := k5 _ _ (k4 _ _ n3)
  have m4 := k5 _ _ n4
  generalize ((((V.alloc (.cells #[.int .u64 3, .int .u64 3, .int .u64 4] 55)).alloc (.cells #[.int .i64 (-1), .int .i64 (-1), .int .i64 (-1)] 3)).alloc (.cells #[.int .i64 0, .int .i64 1] 3)).alloc (.cells #[.int .i64 1, .int .i64 0, .slice (some ⟨V.heap.size + 1 + 1, 0, none⟩) 2 2] 44)).alloc (.cells #[.int .i64 3, .slice (some ⟨V.heap.size, 0, none⟩) 3 3, .slice (some ⟨V.heap.size + 1, 0, none⟩) 3 3, .slice (some ⟨V.heap.size + 1 + 1 + 1, 0, none⟩) 1 1] 26) = W at *
  refine ⟨⟨_, _, rfl, ⟨Nat.le_refl _, fun e => by cases e⟩, fun i z hz => ⟨_, _, rfl, ?_⟩⟩, ⟨_, _, rfl, ⟨Nat.le_refl _, fun e => by cases e⟩, fun i z hz => ⟨_, _, rfl, ?_⟩⟩, ⟨_, _, rfl, ⟨Nat.le_refl _, fun e => by cases e⟩, fun i r hr => ?_⟩⟩
  · match i, hz with
    | 0, hz => cases hz; simp [World.cell?, m1]
    | 1, hz => cases hz; simp [World.cell?, m1]
    | 2, hz => cases hz; simp [World.cell?, m1]
    | i + 3, hz => simp [wkP] at hz
  · match i, hz with
    | 0, hz => cases hz; simp [World.cell?, m2]
    | 1, hz => cases hz; simp [World.cell?, m2]
    | 2, hz => cases hz; simp [World.cell?, m2]
    | i + 3, hz => simp [wkP] at hz
  · match i, hr with
    | 0, hr =>
      cases hr
      refine ⟨_, _, .slice (some ⟨V.heap.size + 1 + 1, 0, none⟩) 2 2, rfl, by simp [World.cell?, m4, wkR], by simp [World.cell?, m4, wkR], by simp [World.cell?, m4], ⟨_, _, rfl, ⟨Nat.le_refl _, fun e => by cases e⟩, fun j z hz => ⟨_, _, rfl, ?_⟩⟩⟩
      match j, hz with
      | 0, hz => cases hz; simp [World.cell?, m3]
      | 1, hz => cases hz; simp [World.cell?, m3]
      | j + 2, hz => simp [wkR] at hz
    | i + 1, hr => simp [wkP] at hr
theorem row_012 (V : World) : RowI (V.alloc (.cells #[.int .i64 0, .int .i64 1, .int .i64 2] 3)) (.slice (some ⟨V.heap.size, 0, none⟩) 3 3) [0, 1, 2] := by
  have n3 := heap_new V (.cells #[.int .i64 0, .int .i64 1, .int .i64 2] 3)
  generalize V.alloc (.cells #[.int .i64 0, .int .i64 1, .int .i64 2] 3) = W at *
  refine ⟨_, _, rfl, ⟨Nat.le_refl _, fun e => by cases e⟩, fun i z hz => ⟨_, _, rfl, ?_⟩⟩
  match i, hz with
  | 0, hz => cases hz; simp [World.cell?, n3]
  | 1, hz => cases hz; simp [World.cell?, n3]
  | 2, hz => cases hz; simp [World.cell?, n3]
  | i + 3, hz => simp at hz
/-- What stands between the calls. -/
structure WkS (w : World) (gs gp : Nat) (wv fv rv v : Value) (a b c : Nat) (V : World) : Prop where
  pv : PbV V wkP wv fv rv
  pb : PbB V gp wkP wv fv rv
  gg : GgAt V gs a b c
  tab : M.Tab V
  row : RowI V v [0, 1, 2]
  be : Below w.heap.size w V
theorem WkS.over {w : World} {gs gp : Nat} {wv fv rv v : Value} {a b c : Nat} {V V' : World} (h : WkS w gs gp wv fv rv v a b c V) (hb : Below V.heap.size V V') : WkS w gs gp wv fv rv v a b c V' :=
  ⟨h.pv.below hb, h.pb.below hb, h.gg.below hb, h.tab.over hb, h.row.below hb (Nat.le_refl _), h.be.trans (hb.mono h.be.size)⟩
theorem WkS.fr {w : World} {gs gp : Nat} {wv fv rv v : Value} {a b c a' b' c' : Nat} {V V' : World} (h : WkS w gs gp wv fv rv v a b c V) (hf : M.Fr2 V V' gs gs) (hg : GgAt V' gs a' b' c') (hgs : w.heap.size ≤ gs) (hne : ∀ ad n c, wv = .slice (some ad) n c → ad.block ≠ gs) (hgp : gp ≠ gs) (hG : 1 ≤ gs) : WkS w gs gp wv fv rv v a' b' c' V' :=
  ⟨pbV_frame h.pv h.gg hne hf, (hf.block gp (Array.getElem?_eq_some_iff.1 h.pb).1 hgp hgp).trans h.pb, hg, tab_frame h.tab hG hf, rowI_frame h.row h.gg fun k hk e => hf.block k hk e e, hf.new h.be hgs hgs h.be.size⟩
set_option maxRecDepth 100000 in
set_option maxHeartbeats 4000000 in
theorem wakesF (w : World) (ht : M.Tab w) : Calls Tryz.prog 7 #[] w fun e w' => e = .returned (.bool true) ∧ Below w.heap.size w w' := by
  have KN := hide' (newF w)
  have ht' := hide' ht
  have hGs := ht.2
  clear ht
  go_enter Tryz.func7, Tryz.ntmps7
  go_wp2_with fail
  refine KN.out.mono ?_
  rintro e w1 ⟨rfl, hg1, hb1⟩
  have hz1 := hg1.out.lt
  obtain ⟨W, hW, hP, hB, hbW⟩ := wk_mem w1
  have hW' := hide' hW
  have hgW := hide' (hg1.out.below hbW)
  have htW := hide' ((ht'.out.over hb1.out).over hbW)
  have hbw : Hid (Below w.heap.size w W) := hb1.out.trans (hbW.mono hb1.out.size)
  have hsW : w1.heap.size ≤ W.heap.size := hbW.size
  have KL : Hid (Calls Tryz.prog 10 #[.pointer (some ⟨w.heap.size, 0, none⟩), .agg #[.int .i64 3, .slice (some ⟨w1.heap.size, 0, none⟩) 3 3, .slice (some ⟨w1.heap.size + 1, 0, none⟩) 3 3, .slice (some ⟨w1.heap.size + 1 + 1 + 1, 0, none⟩) 1 1]] W (LeP W wkP w.heap.size 0 0 0)) := leastPF wkP _ _ _ w.heap.size 0 0 0 W hP wk_ok hgW.out hGs htW.out (fun ad n c e => by cases e; show w1.heap.size ≠ w.heap.size; omega) (by decide) (by decide) (by decide)
  have hPh := hide' hP
  have hBh := hide' hB
  clear KN hg1 hb1 ht' hP hB hbW hW
  go_upto_region 5 with fail
  rw [← hW'.out]
  have q0 := hBh.out.c0
  have q1 := hBh.out.c1
  have q2 := hBh.out.c2
  have q3 := hBh.out.c3
  unfold wkP at q0
  go_wp2_with fail
  refine KL.out.mono ?_
  rintro e w2 ⟨⟨a2, b2, c2, k1, k2⟩, k3, ⟨rfl, h5⟩ | ⟨v, l, rfl, h5, h6⟩⟩
  · have := h5.out [0, 1, 2]
    rw [wk_holds] at this
    cases this
  · obtain rfl := wk_one h5.out
    have hle := k2.out.le (by decide)
    have hne : Hid (∀ ad n c, Value.slice (some ⟨w1.heap.size, 0, none⟩) 3 3 = .slice (some ad) n c → ad.block ≠ w.heap.size) := fun ad n c e => by cases e; show w1.heap.size ≠ w.heap.size; omega
    have hS2 : Hid (WkS w w.heap.size (w1.heap.size + 1 + 1 + 1 + 1) (.slice (some ⟨w1.heap.size, 0, none⟩) 3 3) (.slice (some ⟨w1.heap.size + 1, 0, none⟩) 3 3) (.slice (some ⟨w1.heap.size + 1 + 1 + 1, 0, none⟩) 1 1) v a2 b2 c2 w2) :=
      ⟨pbV_frame hPh.out hgW.out hne.out k3.out, (k3.out.block _ (Array.getElem?_eq_some_iff.1 hBh.out).1 (by omega) (by omega)).trans hBh.out, k1.out, tab_frame htW.out hGs k3.out, RowI.of_owns h6.out, k3.out.new hbw.out (Nat.le_refl _) (Nat.le_refl _) hbw.out.size⟩
    obtain ⟨ov, cv, rfl⟩ := own_shp h6.out
    have hS3 := hide' (hS2.out.over ((Below.refl _ w2).alloc (Nat.le_refl _) (.cells #[.int .i64 0, .int .i64 1, .int .i64 2] 3)))
    have hr3 := row_012 w2
    have KI := hide' (K.keepInts [0, 1, 2] [0, 1, 2] _ _ _ hS3.out.row hr3 (by decide) (by decide))
    rw [show decide (([0, 1, 2] : List Int) = [0, 1, 2]) = true by decide] at KI
    have KC : Hid (∀ V a b c, WkS w w.heap.size (w1.heap.size + 1 + 1 + 1 + 1) (.slice (some ⟨w1.heap.size, 0, none⟩) 3 3) (.slice (some ⟨w1.heap.size + 1, 0, none⟩) 3 3) (.slice (some ⟨w1.heap.size + 1 + 1 + 1, 0, none⟩) 1 1) (.slice ov 3 cv) a b c V → a ≤ 2305843009213693952 → b ≤ 2305843009213693952 → c ≤ 2305843009213693952 → Calls Tryz.prog 12 #[.pointer (some ⟨w.heap.size, 0, none⟩), .agg #[.int .i64 3, .slice (some ⟨w1.heap.size, 0, none⟩) 3 3, .slice (some ⟨w1.heap.size + 1, 0, none⟩) 3 3, .slice (some ⟨w1.heap.size + 1 + 1 + 1, 0, none⟩) 1 1]] V fun e w' => e = .returned (.bool true) ∧ Hid (∃ a' b' c', WkS w w.heap.size (w1.heap.size + 1 + 1 + 1 + 1) (.slice (some ⟨w1.heap.size, 0, none⟩) 3 3) (.slice (some ⟨w1.heap.size + 1, 0, none⟩) 3 3) (.slice (some ⟨w1.heap.size + 1 + 1 + 1, 0, none⟩) 1 1) (.slice ov 3 cv) a' b' c' w')) := fun V a b c hV ha hb hc =>
      (canF wkP _ _ _ w.heap.size a b c V hV.pv wk_ok hV.gg hGs hV.tab ha hb hc).mono fun e w' ⟨h1, a', b', c', h2, _, h4⟩ => ⟨by rw [h1, wk_can], a', b', c', hV.fr h4.out h2.out (Nat.le_refl _) hne.out (by omega) hGs⟩
    have KH : Hid (∀ V a b c, WkS w w.heap.size (w1.heap.size + 1 + 1 + 1 + 1) (.slice (some ⟨w1.heap.size, 0, none⟩) 3 3) (.slice (some ⟨w1.heap.size + 1, 0, none⟩) 3 3) (.slice (some ⟨w1.heap.size + 1 + 1 + 1, 0, none⟩) 1 1) (.slice ov 3 cv) a b c V → Calls Tryz.prog 14 #[.agg #[.int .i64 3, .slice (some ⟨w1.heap.size, 0, none⟩) 3 3, .slice (some ⟨w1.heap.size + 1, 0, none⟩) 3 3, .slice (some ⟨w1.heap.size + 1 + 1 + 1, 0, none⟩) 1 1], .slice ov 3 cv] V fun e w' => e = .returned (.bool true) ∧ Below V.heap.size V w') := fun V a b c hV =>
      (holdsPF wkP _ _ _ [0, 1, 2] _ V hV.pv hV.row (by decide) wk_ok.w wk_ok.f wk_ok.r wk_ok.s wk_ok.b).mono fun e w' ⟨h1, h2⟩ => ⟨by rw [h1, wk_holds], h2⟩
    have KK : Hid (∀ V a b c, WkS w w.heap.size (w1.heap.size + 1 + 1 + 1 + 1) (.slice (some ⟨w1.heap.size, 0, none⟩) 3 3) (.slice (some ⟨w1.heap.size + 1, 0, none⟩) 3 3) (.slice (some ⟨w1.heap.size + 1 + 1 + 1, 0, none⟩) 1 1) (.slice ov 3 cv) a b c V → Calls Tryz.prog 13 #[.agg #[.int .i64 3, .slice (some ⟨w1.heap.size, 0, none⟩) 3 3, .slice (some ⟨w1.heap.size + 1, 0, none⟩) 3 3, .slice (some ⟨w1.heap.size + 1 + 1 + 1, 0, none⟩) 1 1]] V fun e w' => e = .returned (.int .i64 0) ∧ Below V.heap.size V w') := fun V a b c hV =>
      (checkPF wkP _ _ _ V hV.pv wk_ok.w wk_ok.f wk_ok.r wk_ok.s wk_ok.b).mono fun e w' ⟨h1, h2⟩ => ⟨by rw [h1, show chkN wkP = 0 from (holP_of wk_holds).1]; rfl, h2⟩
    clear q0 q1 q2 q3 KL k1 k2 k3 h5 h6 hS2 hr3 hPh hBh hgW htW hbw hW' hne
    go_wp2_with fail
    refine KI.out.mono ?_
    rintro e w3 ⟨rfl, hb3⟩
    have hS4 := hide' (hS3.out.over hb3)
    clear KI hS3 hb3
    have q0 := hS4.out.pb.c0
    have q1 := hS4.out.pb.c1
    have q2 := hS4.out.pb.c2
    have q3 := hS4.out.pb.c3
    unfold wkP at q0
    go_wp2_with fail
    refine (KC.out w3 a2 b2 c2 hS4.out (by omega) (by omega) (by omega)).mono ?_
    rintro e w4 ⟨rfl, h4⟩
    obtain ⟨a4, b4, c4, hS5'⟩ := h4.out
    have hS5 := hide' hS5'
    clear q0 q1 q2 q3 KC hS4 hS5' h4
    have q0 := hS5.out.pb.c0
    have q1 := hS5.out.pb.c1
    have q2 := hS5.out.pb.c2
    have q3 := hS5.out.pb.c3
    unfold wkP at q0
    go_wp2_with fail
    refine (KH.out w4 _ _ _ hS5.out).mono ?_
    rintro e w5 ⟨rfl, hb5⟩
    have hS6 := hide' (hS5.out.over hb5)
    clear q0 q1 q2 q3 KH hS5 hb5
    have q0 := hS6.out.pb.c0
    have q1 := hS6.out.pb.c1
    have q2 := hS6.out.pb.c2
    have q3 := hS6.out.pb.c3
    unfold wkP at q0
    go_wp2_with fail
    refine (KK.out w5 _ _ _ hS6.out).mono ?_
    rintro e w6 ⟨rfl, hb6⟩
    have hS7 := hide' (hS6.out.over hb6)
    clear q0 q1 q2 q3 KK hS6 hb6
    go_wp2
    go_ret
    exact ⟨rfl, hS7.out.be⟩
end Go.Proofs.YtlijlelejobchaaGreatDoor.S
