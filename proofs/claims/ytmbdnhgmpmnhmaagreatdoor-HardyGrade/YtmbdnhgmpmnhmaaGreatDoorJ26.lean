/- hardy.less: a problem with some users lost. -/
import Derived.Test.YtmbdnhgmpmnhmaaGreatDoorJ02
import Derived.Test.YtmbdnhgmpmnhmaaGreatDoorJ05
import Derived.Test.YtmbdnhgmpmnhmaaGreatDoorJ21
import Derived.Test.YtmbdnhgmpmnhmaaGreatDoorJ22
import Derived.Test.YtmbdnhgmpmnhmaaGreatDoorJ23
import Derived.Test.YtmbdnhgmpmnhmaaGreatDoorJ24
import Derived.Test.YtmbdnhgmpmnhmaaGreatDoorJ25
import Derived.Sort.Grow
import Derived.Sort.LotA
namespace Go.Proofs.YtmbdnhgmpmnhmaaGreatDoor.S
open Go.RowKit Go.Shelf Go.Sort
set_option maxRecDepth 100000 in
set_option maxHeartbeats 1000000 in
theorem cmpT (g gr n : Nat) (room : Nat → Int) (x y : Nat) (w : World) (hx : x < n) (hy : y < n) (hb : w.cell? ⟨g, 0, none⟩ = some (.slice (some ⟨gr, 0, none⟩) n n)) (hr : ∀ t, t < n → w.cell? ⟨gr, t, none⟩ = some (.int .i64 (room t))) :
    Calls Tryz.prog 93 #[.int .i64 (x : Int), .int .i64 (y : Int), .pointer (some ⟨g, 0, none⟩)] w fun e w' => e = .returned (.int .i64 (I.cmpI (room x) (room y))) ∧ ∃ q, w' = w.drewN q := by
  have hx' : (x : Int) < (n : Int) := by omega
  have hy' : (y : Int) < (n : Int) := by omega
  have hx0 : ¬ (x : Int) < 0 := by omega
  have hy0 : ¬ (y : Int) < 0 := by omega
  have c1 := hr x hx
  have c2 := hr y hy
  have hS : Hid (w.drew.cell? ⟨g, 0, none⟩ = some (.slice (some ⟨gr, 0, none⟩) n n) ∧ w.drew.cell? ⟨gr, x, none⟩ = some (.int .i64 (room x)) ∧ w.drew.cell? ⟨gr, y, none⟩ = some (.int .i64 (room y))) := ⟨hb, c1, c2⟩
  clear hr hb c1 c2
  go_enter Tryz.func93, Tryz.ntmps93
  go_wp2
  go_region_held3 (fun V => V.cell? ⟨g, 0, none⟩ = some (.slice (some ⟨gr, 0, none⟩) n n) ∧ V.cell? ⟨gr, x, none⟩ = some (.int .i64 (room x)) ∧ V.cell? ⟨gr, y, none⟩ = some (.int .i64 (room y))) (exact hS.out) (first | (go_at_call 56; refine (I.cmpF (room x) (room y) _).mono ?_; rintro e w2 ⟨rfl, rfl⟩))
  go_wp2
  go_ret
  exact ⟨rfl, 1, rfl⟩
/-- Blocks that are not the row's stay as they were. -/
theorem sort_block {α : Type} [Inhabited α] (enc : α → Value) (W : World) (g m : Nat) (d : Array α) (os : Array Obj) {k : Nat} (hk : k < W.heap.size) (hne : k ≠ g) : (sortWorld enc W g 0 m d os).heap[k]? = W.heap[k]? := by
  unfold sortWorld
  rw [Go.Sort.heap_grow_old _ _ (by simpa using hk)]
  have : g ≠ k := fun e => hne e.symm
  simp [putRow, mapBlock, Sort.ahead, Array.getElem?_modify, this]
theorem put_block {α : Type} [Inhabited α] (enc : α → Value) (W : World) (g : Nat) (d : Array α) (m : Nat) {k : Nat} (hne : k ≠ g) : ((putRow enc W g 0 d).drewN m).heap[k]? = W.heap[k]? := by
  have : g ≠ k := fun e => hne e.symm
  show (putRow enc W g 0 d).heap[k]? = W.heap[k]?
  simp [putRow, mapBlock, Array.getElem?_modify, this]
def encF {n : Nat} (x : Fin n) : Value := .int .i64 ((x.val : Nat) : Int)
theorem swoF (n : Nat) (room : Nat → Int) : SWO (ltOf fun x y : Fin n => I.cmpI (room x.val) (room y.val)) := by
  have h : ∀ x y : Fin n, ltOf (fun x y : Fin n => I.cmpI (room x.val) (room y.val)) x y = decide (room x.val < room y.val) := fun x y => by
    unfold ltOf
    exact cmpI_neg _ _
  refine ⟨fun x => ?_, fun x y z h1 h2 => ?_, fun x y z h1 h2 => ?_⟩
  · rw [h]; simp
  · rw [h] at h1 h2 ⊢
    simp at h1 h2 ⊢; omega
  · rw [h] at h1 h2 ⊢
    simp at h1 h2 ⊢; omega
theorem ext_all {α : Type} (d : Array α) {n : Nat} (h : d.size = n) : d.extract 0 n = d := by subst h; simp
def SoP (w : World) (gd _n : Nat) (L : List Nat) (e : Ending) (w' : World) : Prop :=
  e = .returned (.tuple #[]) ∧ ∃ L' : List Nat, Hid (L'.Perm L) ∧ Hid (∀ k x : Nat, L'[k]? = some x → w'.cell? ⟨gd, k, none⟩ = some (.int .i64 (x : Int))) ∧ Hid (w'.os = w.os ∧ w'.tape = w.tape ∧ w'.output = w.output ∧ w'.heap.size = w.heap.size ∧ ∀ k, k ≠ gd → w'.heap[k]? = w.heap[k]?)
theorem insT (gd g gr n : Nat) (room : Nat → Int) (L : List Nat) (w : World) (hn : 0 < n) (hm : n ≤ 12) (hL : L.length = n) (hLn : ∀ x ∈ L, x < n) (hg : g < w.heap.size) (hgr : gr < w.heap.size) (hne1 : g ≠ gd) (hne2 : gr ≠ gd)
    (hrow : ∀ k x : Nat, L[k]? = some x → w.cell? ⟨gd, k, none⟩ = some (.int .i64 (x : Int)) ∧ w.frozen? ⟨gd, k, none⟩ = false) (hb : w.cell? ⟨g, 0, none⟩ = some (.slice (some ⟨gr, 0, none⟩) n n)) (hr : ∀ t, t < n → w.cell? ⟨gr, t, none⟩ = some (.int .i64 (room t))) :
    Calls Tryz.prog 86 #[.slice (some ⟨gd, 0, none⟩) n n, .int .i64 0, .int .i64 (n : Int), .func (.func 93) #[] #[.pointer (some ⟨g, 0, none⟩)]] w (SoP w gd n L) := by
  have : Inhabited (Fin n) := ⟨⟨0, hn⟩⟩
  obtain ⟨d, hds, hdl⟩ : ∃ d : Array (Fin n), d.size = n ∧ d.toList.map (fun x => x.val) = L := by
    have hall : ∀ l : List Nat, (∀ x ∈ l, x < n) → ∃ m : List (Fin n), m.map (fun x => x.val) = l := fun l => by
      induction l with
      | nil => exact fun _ => ⟨[], rfl⟩
      | cons a l ih =>
        intro h
        obtain ⟨m, hm⟩ := ih fun x hx => h x (List.mem_cons_of_mem _ hx)
        exact ⟨⟨a, h a List.mem_cons_self⟩ :: m, by rw [List.map_cons, hm]⟩
    obtain ⟨m, hm⟩ := hall L hLn
    refine ⟨m.toArray, ?_, hm⟩
    have := congrArg List.length hm
    rw [List.length_map, hL] at this
    simpa using this
  have hat : ∀ j, j < n → L[j]? = some (d[j]!).val := fun j hj => by
    rw [← hdl, List.getElem?_map, Array.getElem?_toList, Array.getElem?_eq_getElem (by omega), getElem!_pos d j (by omega)]; rfl
  have hH : Holds (encF (n := n)) w gd 0 d := fun j hj => by
    rw [Nat.zero_add]
    exact hrow j _ (hat j (by omega))
  have hcmp : CmpReads Tryz.prog 93 #[.pointer (some ⟨g, 0, none⟩)] (encF (n := n)) (fun x y => I.cmpI (room x.val) (room y.val)) gd 0 d.size w := fun m os dk _ x y => by
    have h1 := sort_block (encF (n := n)) w gd m dk os hg hne1
    have h2 := sort_block (encF (n := n)) w gd m dk os hgr hne2
    refine cmpT g gr n room x.val y.val _ x.2 y.2 ?_ fun t ht => ?_
    · simp only [World.cell?] at hb ⊢
      rw [h1]; exact hb
    · have := hr t ht
      simp only [World.cell?] at this ⊢
      rw [h2]; exact this
  have eg : ∀ args w, (callFunc 93 args).run Tryz.prog w = .ok (.enter 93 args) w := enters_of Tryz.func93 (by kernel_rfl) rfl
  have hp := Any.insertionSortCmpFunc_one Tryz.insI (encF (n := n)) (fun _ => rfl) (fun x y => I.cmpI (room x.val) (room y.val)) 93 #[.pointer (some ⟨g, 0, none⟩)] gd 0 n 0 n d w eg hcmp hH (Nat.zero_le _) (by omega) (by omega)
  have hps := (insertionSort_holds (swoF n room) d 0 n (Nat.zero_le _) (by omega)).1
  change Calls Tryz.prog 86 _ _ _ at hp
  rw [hds] at hp
  refine hp.mono ?_
  rintro e w' ⟨rfl, m, rfl⟩
  obtain ⟨p1, _, p3⟩ := hps
  generalize insertionSort (ltOf fun x y : Fin n => I.cmpI (room x.val) (room y.val)) d 0 n = d' at *
  have hz : d'.size = n := by omega
  refine ⟨rfl, d'.toList.map (fun x => x.val), ?_, fun k x hx => ?_, rfl, rfl, rfl, ?_, fun k hk => put_block _ _ _ _ _ hk⟩
  · rw [← hdl]
    rw [ext_all d' hz, ext_all d hds] at p3
    exact p3.map _
  · rw [List.getElem?_map, Array.getElem?_toList] at hx
    have hk : k < d'.size := by
      rcases Nat.lt_or_ge k d'.size with h' | h'
      · exact h'
      · rw [Array.getElem?_eq_none h'] at hx; cases hx
    have hw := (holds_putRow (encF (n := n)) w gd 0 d d' hH (by omega) k hk).1
    rw [Nat.zero_add] at hw
    rw [Array.getElem?_eq_getElem hk] at hx
    have hx' : d'[k].val = x := by simpa using hx
    rw [← hx']
    show (putRow encF w gd 0 d').cell? ⟨gd, k, none⟩ = _
    rw [hw, getElem!_pos d' k hk]; rfl
  · show (putRow encF w gd 0 d').heap.size = _
    simp
set_option maxRecDepth 100000 in
set_option maxHeartbeats 1000000 in
theorem ins0 (gd : Nat) (f : Value) (hf : ∃ a b c, f = .func a b c) (w : World) : Calls Tryz.prog 86 #[.slice (some ⟨gd, 0, none⟩) 0 0, .int .i64 0, .int .i64 0, f] w (SoP w gd 0 []) := by
  obtain ⟨a, b, c, rfl⟩ := hf
  go_enter Tryz.func86, Tryz.ntmps86
  go_wp2
  go_loopw [8] (fun p wr => p = .int .i64 1 ∧ wr = w) (fun _ _ => 0)
  case atStart => exact ⟨rfl, rfl⟩
  case round =>
    obtain ⟨rfl, rfl⟩ := hrel
    go_wp2
    first | go_end0 | refine bodyPost_end (v := .tuple #[]) (by simp [results, Tryz.results86, go_sem]) rfl ?_
    exact ⟨rfl, [], List.Perm.refl _, fun k x h => (by cases h), rfl, rfl, rfl, rfl, fun _ _ => rfl⟩
set_option maxRecDepth 100000 in
set_option maxHeartbeats 1000000 in
theorem stabT (gd n : Nat) (L : List Nat) (f : Value) (hf : ∃ a b c, f = .func a b c) (w : World) (hn : n ≤ 12) (K : Calls Tryz.prog 86 #[.slice (some ⟨gd, 0, none⟩) n n, .int .i64 0, .int .i64 (n : Int), f] w (SoP w gd n L)) :
    Calls Tryz.prog 69 #[.slice (some ⟨gd, 0, none⟩) n n, .int .i64 (n : Int), f] w (SoP w gd n L) := by
  obtain ⟨a, b, c, rfl⟩ := hf
  have K' := hide' K
  have h20 : ¬ (20 : Int) ≤ (n : Int) := by omega
  have h21 : ¬ (20 : Int) < (n : Int) := by omega
  clear K
  go_enter Tryz.func69, Tryz.ntmps69
  go_wp2
  go_loopw [7, 8] (fun p q wr => p = .int .i64 0 ∧ q = .int .i64 20 ∧ wr = w) (fun _ _ _ => 0)
  case atStart => exact ⟨rfl, rfl, rfl⟩
  case round =>
    obtain ⟨rfl, rfl, rfl⟩ := hrel
    go_wp2_with fail
    refine K'.out.mono ?_
    rintro e w2 ⟨rfl, L', h1, h2, h3⟩
    go_wp2
    go_loopw [6] (fun p wr2 => p = .int .i64 20 ∧ wr2 = w2) (fun _ _ => 0)
    case atStart => exact ⟨rfl, rfl⟩
    case round =>
      obtain ⟨rfl, rfl⟩ := hrel
      go_wp2
      first | go_end0 | refine bodyPost_end (v := .tuple #[]) (by simp [results, Tryz.results69, go_sem]) rfl ?_
      exact ⟨rfl, L', h1, h2, h3⟩
set_option maxRecDepth 100000 in
theorem sortT (gd n : Nat) (L : List Nat) (f : Value) (hf : ∃ a b c, f = .func a b c) (w : World) (hn : n ≤ 12) (K : Calls Tryz.prog 86 #[.slice (some ⟨gd, 0, none⟩) n n, .int .i64 0, .int .i64 (n : Int), f] w (SoP w gd n L)) :
    Calls Tryz.prog 54 #[.slice (some ⟨gd, 0, none⟩) n n, f] w (SoP w gd n L) := by
  have K' := hide' (stabT gd n L f hf w hn K)
  obtain ⟨a, b, c, rfl⟩ := hf
  clear K
  go_enter Tryz.func54, Tryz.ntmps54
  go_wp2_with fail
  refine K'.out.mono ?_
  rintro e w2 ⟨rfl, L', h1, h2, h3⟩
  go_wp2
  first | go_end0 | refine bodyPost_end (v := .tuple #[]) (by simp [results, Tryz.results54, go_sem]) rfl ?_
  exact ⟨rfl, L', h1, h2, h3⟩
end Go.Proofs.YtmbdnhgmpmnhmaaGreatDoor.S
namespace Go.Proofs.YtmbdnhgmpmnhmaaGreatDoor.S
open Go.RowKit Go.Shelf
/-- Two rows and a box that holds the second. -/
structure Tm (w : World) (P : Pb) (wv fv rv : Value) (gd gr gb n : Nat) (A R : Nat → Int) (W : World) : Prop where
  pb : PbB W w.heap.size P wv fv rv
  ord : W.ownsRow (w.heap.size + 1) 3 1 (.slice (some ⟨gd, 0, none⟩) n n) n (cellsZ A n)
  room : W.ownsRow (w.heap.size + 1) 3 1 (.slice (some ⟨gr, 0, none⟩) n n) n (cellsZ R n)
  box : W.heap[gb]? = some (.cells #[.slice (some ⟨gr, 0, none⟩) n n] 23 (0, 0))
  new : w.heap.size + 1 ≤ gb
  ne1 : gd ≠ gr
  be : Below w.heap.size w W
section
variable {w : World} {P : Pb} {wv fv rv : Value} {gd gr gb n : Nat} {A R : Nat → Int} {W W' : World}
theorem Tm.over (h : Tm w P wv fv rv gd gr gb n A R W) (hb : Below W.heap.size W W') : Tm w P wv fv rv gd gr gb n A R W' :=
  ⟨h.pb.below hb, own_below h.ord hb (Nat.le_refl _), own_below h.room hb (Nat.le_refl _), (hb.block gb (Array.getElem?_eq_some_iff.1 h.box).1).trans h.box, h.new, h.ne1, h.be.trans (hb.mono h.be.size)⟩
theorem Tm.kinds (h : Tm w P wv fv rv gd gr gb n A R W) : gb ≠ gd ∧ gb ≠ gr := by
  obtain ⟨c1, f1, h1⟩ := Go.Lib.ownsRow_kind h.ord gd rfl
  obtain ⟨c2, f2, h2⟩ := Go.Lib.ownsRow_kind h.room gr rfl
  have hb := h.box
  refine ⟨fun e => ?_, fun e => ?_⟩
  · rw [e, h1] at hb; simp at hb
  · rw [e, h2] at hb; simp at hb
theorem Tm.setO (h : Tm w P wv fv rv gd gr gb n A R W) (j : Nat) (z : Int) : Tm w P wv fv rv gd gr gb n (fun b => if b = j then z else A b) R (W.setCell ⟨gd, j, none⟩ (.int .i64 z)) := by
  have hk := h.kinds
  have hg : w.heap.size + 1 ≤ gd := own_ge' h.ord rfl
  refine ⟨(Below.heap_setCell W _ _ _ (by show w.heap.size ≠ gd; omega)).trans h.pb, ?_, own_same h.room fun k _ hk' => Below.heap_setCell W _ _ _ (by cases hk'; exact fun e => h.ne1 e.symm), (Below.heap_setCell W _ _ _ hk.1).trans h.box, h.new, h.ne1, h.be.setCell (by show w.heap.size ≤ gd; omega) _⟩
  have h1 := (h.ord.stored j (.int .i64 z)).1
  rw [cellsZ_set] at h1
  exact h1
theorem Tm.setR (h : Tm w P wv fv rv gd gr gb n A R W) (j : Nat) (z : Int) : Tm w P wv fv rv gd gr gb n A (fun b => if b = j then z else R b) (W.setCell ⟨gr, j, none⟩ (.int .i64 z)) := by
  have hk := h.kinds
  have hg : w.heap.size + 1 ≤ gr := own_ge' h.room rfl
  refine ⟨(Below.heap_setCell W _ _ _ (by show w.heap.size ≠ gr; omega)).trans h.pb, own_same h.ord fun k _ hk' => Below.heap_setCell W _ _ _ (by cases hk'; exact h.ne1), ?_, (Below.heap_setCell W _ _ _ hk.2).trans h.box, h.new, h.ne1, h.be.setCell (by show w.heap.size ≤ gr; omega) _⟩
  have h1 := (h.room.stored j (.int .i64 z)).1
  rw [cellsZ_set] at h1
  exact h1
theorem Tm.bx (h : Tm w P wv fv rv gd gr gb n A R W) : W.cell? ⟨gb, 0, none⟩ = some (.slice (some ⟨gr, 0, none⟩) n n) := by have := h.box; simp [World.cell?, this]
theorem Tm.cO (h : Tm w P wv fv rv gd gr gb n A R W) {j : Nat} (hj : j < n) : W.cell? ⟨gd, j, none⟩ = some (.int .i64 (A j)) := by rw [h.ord.cellAt j (by omega)]; exact cellsZ_at _ hj
theorem Tm.cR (h : Tm w P wv fv rv gd gr gb n A R W) {j : Nat} (hj : j < n) : W.cell? ⟨gr, j, none⟩ = some (.int .i64 (R j)) := by rw [h.room.cellAt j (by omega)]; exact cellsZ_at _ hj
end
theorem cell_drew {W : World} {a : Addr} {v : Value} (h : W.cell? a = some v) : W.drew.cell? a = some v := h
theorem cell_setO {W : World} {g o g' o' : Nat} {v u : Value} (h : W.cell? ⟨g, o, none⟩ = some v) (hne : g ≠ g') : (W.setCell ⟨g', o', none⟩ u).cell? ⟨g, o, none⟩ = some v := by
  have := Below.heap_setCell W ⟨g', o', none⟩ u g hne
  simp only [World.cell?] at h ⊢
  rw [this]; exact h
theorem three (V : World) (o1 o2 o3 : Obj) : (((V.alloc o1).alloc o2).alloc o3).heap[V.heap.size]? = some o1 ∧ (((V.alloc o1).alloc o2).alloc o3).heap[V.heap.size + 1]? = some o2 ∧ (((V.alloc o1).alloc o2).alloc o3).heap[V.heap.size + 1 + 1]? = some o3 ∧ Below V.heap.size V (((V.alloc o1).alloc o2).alloc o3) := by
  obtain ⟨z1, n1, k1, b1⟩ := alloc_stH V o1 _ rfl
  obtain ⟨z2, n2, k2, b2⟩ := alloc_stH _ o2 _ z1
  obtain ⟨z3, n3, k3, b3⟩ := alloc_stH _ o3 _ z2
  exact ⟨k3 _ _ (k2 _ _ n1), k3 _ _ n2, n3, (b1.trans (b2.mono (by omega))).trans (b3.mono (by omega))⟩
theorem Tm.mk1 {w V W : World} {P : Pb} {wv fv rv : Value} {gd gr gb n : Nat} (hn : n ≤ 12) (hpV : PbB V w.heap.size P wv fv rv) (hbV : Below w.heap.size w V) (hs : V.heap.size = w.heap.size + 1) (hB : Below V.heap.size V W) (h1 : W.heap[gd]? = some (.cells (madeCells #[.int .i64 0] n) 3 (0, 0))) (h2 : W.heap[gr]? = some (.cells (madeCells #[.int .i64 0] n) 3 (0, 0))) (h3 : W.heap[gb]? = some (.cells #[.slice (some ⟨gr, 0, none⟩) n n] 23 (0, 0))) (g1 : V.heap.size ≤ gd) (g2 : V.heap.size ≤ gr) (g3 : V.heap.size ≤ gb) (hne : gd ≠ gr) :
    Tm w P wv fv rv gd gr gb n (fun _ => 0) (fun _ => 0) W := by
  have own : ∀ g, W.heap[g]? = some (.cells (madeCells #[.int .i64 0] n) 3 (0, 0)) → V.heap.size ≤ g → W.ownsRow (w.heap.size + 1) 3 1 (.slice (some ⟨g, 0, none⟩) n n) n (cellsZ (fun _ => 0) n) := fun g h hg => by
    refine ⟨by rw [cellsZ_len]; omega, .inr ⟨g, n, _, rfl, by omega, h, Nat.le_refl _, by unfold maxLen; omega, by rw [size_madeCells, Nat.mul_one], ?_⟩⟩
    rw [toList_madeCells_one, Nat.mul_one, List.take_of_length_le (by simp), cellsZ_zero]
  exact ⟨(hB.block _ (by omega)).trans hpV, own gd h1 g1, own gr h2 g2, h3, by omega, hne, hbV.trans (hB.mono hbV.size)⟩
theorem Tm.mk0 {w V W : World} {P : Pb} {wv fv rv : Value} {gd gr gb n : Nat} (hn : n ≤ 12) (hpV : PbB V w.heap.size P wv fv rv) (hbV : Below w.heap.size w V) (hs : V.heap.size = w.heap.size + 1) (hB : Below V.heap.size V W) (h1 : W.heap[gd]? = some (.cells (madeCells #[.int .i64 0] n) 3 (0, 0))) (h2 : W.heap[gr]? = some (.cells (madeCells #[.int .i64 0] n) 3 (0, 0))) (h3 : W.heap[gb]? = some (.cells #[.slice none 0 0] 23 (0, 0))) (g1 : V.heap.size ≤ gd) (g2 : V.heap.size ≤ gr) (g3 : V.heap.size ≤ gb) (hne : gd ≠ gr) (hne1 : gb ≠ gd) (hne2 : gb ≠ gr) :
    Tm w P wv fv rv gd gr gb n (fun _ => 0) (fun _ => 0) (W.setCell ⟨gb, 0, none⟩ (.slice (some ⟨gr, 0, none⟩) n n)) :=
  Tm.mk1 hn hpV hbV hs (hB.setCell (p := ⟨gb, 0, none⟩) g3 _) ((Below.heap_setCell W _ _ _ (fun e => hne1 e.symm)).trans h1) ((Below.heap_setCell W _ _ _ (fun e => hne2 e.symm)).trans h2) (by
    have := heap_setCell_same W gb 0 _ _ (.slice (some ⟨gr, 0, none⟩) n n) h3
    simpa using this) g1 g2 g3 hne
/-- The order as it is written down. -/
def oA (j t : Nat) : Int := if t < j then (t : Int) else 0
theorem oA_set (j : Nat) : (fun t => if t = j then (j : Int) else oA j t) = oA (j + 1) := by
  funext t
  unfold oA
  by_cases e : t = j
  · subst e; rw [if_pos rfl, if_pos (by omega)]
  · rw [if_neg e]
    by_cases e2 : t < j
    · rw [if_pos e2, if_pos (by omega)]
    · rw [if_neg e2, if_neg (by omega)]
set_option maxRecDepth 100000 in
set_option maxHeartbeats 8000000 in
theorem tightF (P : Pb) (wv fv rv : Value) (w : World) (h : PbV w P wv fv rv) (hn : P.who.length ≤ 12) (hf : P.fixed.length = P.who.length) (hx : ∀ x ∈ P.fixed, x = -1 ∨ (0 ≤ x ∧ x < 64)) (hw : ∀ z ∈ P.who, z < 18446744073709551616) (hlr : P.rules.length ≤ 1000) (hm : ∀ r ∈ P.rules, r.steps.length ≤ 1000) :
    Calls Tryz.prog 75 #[pbV P wv fv rv] w fun e w' => ∃ v O, e = .returned v ∧ Hid (RowI w' v (ints O)) ∧ Hid (O.Perm (List.range P.who.length)) ∧ Hid (Below w.heap.size w w') := by
  have hs := h.shape
  have hsz0 : (w.alloc (.cells #[.int .i64 P.users, wv, fv, rv] 26)).heap.size = w.heap.size + 1 := by simp
  have hbV : Below w.heap.size w (w.alloc (.cells #[.int .i64 P.users, wv, fv, rv] 26)) := (Below.refl _ w).alloc (Nat.le_refl _) _
  have hpV : PbB (w.alloc (.cells #[.int .i64 P.users, wv, fv, rv] 26)) w.heap.size P wv fv rv := heap_new w _
  have hmk := makeNH P.who.length (by omega)
  have KM : Hid (∀ (t : Nat) (V : World), t < P.who.length → Below w.heap.size w V → Calls Tryz.prog 91 #[pbV P wv fv rv, .int .i64 (t : Int)] V fun e w' => e = .returned (.int .u64 (mayP P t : Int)) ∧ Below V.heap.size V w') := fun t V ht hV => mayF P wv fv rv t V (h.below hV) ht (by omega) hx
  have KR : Hid (∀ (t : Nat) (V : World), Below w.heap.size w V → Calls Tryz.prog 92 #[pbV P wv fv rv, .int .i64 (t : Int)] V fun e w' => ∃ o c, e = .returned (.slice o (rulN P.rules (t : Int)).length c) ∧ Below V.heap.size V w') := fun t V hV => (rulesOfF P wv fv rv (t : Int) V (h.below hV) hlr hm).mono (by
    rintro e w' ⟨v, E, rfl, hE, hT, hb⟩
    obtain ⟨o, c, rfl⟩ := own_shp hT.row
    have := congrArg List.length hE
    rw [List.length_map] at this
    rw [this]
    exact ⟨o, c, rfl, hb⟩)
  have KO : Hid (∀ (t : Nat) (V : World), Calls Tryz.prog 59 #[.int .u64 (mayP P t : Int)] V fun e w' => e = .returned (.int .i64 ((M.nums (mayP P t)).length : Int)) ∧ w' = V) := fun t V => M.ones64m (mayP P t) (mayP_lt hw hx t) V
  have hlr' : Hid (∀ t : Nat, (rulN P.rules (t : Int)).length ≤ 1000 ∧ (M.nums (mayP P t)).length ≤ 64) := fun t => ⟨Nat.le_trans (List.length_filter_le _ _) hlr, by rw [M.len_nums]; exact M.cnt_le 64 _⟩
  have hB0 : Hid (Below w.heap.size w (w.alloc (.cells #[.int .i64 P.users, wv, fv, rv] 26)) ∧ PbB (w.alloc (.cells #[.int .i64 P.users, wv, fv, rv] 26)) w.heap.size P wv fv rv) := ⟨hbV, hpV⟩
  have hS0 : Hid ((w.alloc (.cells #[.int .i64 P.users, wv, fv, rv] 26)).cell? ⟨w.heap.size, 1, none⟩ = some wv) := hpV.c1
  obtain ⟨ow, cw, of, cf, or, cr, rfl, rfl, rfl⟩ := hs
  unfold pbV at KM KR ⊢
  have hn0 : ¬ (P.who.length : Int) < 0 := by omega
  clear h hx hw hm hf hbV hpV
  have hsz0' := hide' hsz0
  clear hsz0
  go_enter Tryz.func75, Tryz.ntmps75
  go_upto_region 1 with fail
  go_cut [3, 4] from 6 to 13 (fun s t wx => ∃ gd gr gb, s = .slice (some ⟨gd, 0, none⟩) P.who.length P.who.length ∧ t = .pointer (some ⟨gb, 0, none⟩) ∧ Hid (Tm w P (.slice ow P.who.length cw) (.slice of P.fixed.length cf) (.slice or P.rules.length cr) gd gr gb P.who.length (fun _ => 0) (fun _ => 0) wx))
  case first =>
    as_aux_lemma =>
    refine wp_region_held_drew (S := (fun V => V.cell? ⟨w.heap.size, 1, none⟩ = some (.slice ow P.who.length cw))) (by kernel_rfl) ?_ (fun hHeld => ?_)
    · exact cell_drew hS0.out
    refine wpAnyH_take (i := 0) (oi := { dst := some 6, op := Op.fieldAddr 26 (Operand.tmp 1) 1, type := 0, pos := "order.go:14", after := #[], guard := none }) (v := ?_) rfl (by kernel_rfl) (by kernel_rfl) (by kernel_rfl) (fun _ _ _ h => h) (Or.inl ⟨by rfl, ?_⟩) (by assumption) ?_
    rotate_left
    · intro w hSw; (try dsimp only at hSw); go_simp <;> with_reducible rfl
    simp only [Act.put, List.setIfInBounds_toArray, List.set_cons_zero, List.set_cons_succ]
    refine wpAnyH_take (i := 1) (oi := { dst := some 7, op := Op.load 22 (Operand.tmp 6), type := 22, pos := "order.go:14", after := #[{ on := 0, ground := Ground.data }], guard := none }) (v := ?_) rfl (by kernel_rfl) (by kernel_rfl) (by kernel_rfl) (fun _ _ _ h => h) (Or.inl ⟨by rfl, ?_⟩) (by assumption) ?_
    rotate_left
    · intro w hSw; (try dsimp only at hSw); go_simp <;> with_reducible rfl
    simp only [Act.put, List.setIfInBounds_toArray, List.set_cons_zero, List.set_cons_succ]
    refine wpAnyH_take (i := 2) (oi := { dst := some 8, op := Op.call { callee := Callee.builtin Builtin.len, args := #[Operand.tmp 7], argTypes := #[22] }, type := 3, pos := "order.go:14", after := #[{ on := 1, ground := Ground.data }], guard := none }) (v := ?_) rfl (by kernel_rfl) (by kernel_rfl) (by kernel_rfl) (fun _ _ _ h => h) (Or.inl ⟨by rfl, ?_⟩) (by assumption) ?_
    rotate_left
    · intro w hSw; (try dsimp only at hSw); go_simp <;> with_reducible rfl
    simp only [Act.put, List.setIfInBounds_toArray, List.set_cons_zero, List.set_cons_succ]
    refine wpAnyH_take (i := 4) (oi := { dst := some 10, op := Op.fieldAddr 26 (Operand.tmp 1) 1, type := 0, pos := "order.go:14", after := #[], guard := none }) (v := ?_) rfl (by kernel_rfl) (by kernel_rfl) (by kernel_rfl) (fun _ _ _ h => h) (Or.inl ⟨by rfl, ?_⟩) (by assumption) ?_
    rotate_left
    · intro w hSw; (try dsimp only at hSw); go_simp <;> with_reducible rfl
    simp only [Act.put, List.setIfInBounds_toArray, List.set_cons_zero, List.set_cons_succ]
    refine wpAnyH_take (i := 5) (oi := { dst := some 11, op := Op.load 22 (Operand.tmp 10), type := 22, pos := "order.go:14", after := #[{ on := 4, ground := Ground.data }], guard := none }) (v := ?_) rfl (by kernel_rfl) (by kernel_rfl) (by kernel_rfl) (fun _ _ _ h => h) (Or.inl ⟨by rfl, ?_⟩) (by assumption) ?_
    rotate_left
    · intro w hSw; (try dsimp only at hSw); go_simp <;> with_reducible rfl
    simp only [Act.put, List.setIfInBounds_toArray, List.set_cons_zero, List.set_cons_succ]
    refine wpAnyH_take (i := 6) (oi := { dst := some 12, op := Op.call { callee := Callee.builtin Builtin.len, args := #[Operand.tmp 11], argTypes := #[22] }, type := 3, pos := "order.go:14", after := #[{ on := 5, ground := Ground.data }], guard := none }) (v := ?_) rfl (by kernel_rfl) (by kernel_rfl) (by kernel_rfl) (fun _ _ _ h => h) (Or.inl ⟨by rfl, ?_⟩) (by assumption) ?_
    rotate_left
    · intro w hSw; (try dsimp only at hSw); go_simp <;> with_reducible rfl
    simp only [Act.put, List.setIfInBounds_toArray, List.set_cons_zero, List.set_cons_succ]
    refine wpAnyH_ready (rs := [3, 7, 8]) (by kernel_rfl) (by simp) ?_
    refine AllReadyH.cons (o := { dst := some 9, op := Op.makeSlice 23 (Operand.tmp 8) (Operand.tmp 8), type := 23, pos := "order.go:14", after := #[{ on := 2, ground := Ground.data }, { on := 2, ground := Ground.data }], guard := none }) rfl (fun K hK => ?_) ?_
    · skip
      go_simp
      refine hK.out _ _ ?_ (fun hHeld => ?_)
      · exact cell_drew (cell_new hS0.out)
      clear hK K
      try simp only [Act.put, List.setIfInBounds_toArray, List.set_cons_zero, List.set_cons_succ]
      refine wpAnyH_ready (rs := [7, 8]) (by kernel_rfl) (by simp) ?_
      refine AllReadyH.cons (o := { dst := some 13, op := Op.makeSlice 23 (Operand.tmp 12) (Operand.tmp 12), type := 23, pos := "order.go:14", after := #[{ on := 6, ground := Ground.data }, { on := 6, ground := Ground.data }], guard := none }) rfl (fun K hK => ?_) ?_
      · skip
        go_simp
        refine hK.out _ _ ?_ (fun hHeld => ?_)
        · exact cell_drew (cell_new (cell_new hS0.out))
        clear hK K
        try simp only [Act.put, List.setIfInBounds_toArray, List.set_cons_zero, List.set_cons_succ]
        refine wpAnyH_ready (rs := [8]) (by kernel_rfl) (by simp) ?_
        refine AllReadyH.cons (o := { dst := some 4, op := Op.alloc 23, type := 0, pos := "order.go:14", after := #[], guard := none }) rfl (fun K hK => ?_) AllReadyH.nil
        go_simp
        refine hK.out _ _ ?_ (fun hHeld => ?_)
        · exact cell_drew (cell_new (cell_new (cell_new hS0.out)))
        clear hK K
        try simp only [Act.put, List.setIfInBounds_toArray, List.set_cons_zero, List.set_cons_succ]
        refine wpAnyH_take (i := 9) (oi := { dst := some 3, op := Op.assign (Operand.tmp 9), type := 23, pos := "order.go:14", after := #[{ on := 3, ground := Ground.data }, { on := 0, ground := Ground.phase }, { on := 1, ground := Ground.phase }, { on := 2, ground := Ground.phase }, { on := 3, ground := Ground.phase }, { on := 4, ground := Ground.textOnly Departure.lateStores }, { on := 5, ground := Ground.textOnly Departure.lateStores }, { on := 6, ground := Ground.textOnly Departure.lateStoresUnsure }, { on := 7, ground := Ground.textOnly Departure.lateStoresUnsure }, { on := 8, ground := Ground.phase }], guard := none }) (v := ?_) rfl (by kernel_rfl) (by kernel_rfl) (by kernel_rfl) (fun _ _ _ h => h) (Or.inl ⟨by rfl, ?_⟩) (by assumption) ?_
        rotate_left
        · intro w hSw; (try dsimp only at hSw); go_simp <;> with_reducible rfl
        simp only [Act.put, List.setIfInBounds_toArray, List.set_cons_zero, List.set_cons_succ]
        refine wpAnyH_ready (rs := [10]) (by kernel_rfl) (by simp) ?_
        refine AllReadyH.cons (o := { dst := none, op := Op.store 23 (Operand.tmp 4) (Operand.tmp 13), type := 0, pos := "order.go:14", after := #[{ on := 8, ground := Ground.data }, { on := 7, ground := Ground.data }, { on := 9, ground := Ground.chain }, { on := 0, ground := Ground.phase }, { on := 1, ground := Ground.phase }, { on := 2, ground := Ground.phase }, { on := 3, ground := Ground.phase }, { on := 4, ground := Ground.phase }, { on := 5, ground := Ground.phase }, { on := 6, ground := Ground.phase }, { on := 7, ground := Ground.phase }, { on := 8, ground := Ground.phase }, { on := 9, ground := Ground.phase }], guard := none }) rfl (fun K hK => ?_) AllReadyH.nil
        go_simp
        refine hK.out _ _ ?_ (fun hHeld => ?_)
        · first | exact cell_drew (cell_new (cell_new (cell_new hS0.out))) | exact cell_drew (cell_setO (cell_new (cell_new (cell_new hS0.out))) (by omega))
        clear hK K
        try simp only [Act.put, List.setIfInBounds_toArray, List.set_cons_zero, List.set_cons_succ]
        refine wpAnyH_done (by kernel_rfl) ?_ _
        skip
        go_wp2
        go_meet
        first | (have h3 := three (w.alloc (.cells #[.int .i64 P.users, .slice ow P.who.length cw, .slice of P.fixed.length cf, .slice or P.rules.length cr] 26)) (.cells (madeCells #[.int .i64 0] P.who.length) 3) (.cells (madeCells #[.int .i64 0] P.who.length) 3) (.cells #[.slice (some ⟨w.heap.size + 1 + 1, 0, none⟩) P.who.length P.who.length] 23); rw [hsz0'.out] at h3; have hT := Tm.mk1 (w := w) (V := (w.alloc (.cells #[.int .i64 P.users, .slice ow P.who.length cw, .slice of P.fixed.length cf, .slice or P.rules.length cr] 26))) hn hB0.out.2 hB0.out.1 hsz0'.out (by rw [hsz0'.out]; exact h3.2.2.2) h3.1 h3.2.1 h3.2.2.1 (by rw [hsz0'.out]; omega) (by rw [hsz0'.out]; omega) (by rw [hsz0'.out]; omega) (by omega); exact ⟨_, _, _, rfl, rfl, hT.over (Below.refl _ _).drew⟩) | (have h3 := three (w.alloc (.cells #[.int .i64 P.users, .slice ow P.who.length cw, .slice of P.fixed.length cf, .slice or P.rules.length cr] 26)) (.cells (madeCells #[.int .i64 0] P.who.length) 3) (.cells (madeCells #[.int .i64 0] P.who.length) 3) (.cells #[.slice none 0 0] 23); rw [hsz0'.out] at h3; have hT := Tm.mk0 (w := w) (V := (w.alloc (.cells #[.int .i64 P.users, .slice ow P.who.length cw, .slice of P.fixed.length cf, .slice or P.rules.length cr] 26))) hn hB0.out.2 hB0.out.1 hsz0'.out (by rw [hsz0'.out]; exact h3.2.2.2) h3.1 h3.2.1 h3.2.2.1 (by rw [hsz0'.out]; omega) (by rw [hsz0'.out]; omega) (by rw [hsz0'.out]; omega) (by omega) (by omega) (by omega); exact ⟨_, _, _, rfl, rfl, hT.over (Below.refl _ _).drew⟩)
      refine AllReadyH.cons (o := { dst := some 4, op := Op.alloc 23, type := 0, pos := "order.go:14", after := #[], guard := none }) rfl (fun K hK => ?_) AllReadyH.nil
      go_simp
      refine hK.out _ _ ?_ (fun hHeld => ?_)
      · exact cell_drew (cell_new (cell_new hS0.out))
      clear hK K
      try simp only [Act.put, List.setIfInBounds_toArray, List.set_cons_zero, List.set_cons_succ]
      refine wpAnyH_take (i := 9) (oi := { dst := some 3, op := Op.assign (Operand.tmp 9), type := 23, pos := "order.go:14", after := #[{ on := 3, ground := Ground.data }, { on := 0, ground := Ground.phase }, { on := 1, ground := Ground.phase }, { on := 2, ground := Ground.phase }, { on := 3, ground := Ground.phase }, { on := 4, ground := Ground.textOnly Departure.lateStores }, { on := 5, ground := Ground.textOnly Departure.lateStores }, { on := 6, ground := Ground.textOnly Departure.lateStoresUnsure }, { on := 7, ground := Ground.textOnly Departure.lateStoresUnsure }, { on := 8, ground := Ground.phase }], guard := none }) (v := ?_) rfl (by kernel_rfl) (by kernel_rfl) (by kernel_rfl) (fun _ _ _ h => h) (Or.inl ⟨by rfl, ?_⟩) (by assumption) ?_
      rotate_left
      · intro w hSw; (try dsimp only at hSw); go_simp <;> with_reducible rfl
      simp only [Act.put, List.setIfInBounds_toArray, List.set_cons_zero, List.set_cons_succ]
      refine wpAnyH_ready (rs := [7]) (by kernel_rfl) (by simp) ?_
      refine AllReadyH.cons (o := { dst := some 13, op := Op.makeSlice 23 (Operand.tmp 12) (Operand.tmp 12), type := 23, pos := "order.go:14", after := #[{ on := 6, ground := Ground.data }, { on := 6, ground := Ground.data }], guard := none }) rfl (fun K hK => ?_) AllReadyH.nil
      go_simp
      refine hK.out _ _ ?_ (fun hHeld => ?_)
      · exact cell_drew (cell_new (cell_new (cell_new hS0.out)))
      clear hK K
      try simp only [Act.put, List.setIfInBounds_toArray, List.set_cons_zero, List.set_cons_succ]
      refine wpAnyH_ready (rs := [10]) (by kernel_rfl) (by simp) ?_
      refine AllReadyH.cons (o := { dst := none, op := Op.store 23 (Operand.tmp 4) (Operand.tmp 13), type := 0, pos := "order.go:14", after := #[{ on := 8, ground := Ground.data }, { on := 7, ground := Ground.data }, { on := 9, ground := Ground.chain }, { on := 0, ground := Ground.phase }, { on := 1, ground := Ground.phase }, { on := 2, ground := Ground.phase }, { on := 3, ground := Ground.phase }, { on := 4, ground := Ground.phase }, { on := 5, ground := Ground.phase }, { on := 6, ground := Ground.phase }, { on := 7, ground := Ground.phase }, { on := 8, ground := Ground.phase }, { on := 9, ground := Ground.phase }], guard := none }) rfl (fun K hK => ?_) AllReadyH.nil
      go_simp
      refine hK.out _ _ ?_ (fun hHeld => ?_)
      · first | exact cell_drew (cell_new (cell_new (cell_new hS0.out))) | exact cell_drew (cell_setO (cell_new (cell_new (cell_new hS0.out))) (by omega))
      clear hK K
      try simp only [Act.put, List.setIfInBounds_toArray, List.set_cons_zero, List.set_cons_succ]
      refine wpAnyH_done (by kernel_rfl) ?_ _
      skip
      go_wp2
      go_meet
      first | (have h3 := three (w.alloc (.cells #[.int .i64 P.users, .slice ow P.who.length cw, .slice of P.fixed.length cf, .slice or P.rules.length cr] 26)) (.cells (madeCells #[.int .i64 0] P.who.length) 3) (.cells #[.slice none 0 0] 23) (.cells (madeCells #[.int .i64 0] P.who.length) 3); rw [hsz0'.out] at h3; have hT := Tm.mk0 (w := w) (V := (w.alloc (.cells #[.int .i64 P.users, .slice ow P.who.length cw, .slice of P.fixed.length cf, .slice or P.rules.length cr] 26))) hn hB0.out.2 hB0.out.1 hsz0'.out (by rw [hsz0'.out]; exact h3.2.2.2) h3.1 h3.2.2.1 h3.2.1 (by rw [hsz0'.out]; omega) (by rw [hsz0'.out]; omega) (by rw [hsz0'.out]; omega) (by omega) (by omega) (by omega); exact ⟨_, _, _, rfl, rfl, hT.over (Below.refl _ _).drew⟩) | (have h3 := three (w.alloc (.cells #[.int .i64 P.users, .slice ow P.who.length cw, .slice of P.fixed.length cf, .slice or P.rules.length cr] 26)) (.cells (madeCells #[.int .i64 0] P.who.length) 3) (.cells #[.slice (some ⟨w.heap.size + 1 + 1 + 1, 0, none⟩) P.who.length P.who.length] 23) (.cells (madeCells #[.int .i64 0] P.who.length) 3); rw [hsz0'.out] at h3; have hT := Tm.mk1 (w := w) (V := (w.alloc (.cells #[.int .i64 P.users, .slice ow P.who.length cw, .slice of P.fixed.length cf, .slice or P.rules.length cr] 26))) hn hB0.out.2 hB0.out.1 hsz0'.out (by rw [hsz0'.out]; exact h3.2.2.2) h3.1 h3.2.2.1 h3.2.1 (by rw [hsz0'.out]; omega) (by rw [hsz0'.out]; omega) (by rw [hsz0'.out]; omega) (by omega); exact ⟨_, _, _, rfl, rfl, hT.over (Below.refl _ _).drew⟩)
    refine AllReadyH.cons (o := { dst := some 13, op := Op.makeSlice 23 (Operand.tmp 12) (Operand.tmp 12), type := 23, pos := "order.go:14", after := #[{ on := 6, ground := Ground.data }, { on := 6, ground := Ground.data }], guard := none }) rfl (fun K hK => ?_) ?_
    · skip
      go_simp
      refine hK.out _ _ ?_ (fun hHeld => ?_)
      · exact cell_drew (cell_new hS0.out)
      clear hK K
      try simp only [Act.put, List.setIfInBounds_toArray, List.set_cons_zero, List.set_cons_succ]
      refine wpAnyH_ready (rs := [3, 8]) (by kernel_rfl) (by simp) ?_
      refine AllReadyH.cons (o := { dst := some 9, op := Op.makeSlice 23 (Operand.tmp 8) (Operand.tmp 8), type := 23, pos := "order.go:14", after := #[{ on := 2, ground := Ground.data }, { on := 2, ground := Ground.data }], guard := none }) rfl (fun K hK => ?_) ?_
      · skip
        go_simp
        refine hK.out _ _ ?_ (fun hHeld => ?_)
        · exact cell_drew (cell_new (cell_new hS0.out))
        clear hK K
        try simp only [Act.put, List.setIfInBounds_toArray, List.set_cons_zero, List.set_cons_succ]
        refine wpAnyH_ready (rs := [8]) (by kernel_rfl) (by simp) ?_
        refine AllReadyH.cons (o := { dst := some 4, op := Op.alloc 23, type := 0, pos := "order.go:14", after := #[], guard := none }) rfl (fun K hK => ?_) AllReadyH.nil
        go_simp
        refine hK.out _ _ ?_ (fun hHeld => ?_)
        · exact cell_drew (cell_new (cell_new (cell_new hS0.out)))
        clear hK K
        try simp only [Act.put, List.setIfInBounds_toArray, List.set_cons_zero, List.set_cons_succ]
        refine wpAnyH_take (i := 9) (oi := { dst := some 3, op := Op.assign (Operand.tmp 9), type := 23, pos := "order.go:14", after := #[{ on := 3, ground := Ground.data }, { on := 0, ground := Ground.phase }, { on := 1, ground := Ground.phase }, { on := 2, ground := Ground.phase }, { on := 3, ground := Ground.phase }, { on := 4, ground := Ground.textOnly Departure.lateStores }, { on := 5, ground := Ground.textOnly Departure.lateStores }, { on := 6, ground := Ground.textOnly Departure.lateStoresUnsure }, { on := 7, ground := Ground.textOnly Departure.lateStoresUnsure }, { on := 8, ground := Ground.phase }], guard := none }) (v := ?_) rfl (by kernel_rfl) (by kernel_rfl) (by kernel_rfl) (fun _ _ _ h => h) (Or.inl ⟨by rfl, ?_⟩) (by assumption) ?_
        rotate_left
        · intro w hSw; (try dsimp only at hSw); go_simp <;> with_reducible rfl
        simp only [Act.put, List.setIfInBounds_toArray, List.set_cons_zero, List.set_cons_succ]
        refine wpAnyH_ready (rs := [10]) (by kernel_rfl) (by simp) ?_
        refine AllReadyH.cons (o := { dst := none, op := Op.store 23 (Operand.tmp 4) (Operand.tmp 13), type := 0, pos := "order.go:14", after := #[{ on := 8, ground := Ground.data }, { on := 7, ground := Ground.data }, { on := 9, ground := Ground.chain }, { on := 0, ground := Ground.phase }, { on := 1, ground := Ground.phase }, { on := 2, ground := Ground.phase }, { on := 3, ground := Ground.phase }, { on := 4, ground := Ground.phase }, { on := 5, ground := Ground.phase }, { on := 6, ground := Ground.phase }, { on := 7, ground := Ground.phase }, { on := 8, ground := Ground.phase }, { on := 9, ground := Ground.phase }], guard := none }) rfl (fun K hK => ?_) AllReadyH.nil
        go_simp
        refine hK.out _ _ ?_ (fun hHeld => ?_)
        · first | exact cell_drew (cell_new (cell_new (cell_new hS0.out))) | exact cell_drew (cell_setO (cell_new (cell_new (cell_new hS0.out))) (by omega))
        clear hK K
        try simp only [Act.put, List.setIfInBounds_toArray, List.set_cons_zero, List.set_cons_succ]
        refine wpAnyH_done (by kernel_rfl) ?_ _
        skip
        go_wp2
        go_meet
        first | (have h3 := three (w.alloc (.cells #[.int .i64 P.users, .slice ow P.who.length cw, .slice of P.fixed.length cf, .slice or P.rules.length cr] 26)) (.cells (madeCells #[.int .i64 0] P.who.length) 3) (.cells (madeCells #[.int .i64 0] P.who.length) 3) (.cells #[.slice (some ⟨w.heap.size + 1, 0, none⟩) P.who.length P.who.length] 23); rw [hsz0'.out] at h3; have hT := Tm.mk1 (w := w) (V := (w.alloc (.cells #[.int .i64 P.users, .slice ow P.who.length cw, .slice of P.fixed.length cf, .slice or P.rules.length cr] 26))) hn hB0.out.2 hB0.out.1 hsz0'.out (by rw [hsz0'.out]; exact h3.2.2.2) h3.2.1 h3.1 h3.2.2.1 (by rw [hsz0'.out]; omega) (by rw [hsz0'.out]; omega) (by rw [hsz0'.out]; omega) (by omega); exact ⟨_, _, _, rfl, rfl, hT.over (Below.refl _ _).drew⟩) | (have h3 := three (w.alloc (.cells #[.int .i64 P.users, .slice ow P.who.length cw, .slice of P.fixed.length cf, .slice or P.rules.length cr] 26)) (.cells (madeCells #[.int .i64 0] P.who.length) 3) (.cells (madeCells #[.int .i64 0] P.who.length) 3) (.cells #[.slice none 0 0] 23); rw [hsz0'.out] at h3; have hT := Tm.mk0 (w := w) (V := (w.alloc (.cells #[.int .i64 P.users, .slice ow P.who.length cw, .slice of P.fixed.length cf, .slice or P.rules.length cr] 26))) hn hB0.out.2 hB0.out.1 hsz0'.out (by rw [hsz0'.out]; exact h3.2.2.2) h3.2.1 h3.1 h3.2.2.1 (by rw [hsz0'.out]; omega) (by rw [hsz0'.out]; omega) (by rw [hsz0'.out]; omega) (by omega) (by omega) (by omega); exact ⟨_, _, _, rfl, rfl, hT.over (Below.refl _ _).drew⟩)
      refine AllReadyH.cons (o := { dst := some 4, op := Op.alloc 23, type := 0, pos := "order.go:14", after := #[], guard := none }) rfl (fun K hK => ?_) AllReadyH.nil
      go_simp
      refine hK.out _ _ ?_ (fun hHeld => ?_)
      · exact cell_drew (cell_new (cell_new hS0.out))
      clear hK K
      try simp only [Act.put, List.setIfInBounds_toArray, List.set_cons_zero, List.set_cons_succ]
      refine wpAnyH_ready (rs := [3]) (by kernel_rfl) (by simp) ?_
      refine AllReadyH.cons (o := { dst := some 9, op := Op.makeSlice 23 (Operand.tmp 8) (Operand.tmp 8), type := 23, pos := "order.go:14", after := #[{ on := 2, ground := Ground.data }, { on := 2, ground := Ground.data }], guard := none }) rfl (fun K hK => ?_) AllReadyH.nil
      go_simp
      refine hK.out _ _ ?_ (fun hHeld => ?_)
      · exact cell_drew (cell_new (cell_new (cell_new hS0.out)))
      clear hK K
      try simp only [Act.put, List.setIfInBounds_toArray, List.set_cons_zero, List.set_cons_succ]
      refine wpAnyH_take (i := 9) (oi := { dst := some 3, op := Op.assign (Operand.tmp 9), type := 23, pos := "order.go:14", after := #[{ on := 3, ground := Ground.data }, { on := 0, ground := Ground.phase }, { on := 1, ground := Ground.phase }, { on := 2, ground := Ground.phase }, { on := 3, ground := Ground.phase }, { on := 4, ground := Ground.textOnly Departure.lateStores }, { on := 5, ground := Ground.textOnly Departure.lateStores }, { on := 6, ground := Ground.textOnly Departure.lateStoresUnsure }, { on := 7, ground := Ground.textOnly Departure.lateStoresUnsure }, { on := 8, ground := Ground.phase }], guard := none }) (v := ?_) rfl (by kernel_rfl) (by kernel_rfl) (by kernel_rfl) (fun _ _ _ h => h) (Or.inl ⟨by rfl, ?_⟩) (by assumption) ?_
      rotate_left
      · intro w hSw; (try dsimp only at hSw); go_simp <;> with_reducible rfl
      simp only [Act.put, List.setIfInBounds_toArray, List.set_cons_zero, List.set_cons_succ]
      refine wpAnyH_ready (rs := [10]) (by kernel_rfl) (by simp) ?_
      refine AllReadyH.cons (o := { dst := none, op := Op.store 23 (Operand.tmp 4) (Operand.tmp 13), type := 0, pos := "order.go:14", after := #[{ on := 8, ground := Ground.data }, { on := 7, ground := Ground.data }, { on := 9, ground := Ground.chain }, { on := 0, ground := Ground.phase }, { on := 1, ground := Ground.phase }, { on := 2, ground := Ground.phase }, { on := 3, ground := Ground.phase }, { on := 4, ground := Ground.phase }, { on := 5, ground := Ground.phase }, { on := 6, ground := Ground.phase }, { on := 7, ground := Ground.phase }, { on := 8, ground := Ground.phase }, { on := 9, ground := Ground.phase }], guard := none }) rfl (fun K hK => ?_) AllReadyH.nil
      go_simp
      refine hK.out _ _ ?_ (fun hHeld => ?_)
      · first | exact cell_drew (cell_new (cell_new (cell_new hS0.out))) | exact cell_drew (cell_setO (cell_new (cell_new (cell_new hS0.out))) (by omega))
      clear hK K
      try simp only [Act.put, List.setIfInBounds_toArray, List.set_cons_zero, List.set_cons_succ]
      refine wpAnyH_done (by kernel_rfl) ?_ _
      skip
      go_wp2
      go_meet
      first | (have h3 := three (w.alloc (.cells #[.int .i64 P.users, .slice ow P.who.length cw, .slice of P.fixed.length cf, .slice or P.rules.length cr] 26)) (.cells (madeCells #[.int .i64 0] P.who.length) 3) (.cells #[.slice none 0 0] 23) (.cells (madeCells #[.int .i64 0] P.who.length) 3); rw [hsz0'.out] at h3; have hT := Tm.mk0 (w := w) (V := (w.alloc (.cells #[.int .i64 P.users, .slice ow P.who.length cw, .slice of P.fixed.length cf, .slice or P.rules.length cr] 26))) hn hB0.out.2 hB0.out.1 hsz0'.out (by rw [hsz0'.out]; exact h3.2.2.2) h3.2.2.1 h3.1 h3.2.1 (by rw [hsz0'.out]; omega) (by rw [hsz0'.out]; omega) (by rw [hsz0'.out]; omega) (by omega) (by omega) (by omega); exact ⟨_, _, _, rfl, rfl, hT.over (Below.refl _ _).drew⟩) | (have h3 := three (w.alloc (.cells #[.int .i64 P.users, .slice ow P.who.length cw, .slice of P.fixed.length cf, .slice or P.rules.length cr] 26)) (.cells (madeCells #[.int .i64 0] P.who.length) 3) (.cells #[.slice (some ⟨w.heap.size + 1, 0, none⟩) P.who.length P.who.length] 23) (.cells (madeCells #[.int .i64 0] P.who.length) 3); rw [hsz0'.out] at h3; have hT := Tm.mk1 (w := w) (V := (w.alloc (.cells #[.int .i64 P.users, .slice ow P.who.length cw, .slice of P.fixed.length cf, .slice or P.rules.length cr] 26))) hn hB0.out.2 hB0.out.1 hsz0'.out (by rw [hsz0'.out]; exact h3.2.2.2) h3.2.2.1 h3.1 h3.2.1 (by rw [hsz0'.out]; omega) (by rw [hsz0'.out]; omega) (by rw [hsz0'.out]; omega) (by omega); exact ⟨_, _, _, rfl, rfl, hT.over (Below.refl _ _).drew⟩)
    refine AllReadyH.cons (o := { dst := some 4, op := Op.alloc 23, type := 0, pos := "order.go:14", after := #[], guard := none }) rfl (fun K hK => ?_) AllReadyH.nil
    go_simp
    refine hK.out _ _ ?_ (fun hHeld => ?_)
    · exact cell_drew (cell_new hS0.out)
    clear hK K
    try simp only [Act.put, List.setIfInBounds_toArray, List.set_cons_zero, List.set_cons_succ]
    refine wpAnyH_ready (rs := [3, 7]) (by kernel_rfl) (by simp) ?_
    refine AllReadyH.cons (o := { dst := some 9, op := Op.makeSlice 23 (Operand.tmp 8) (Operand.tmp 8), type := 23, pos := "order.go:14", after := #[{ on := 2, ground := Ground.data }, { on := 2, ground := Ground.data }], guard := none }) rfl (fun K hK => ?_) ?_
    · skip
      go_simp
      refine hK.out _ _ ?_ (fun hHeld => ?_)
      · exact cell_drew (cell_new (cell_new hS0.out))
      clear hK K
      try simp only [Act.put, List.setIfInBounds_toArray, List.set_cons_zero, List.set_cons_succ]
      refine wpAnyH_take (i := 9) (oi := { dst := some 3, op := Op.assign (Operand.tmp 9), type := 23, pos := "order.go:14", after := #[{ on := 3, ground := Ground.data }, { on := 0, ground := Ground.phase }, { on := 1, ground := Ground.phase }, { on := 2, ground := Ground.phase }, { on := 3, ground := Ground.phase }, { on := 4, ground := Ground.textOnly Departure.lateStores }, { on := 5, ground := Ground.textOnly Departure.lateStores }, { on := 6, ground := Ground.textOnly Departure.lateStoresUnsure }, { on := 7, ground := Ground.textOnly Departure.lateStoresUnsure }, { on := 8, ground := Ground.phase }], guard := none }) (v := ?_) rfl (by kernel_rfl) (by kernel_rfl) (by kernel_rfl) (fun _ _ _ h => h) (Or.inl ⟨by rfl, ?_⟩) (by assumption) ?_
      rotate_left
      · intro w hSw; (try dsimp only at hSw); go_simp <;> with_reducible rfl
      simp only [Act.put, List.setIfInBounds_toArray, List.set_cons_zero, List.set_cons_succ]
      refine wpAnyH_ready (rs := [7]) (by kernel_rfl) (by simp) ?_
      refine AllReadyH.cons (o := { dst := some 13, op := Op.makeSlice 23 (Operand.tmp 12) (Operand.tmp 12), type := 23, pos := "order.go:14", after := #[{ on := 6, ground := Ground.data }, { on := 6, ground := Ground.data }], guard := none }) rfl (fun K hK => ?_) AllReadyH.nil
      go_simp
      refine hK.out _ _ ?_ (fun hHeld => ?_)
      · exact cell_drew (cell_new (cell_new (cell_new hS0.out)))
      clear hK K
      try simp only [Act.put, List.setIfInBounds_toArray, List.set_cons_zero, List.set_cons_succ]
      refine wpAnyH_ready (rs := [10]) (by kernel_rfl) (by simp) ?_
      refine AllReadyH.cons (o := { dst := none, op := Op.store 23 (Operand.tmp 4) (Operand.tmp 13), type := 0, pos := "order.go:14", after := #[{ on := 8, ground := Ground.data }, { on := 7, ground := Ground.data }, { on := 9, ground := Ground.chain }, { on := 0, ground := Ground.phase }, { on := 1, ground := Ground.phase }, { on := 2, ground := Ground.phase }, { on := 3, ground := Ground.phase }, { on := 4, ground := Ground.phase }, { on := 5, ground := Ground.phase }, { on := 6, ground := Ground.phase }, { on := 7, ground := Ground.phase }, { on := 8, ground := Ground.phase }, { on := 9, ground := Ground.phase }], guard := none }) rfl (fun K hK => ?_) AllReadyH.nil
      go_simp
      refine hK.out _ _ ?_ (fun hHeld => ?_)
      · first | exact cell_drew (cell_new (cell_new (cell_new hS0.out))) | exact cell_drew (cell_setO (cell_new (cell_new (cell_new hS0.out))) (by omega))
      clear hK K
      try simp only [Act.put, List.setIfInBounds_toArray, List.set_cons_zero, List.set_cons_succ]
      refine wpAnyH_done (by kernel_rfl) ?_ _
      skip
      go_wp2
      go_meet
      first | (have h3 := three (w.alloc (.cells #[.int .i64 P.users, .slice ow P.who.length cw, .slice of P.fixed.length cf, .slice or P.rules.length cr] 26)) (.cells #[.slice none 0 0] 23) (.cells (madeCells #[.int .i64 0] P.who.length) 3) (.cells (madeCells #[.int .i64 0] P.who.length) 3); rw [hsz0'.out] at h3; have hT := Tm.mk0 (w := w) (V := (w.alloc (.cells #[.int .i64 P.users, .slice ow P.who.length cw, .slice of P.fixed.length cf, .slice or P.rules.length cr] 26))) hn hB0.out.2 hB0.out.1 hsz0'.out (by rw [hsz0'.out]; exact h3.2.2.2) h3.2.1 h3.2.2.1 h3.1 (by rw [hsz0'.out]; omega) (by rw [hsz0'.out]; omega) (by rw [hsz0'.out]; omega) (by omega) (by omega) (by omega); exact ⟨_, _, _, rfl, rfl, hT.over (Below.refl _ _).drew⟩) | (have h3 := three (w.alloc (.cells #[.int .i64 P.users, .slice ow P.who.length cw, .slice of P.fixed.length cf, .slice or P.rules.length cr] 26)) (.cells #[.slice (some ⟨w.heap.size + 1 + 1 + 1, 0, none⟩) P.who.length P.who.length] 23) (.cells (madeCells #[.int .i64 0] P.who.length) 3) (.cells (madeCells #[.int .i64 0] P.who.length) 3); rw [hsz0'.out] at h3; have hT := Tm.mk1 (w := w) (V := (w.alloc (.cells #[.int .i64 P.users, .slice ow P.who.length cw, .slice of P.fixed.length cf, .slice or P.rules.length cr] 26))) hn hB0.out.2 hB0.out.1 hsz0'.out (by rw [hsz0'.out]; exact h3.2.2.2) h3.2.1 h3.2.2.1 h3.1 (by rw [hsz0'.out]; omega) (by rw [hsz0'.out]; omega) (by rw [hsz0'.out]; omega) (by omega); exact ⟨_, _, _, rfl, rfl, hT.over (Below.refl _ _).drew⟩)
    refine AllReadyH.cons (o := { dst := some 13, op := Op.makeSlice 23 (Operand.tmp 12) (Operand.tmp 12), type := 23, pos := "order.go:14", after := #[{ on := 6, ground := Ground.data }, { on := 6, ground := Ground.data }], guard := none }) rfl (fun K hK => ?_) AllReadyH.nil
    go_simp
    refine hK.out _ _ ?_ (fun hHeld => ?_)
    · exact cell_drew (cell_new (cell_new hS0.out))
    clear hK K
    try simp only [Act.put, List.setIfInBounds_toArray, List.set_cons_zero, List.set_cons_succ]
    refine wpAnyH_ready (rs := [3]) (by kernel_rfl) (by simp) ?_
    refine AllReadyH.cons (o := { dst := some 9, op := Op.makeSlice 23 (Operand.tmp 8) (Operand.tmp 8), type := 23, pos := "order.go:14", after := #[{ on := 2, ground := Ground.data }, { on := 2, ground := Ground.data }], guard := none }) rfl (fun K hK => ?_) AllReadyH.nil
    go_simp
    refine hK.out _ _ ?_ (fun hHeld => ?_)
    · exact cell_drew (cell_new (cell_new (cell_new hS0.out)))
    clear hK K
    try simp only [Act.put, List.setIfInBounds_toArray, List.set_cons_zero, List.set_cons_succ]
    refine wpAnyH_take (i := 9) (oi := { dst := some 3, op := Op.assign (Operand.tmp 9), type := 23, pos := "order.go:14", after := #[{ on := 3, ground := Ground.data }, { on := 0, ground := Ground.phase }, { on := 1, ground := Ground.phase }, { on := 2, ground := Ground.phase }, { on := 3, ground := Ground.phase }, { on := 4, ground := Ground.textOnly Departure.lateStores }, { on := 5, ground := Ground.textOnly Departure.lateStores }, { on := 6, ground := Ground.textOnly Departure.lateStoresUnsure }, { on := 7, ground := Ground.textOnly Departure.lateStoresUnsure }, { on := 8, ground := Ground.phase }], guard := none }) (v := ?_) rfl (by kernel_rfl) (by kernel_rfl) (by kernel_rfl) (fun _ _ _ h => h) (Or.inl ⟨by rfl, ?_⟩) (by assumption) ?_
    rotate_left
    · intro w hSw; (try dsimp only at hSw); go_simp <;> with_reducible rfl
    simp only [Act.put, List.setIfInBounds_toArray, List.set_cons_zero, List.set_cons_succ]
    refine wpAnyH_ready (rs := [10]) (by kernel_rfl) (by simp) ?_
    refine AllReadyH.cons (o := { dst := none, op := Op.store 23 (Operand.tmp 4) (Operand.tmp 13), type := 0, pos := "order.go:14", after := #[{ on := 8, ground := Ground.data }, { on := 7, ground := Ground.data }, { on := 9, ground := Ground.chain }, { on := 0, ground := Ground.phase }, { on := 1, ground := Ground.phase }, { on := 2, ground := Ground.phase }, { on := 3, ground := Ground.phase }, { on := 4, ground := Ground.phase }, { on := 5, ground := Ground.phase }, { on := 6, ground := Ground.phase }, { on := 7, ground := Ground.phase }, { on := 8, ground := Ground.phase }, { on := 9, ground := Ground.phase }], guard := none }) rfl (fun K hK => ?_) AllReadyH.nil
    go_simp
    refine hK.out _ _ ?_ (fun hHeld => ?_)
    · first | exact cell_drew (cell_new (cell_new (cell_new hS0.out))) | exact cell_drew (cell_setO (cell_new (cell_new (cell_new hS0.out))) (by omega))
    clear hK K
    try simp only [Act.put, List.setIfInBounds_toArray, List.set_cons_zero, List.set_cons_succ]
    refine wpAnyH_done (by kernel_rfl) ?_ _
    skip
    go_wp2
    go_meet
    first | (have h3 := three (w.alloc (.cells #[.int .i64 P.users, .slice ow P.who.length cw, .slice of P.fixed.length cf, .slice or P.rules.length cr] 26)) (.cells #[.slice none 0 0] 23) (.cells (madeCells #[.int .i64 0] P.who.length) 3) (.cells (madeCells #[.int .i64 0] P.who.length) 3); rw [hsz0'.out] at h3; have hT := Tm.mk0 (w := w) (V := (w.alloc (.cells #[.int .i64 P.users, .slice ow P.who.length cw, .slice of P.fixed.length cf, .slice or P.rules.length cr] 26))) hn hB0.out.2 hB0.out.1 hsz0'.out (by rw [hsz0'.out]; exact h3.2.2.2) h3.2.2.1 h3.2.1 h3.1 (by rw [hsz0'.out]; omega) (by rw [hsz0'.out]; omega) (by rw [hsz0'.out]; omega) (by omega) (by omega) (by omega); exact ⟨_, _, _, rfl, rfl, hT.over (Below.refl _ _).drew⟩) | (have h3 := three (w.alloc (.cells #[.int .i64 P.users, .slice ow P.who.length cw, .slice of P.fixed.length cf, .slice or P.rules.length cr] 26)) (.cells #[.slice (some ⟨w.heap.size + 1 + 1, 0, none⟩) P.who.length P.who.length] 23) (.cells (madeCells #[.int .i64 0] P.who.length) 3) (.cells (madeCells #[.int .i64 0] P.who.length) 3); rw [hsz0'.out] at h3; have hT := Tm.mk1 (w := w) (V := (w.alloc (.cells #[.int .i64 P.users, .slice ow P.who.length cw, .slice of P.fixed.length cf, .slice or P.rules.length cr] 26))) hn hB0.out.2 hB0.out.1 hsz0'.out (by rw [hsz0'.out]; exact h3.2.2.2) h3.2.2.1 h3.2.1 h3.1 (by rw [hsz0'.out]; omega) (by rw [hsz0'.out]; omega) (by rw [hsz0'.out]; omega) (by omega); exact ⟨_, _, _, rfl, rfl, hT.over (Below.refl _ _).drew⟩)
  case rest =>
  obtain ⟨gd, gr, gb, rfl, rfl, hT⟩ := hcut
  clear hmk hB0 hS0 hsz0'
  go_wp2
  go_loopw [5, 16] (fun _ p wr => ∃ (j : Nat) (R : Nat → Int), j ≤ P.who.length ∧ p = .int .i64 (j : Int) ∧ Hid (Tm w P (.slice ow P.who.length cw) (.slice of P.fixed.length cf) (.slice or P.rules.length cr) gd gr gb P.who.length (oA j) R wr)) (fun _ p _ => ((P.who.length : Int) - intOf p).toNat)
  case atStart => exact ⟨0, _, Nat.zero_le _, rfl, by have e : oA 0 = fun _ => 0 := (by funext t; simp [oA]); rw [e]; exact hT⟩
  case round =>
    clear hT
    obtain ⟨j, R, hj, rfl, hT⟩ := hrel
    by_cases hlt : j < P.who.length
    · have hlt' : (j : Int) < (P.who.length : Int) := by omega
      have hj0 : ¬ (j : Int) < 0 := by omega
      have cO := hT.out.cO hlt
      have fO := hT.out.ord.frozenAt j
      have hT1 := hide' (hT.out.setO j (j : Int))
      rw [oA_set] at hT1
      have K1 := hide' (fun V hV => KM.out j V hlt hV)
      have K2 := hide' (KO.out j)
      have K3 := hide' (KR.out j)
      have hl9 := hlr'.out j
      clear hT KM KO KR hlr'
      generalize mayP P j = my at *
      generalize (M.nums my).length = z at *
      generalize (rulN P.rules (j : Int)).length = rn at *
      obtain ⟨zm, hzm⟩ : ∃ x, x = z * 33 := ⟨_, rfl⟩
      have hwm : IntKind.i64.wrap ((z : Int) * 33) = (zm : Int) := by rw [show ((z : Int) * 33) = ((z * 33 : Nat) : Int) by simp, ← hzm, IntKind.wrap_i64]; omega
      obtain ⟨zz, hzz⟩ : ∃ x : Int, x = (zm : Int) - (rn : Int) := ⟨_, rfl⟩
      have hws : IntKind.i64.wrap ((zm : Int) - (rn : Int)) = zz := by rw [IntKind.wrap_i64]; omega
      clear hzz hzm hl9
      go_upto_region 6 with fail
      generalize wr.setCell ⟨gd, j, none⟩ (.int .i64 (j : Int)) = w5 at *
      have hTd := hide' (hT1.out.over (Below.refl _ w5).drew)
      clear hT1 cO fO
      refine wp_region_held_drew (S := (fun V => V.cell? ⟨gb, 0, none⟩ = some (.slice (some ⟨gr, 0, none⟩) P.who.length P.who.length) ∧ V.cell? ⟨w.heap.size, 0, none⟩ = some (.int .i64 P.users) ∧ V.cell? ⟨w.heap.size, 1, none⟩ = some (.slice ow P.who.length cw) ∧ V.cell? ⟨w.heap.size, 2, none⟩ = some (.slice of P.fixed.length cf) ∧ V.cell? ⟨w.heap.size, 3, none⟩ = some (.slice or P.rules.length cr))) (by kernel_rfl) ?_ (fun hHeld => ?_)
      · exact ⟨hTd.out.bx, hTd.out.pb.all⟩
      refine wpAnyH_take (i := 0) (oi := { dst := some 23, op := Op.load 23 (Operand.tmp 4), type := 23, pos := "order.go:17", after := #[], guard := none }) (v := ?_) rfl (by kernel_rfl) (by kernel_rfl) (by kernel_rfl) (fun _ _ _ h => h) (Or.inl ⟨by rfl, ?_⟩) (by assumption) ?_
      rotate_left
      · intro w hSw; (try dsimp only at hSw); go_simp <;> with_reducible rfl
      simp only [Act.put, List.setIfInBounds_toArray, List.set_cons_zero, List.set_cons_succ]
      refine wpAnyH_take (i := 1) (oi := { dst := some 24, op := Op.move (Operand.tmp 5), type := 3, pos := "order.go:17", after := #[], guard := none }) (v := ?_) rfl (by kernel_rfl) (by kernel_rfl) (by kernel_rfl) (fun _ _ _ h => h) (Or.inl ⟨by rfl, ?_⟩) (by assumption) ?_
      rotate_left
      · intro w hSw; (try dsimp only at hSw); go_simp <;> with_reducible rfl
      simp only [Act.put, List.setIfInBounds_toArray, List.set_cons_zero, List.set_cons_succ]
      refine wpAnyH_take (i := 2) (oi := { dst := some 25, op := Op.load 26 (Operand.tmp 1), type := 26, pos := "order.go:17", after := #[], guard := none }) (v := ?_) rfl (by kernel_rfl) (by kernel_rfl) (by kernel_rfl) (fun _ _ _ h => h) (Or.inl ⟨by rfl, ?_⟩) (by assumption) ?_
      rotate_left
      · intro w hSw; (try dsimp only at hSw); go_simp <;> with_reducible rfl
      simp only [Act.put, List.setIfInBounds_toArray, List.set_cons_zero, List.set_cons_succ]
      refine wpAnyH_take (i := 3) (oi := { dst := some 26, op := Op.move (Operand.tmp 5), type := 3, pos := "order.go:17", after := #[], guard := none }) (v := ?_) rfl (by kernel_rfl) (by kernel_rfl) (by kernel_rfl) (fun _ _ _ h => h) (Or.inl ⟨by rfl, ?_⟩) (by assumption) ?_
      rotate_left
      · intro w hSw; (try dsimp only at hSw); go_simp <;> with_reducible rfl
      simp only [Act.put, List.setIfInBounds_toArray, List.set_cons_zero, List.set_cons_succ]
      refine wpAnyH_take (i := 7) (oi := { dst := some 30, op := Op.load 26 (Operand.tmp 1), type := 26, pos := "order.go:17", after := #[], guard := none }) (v := ?_) rfl (by kernel_rfl) (by kernel_rfl) (by kernel_rfl) (fun _ _ _ h => h) (Or.inl ⟨by rfl, ?_⟩) (by assumption) ?_
      rotate_left
      · intro w hSw; (try dsimp only at hSw); go_simp <;> with_reducible rfl
      simp only [Act.put, List.setIfInBounds_toArray, List.set_cons_zero, List.set_cons_succ]
      refine wpAnyH_take (i := 8) (oi := { dst := some 31, op := Op.move (Operand.tmp 5), type := 3, pos := "order.go:17", after := #[], guard := none }) (v := ?_) rfl (by kernel_rfl) (by kernel_rfl) (by kernel_rfl) (fun _ _ _ h => h) (Or.inl ⟨by rfl, ?_⟩) (by assumption) ?_
      rotate_left
      · intro w hSw; (try dsimp only at hSw); go_simp <;> with_reducible rfl
      simp only [Act.put, List.setIfInBounds_toArray, List.set_cons_zero, List.set_cons_succ]
      refine wpAnyH_ready (rs := [4]) (by kernel_rfl) (by simp) ?_
      refine AllReadyH.cons (o := { dst := some 27, op := Op.call { callee := Callee.value (Operand.func 91), args := #[Operand.tmp 25, Operand.tmp 26], argTypes := #[26, 3] }, type := 27, pos := "order.go:17", after := #[{ on := 2, ground := Ground.data }, { on := 3, ground := Ground.data }], guard := none }) rfl (fun K hK => ?_) AllReadyH.nil
      go_simp
      go_at_call 91; refine (K1.out _ hTd.out.be).mono ?_; rintro e w6 ⟨rfl, hb6⟩; have hT6 := hide' (hTd.out.over hb6); (try dsimp only)
      refine hK.out _ _ ?_ (fun hHeld => ?_)
      · exact ⟨hT6.out.bx, hT6.out.pb.all⟩
      clear hK K
      try simp only [Act.put, List.setIfInBounds_toArray, List.set_cons_zero, List.set_cons_succ]
      refine wpAnyH_ready (rs := [5]) (by kernel_rfl) (by simp) ?_
      refine AllReadyH.cons (o := { dst := some 28, op := Op.call { callee := Callee.value (Operand.func 59), args := #[Operand.tmp 27], argTypes := #[27] }, type := 3, pos := "order.go:17", after := #[{ on := 4, ground := Ground.data }, { on := 4, ground := Ground.chain }], guard := none }) rfl (fun K hK => ?_) AllReadyH.nil
      go_simp
      go_at_call 59; refine (K2.out _).mono ?_; rintro e w7 ⟨rfl, hw7⟩; subst hw7; (try dsimp only)
      refine hK.out _ _ ?_ (fun hHeld => ?_)
      · exact ⟨hT6.out.bx, hT6.out.pb.all⟩
      clear hK K
      try simp only [Act.put, List.setIfInBounds_toArray, List.set_cons_zero, List.set_cons_succ]
      refine wpAnyH_take (i := 6) (oi := { dst := some 29, op := Op.binOp BinOp.mul 3 (Operand.tmp 28) (Operand.const (Value.int IntKind.i64 33)) 3, type := 3, pos := "order.go:17", after := #[{ on := 5, ground := Ground.data }], guard := none }) (v := ?_) rfl (by kernel_rfl) (by kernel_rfl) (by kernel_rfl) (fun _ _ _ h => h) (Or.inl ⟨by rfl, ?_⟩) (by assumption) ?_
      rotate_left
      · intro w hSw; (try dsimp only at hSw); go_simp <;> with_reducible rfl
      simp only [Act.put, List.setIfInBounds_toArray, List.set_cons_zero, List.set_cons_succ]
      refine wpAnyH_ready (rs := [9]) (by kernel_rfl) (by simp) ?_
      refine AllReadyH.cons (o := { dst := some 32, op := Op.call { callee := Callee.value (Operand.func 92), args := #[Operand.tmp 30, Operand.tmp 31], argTypes := #[26, 3] }, type := 24, pos := "order.go:17", after := #[{ on := 7, ground := Ground.data }, { on := 8, ground := Ground.data }, { on := 5, ground := Ground.chain }], guard := none }) rfl (fun K hK => ?_) AllReadyH.nil
      go_simp
      go_at_call 92; refine (K3.out _ hT6.out.be).mono ?_; rintro e w8 ⟨o8, c8, rfl, hb8⟩; have hT8 := hide' (hT6.out.over hb8); have cR := hT8.out.cR hlt; have fR := hT8.out.room.frozenAt j; (try dsimp only)
      refine hK.out _ _ ?_ (fun hHeld => ?_)
      · exact ⟨hT8.out.bx, hT8.out.pb.all⟩
      clear hK K
      try simp only [Act.put, List.setIfInBounds_toArray, List.set_cons_zero, List.set_cons_succ]
      refine wpAnyH_take (i := 10) (oi := { dst := some 33, op := Op.call { callee := Callee.builtin Builtin.len, args := #[Operand.tmp 32], argTypes := #[24] }, type := 3, pos := "order.go:17", after := #[{ on := 9, ground := Ground.data }], guard := none }) (v := ?_) rfl (by kernel_rfl) (by kernel_rfl) (by kernel_rfl) (fun _ _ _ h => h) (Or.inl ⟨by rfl, ?_⟩) (by assumption) ?_
      rotate_left
      · intro w hSw; (try dsimp only at hSw); go_simp <;> with_reducible rfl
      simp only [Act.put, List.setIfInBounds_toArray, List.set_cons_zero, List.set_cons_succ]
      refine wpAnyH_take (i := 11) (oi := { dst := some 34, op := Op.binOp BinOp.sub 3 (Operand.tmp 29) (Operand.tmp 33) 3, type := 3, pos := "order.go:17", after := #[{ on := 6, ground := Ground.data }, { on := 10, ground := Ground.data }], guard := none }) (v := ?_) rfl (by kernel_rfl) (by kernel_rfl) (by kernel_rfl) (fun _ _ _ h => h) (Or.inl ⟨by rfl, ?_⟩) (by assumption) ?_
      rotate_left
      · intro w hSw; (try dsimp only at hSw); go_simp <;> with_reducible rfl
      simp only [Act.put, List.setIfInBounds_toArray, List.set_cons_zero, List.set_cons_succ]
      refine wpAnyH_take (i := 12) (oi := { dst := some 35, op := Op.indexAddr 23 (Operand.tmp 23) (Operand.tmp 24), type := 0, pos := "order.go:17", after := #[{ on := 0, ground := Ground.data }, { on := 1, ground := Ground.data }, { on := 0, ground := Ground.phase }, { on := 1, ground := Ground.phase }, { on := 2, ground := Ground.phase }, { on := 3, ground := Ground.phase }, { on := 4, ground := Ground.phase }, { on := 5, ground := Ground.phase }, { on := 6, ground := Ground.phase }, { on := 7, ground := Ground.phase }, { on := 8, ground := Ground.phase }, { on := 9, ground := Ground.phase }, { on := 10, ground := Ground.phase }, { on := 11, ground := Ground.phase }], guard := none }) (v := ?_) rfl (by kernel_rfl) (by kernel_rfl) (by kernel_rfl) (fun _ _ _ h => h) (Or.inl ⟨by rfl, ?_⟩) (by assumption) ?_
      rotate_left
      · intro w hSw; (try dsimp only at hSw); go_simp <;> with_reducible rfl
      simp only [Act.put, List.setIfInBounds_toArray, List.set_cons_zero, List.set_cons_succ]
      refine wpAnyH_ready (rs := [13]) (by kernel_rfl) (by simp) ?_
      refine AllReadyH.cons (o := { dst := none, op := Op.store 3 (Operand.tmp 35) (Operand.tmp 34), type := 0, pos := "order.go:17", after := #[{ on := 12, ground := Ground.data }, { on := 11, ground := Ground.data }, { on := 9, ground := Ground.chain }, { on := 0, ground := Ground.phase }, { on := 1, ground := Ground.phase }, { on := 2, ground := Ground.phase }, { on := 3, ground := Ground.phase }, { on := 4, ground := Ground.phase }, { on := 5, ground := Ground.phase }, { on := 6, ground := Ground.phase }, { on := 7, ground := Ground.phase }, { on := 8, ground := Ground.phase }, { on := 9, ground := Ground.phase }, { on := 10, ground := Ground.phase }, { on := 11, ground := Ground.phase }], guard := none }) rfl (fun K hK => ?_) AllReadyH.nil
      go_simp
      refine hK.out _ _ ?_ (fun hHeld => ?_)
      · exact ⟨(hT8.out.setR j zz).bx, (hT8.out.setR j zz).pb.all⟩
      clear hK K
      try simp only [Act.put, List.setIfInBounds_toArray, List.set_cons_zero, List.set_cons_succ]
      refine wpAnyH_done (by kernel_rfl) ?_ _
      skip
      have hT9 : Hid _ := hT8.out.setR j zz
      clear hT8 hT6 hTd K1 K2 K3 cR fR
      go_wp2
      exact ⟨⟨j + 1, _, by omega, by go_num, hT9⟩, by simp [intOf]; omega⟩
    · obtain rfl : j = P.who.length := by omega
      have hKS : Hid (Calls Tryz.prog 54 #[.slice (some ⟨gd, 0, none⟩) P.who.length P.who.length, .func (.func 93) #[] #[.pointer (some ⟨gb, 0, none⟩)]] wr (SoP wr gd P.who.length (List.range P.who.length))) := by
        refine sortT gd P.who.length _ _ ⟨_, _, _, rfl⟩ wr hn ?_
        by_cases h0 : P.who.length = 0
        · rw [h0]
          exact ins0 gd _ ⟨_, _, _, rfl⟩ wr
        · have hk := hT.out.kinds
          refine insT gd gb gr P.who.length R (List.range P.who.length) wr (by omega) hn (by simp) (fun x hx => List.mem_range.1 hx) (Array.getElem?_eq_some_iff.1 hT.out.box).1 (cell_lt (hT.out.cR (j := 0) (by omega))) hk.1 (fun e => hT.out.ne1 e.symm) (fun k x hx => ?_) hT.out.bx fun t ht => hT.out.cR ht
          have hlt2 := (List.getElem?_eq_some_iff.1 hx).1
          rw [List.length_range] at hlt2
          rw [List.getElem?_range hlt2] at hx
          cases hx
          refine ⟨?_, hT.out.ord.frozenAt k⟩
          rw [hT.out.cO hlt2]
          simp [oA, hlt2]
      have hgd : Hid (w.heap.size + 1 ≤ gd) := own_ge' hT.out.ord rfl
      have hbe := hide' hT.out.be
      clear hT KM KO KR hlr'
      go_wp2_with fail
      refine hKS.out.mono ?_
      rintro e w8 ⟨rfl, L', h1, h2, h3⟩
      have hl : L'.length = P.who.length := by have := h1.out.length_eq; simpa using this
      have hfin : Hid (RowI w8 (.slice (some ⟨gd, 0, none⟩) P.who.length P.who.length) (ints L')) := by
        refine ⟨some ⟨gd, 0, none⟩, P.who.length, by rw [ints_len, hl], ⟨by rw [ints_len, hl]; exact Nat.le_refl _, fun e => by cases e⟩, fun i x hx => ⟨gd, 0, rfl, ?_⟩⟩
        rw [Nat.zero_add]
        unfold ints at hx
        rw [List.getElem?_map] at hx
        cases hy : L'[i]? with
        | none => rw [hy] at hx; cases hx
        | some y =>
          rw [hy] at hx
          cases hx
          exact h2.out i y hy
      have hB8 : Hid (Below w.heap.size w w8) := by
        obtain ⟨e1, e2, e3, e4, e5⟩ := h3.out
        have hg := hgd.out
        exact ⟨e1.trans hbe.out.os, e2.trans hbe.out.tape, e3.trans hbe.out.output, by rw [e4]; exact hbe.out.size, fun k hk => (e5 k (by omega)).trans (hbe.out.block k hk)⟩
      clear hKS h2 h3 hgd hbe hl
      go_wp2
      go_ret
      exact ⟨_, L', rfl, hfin, h1, hB8⟩
end Go.Proofs.YtmbdnhgmpmnhmaaGreatDoor.S
namespace Go.Proofs.YtmbdnhgmpmnhmaaGreatDoor.S
open Go.RowKit Go.Shelf
/-- Has it a plan? -/
noncomputable def canB (P : Pb) : Bool := @decide (∃ L, holP P L = true) (Classical.propDecidable _)
theorem canB_iff (P : Pb) : canB P = true ↔ ∃ L, holP P L = true := by unfold canB; exact @decide_eq_true_iff _ (Classical.propDecidable _)
theorem canB_no {P : Pb} (h : chkN P ≠ 0) : canB P = false := by
  cases e : canB P with
  | false => rfl
  | true => obtain ⟨L, hL⟩ := (canB_iff P).1 e; exact absurd (holP_of hL).1 h
theorem canB_re {P : Pb} {O : List Nat} (hP : chkN P = 0) (hO : O.Perm (List.range P.who.length)) : canB (reP P O) = canB P := by
  rw [Bool.eq_iff_iff, canB_iff, canB_iff]; exact can_re hP hO
theorem canB_ls {P : Pb} : ∀ {o : Option (List Int)}, LsP P o → canB P = o.isSome
  | none, h => by
    cases e : canB P with
    | false => rfl
    | true => obtain ⟨L, hL⟩ := (canB_iff P).1 e; rw [h L] at hL; cases hL
  | some l, h => (canB_iff P).2 ⟨l, h.1⟩
/-- What one search adds to the gauge at most. -/
def gK (P : Pb) : Nat := cntB P.who.length 0
def gE (P : Pb) : Nat := cntB P.who.length 0 * (P.who.length * P.users.toNat * P.who.length) + P.who.length * P.users.toNat * (P.who.length + P.who.length * P.who.length)
/-- What k searches add to the gauge. -/
def GcB (P : Pb) (k a b c a' b' c' : Nat) : Prop := (chkN P ≠ 0 → a' = a ∧ b' = b ∧ c' = c) ∧ (chkN P = 0 → (a ≤ a' ∧ a' ≤ a + k * gK P) ∧ (b ≤ b' ∧ b' ≤ b + k * (gK P * P.users.toNat)) ∧ (c ≤ c' ∧ c' ≤ c + k * gE P))
theorem GcB.one {P : Pb} {a b c a' b' c' : Nat} (hP : chkN P = 0) (h : GgB P (P.who.length * P.users.toNat * (P.who.length + P.who.length * P.who.length)) a b c a' b' c') : GcB P 1 a b c a' b' c' :=
  ⟨fun q => absurd hP q, fun _ => ⟨⟨h.1.1, by rw [Nat.one_mul]; exact h.1.2⟩, ⟨h.2.1.1, by rw [Nat.one_mul]; exact h.2.1.2⟩, ⟨h.2.2.1, by rw [Nat.one_mul]; unfold gE; have := h.2.2.2; omega⟩⟩⟩
theorem GcB.two {P : Pb} {a b c a' b' c' a2 b2 c2 : Nat} (h : GcB P 1 a b c a' b' c') (k : GcB P 1 a' b' c' a2 b2 c2) : GcB P 2 a b c a2 b2 c2 := by
  refine ⟨fun q => ?_, fun q => ?_⟩
  · obtain ⟨h1, h2, h3⟩ := h.1 q
    obtain ⟨k1, k2, k3⟩ := k.1 q
    omega
  · have h1 := h.2 q
    have k1 := k.2 q
    omega
theorem GcB.up {P : Pb} {a b c a' b' c' : Nat} (h : GcB P 1 a b c a' b' c') : GcB P 2 a b c a' b' c' := by
  refine ⟨h.1, fun q => ?_⟩
  have h1 := h.2 q
  omega
theorem GcB.zero {P : Pb} (hP : chkN P ≠ 0) (a b c : Nat) : GcB P 1 a b c a b c := ⟨fun _ => ⟨rfl, rfl, rfl⟩, fun q => absurd q hP⟩
theorem GcB.re {P : Pb} {O : List Nat} (hO : O.Perm (List.range P.who.length)) {e a b c a' b' c' : Nat} (h : GgB (reP P O) e a b c a' b' c') : GgB P e a b c a' b' c' := by
  have hlw : (reP P O).who.length = P.who.length := by show (reW P O).length = _; unfold reW; rw [List.length_map]; exact re_len hO
  unfold GgB at h
  rw [hlw] at h
  exact h
/-- What one search adds at most, in numbers. -/
theorem gE_le {P : Pb} (h : chkN P = 0) : gK P ≤ 100000000 ∧ gK P * P.users.toNat ≤ 6400000000 ∧ gE P ≤ 1000000000000 := by
  obtain ⟨h12, hU0, hU, _⟩ := chkN_zero h
  have hU' : P.users.toNat ≤ 64 := by omega
  have h1 := cntB_few h12
  have h2 : P.who.length * P.users.toNat ≤ 12 * 64 := Nat.mul_le_mul h12 hU'
  have h3 : P.who.length * P.who.length ≤ 12 * 12 := Nat.mul_le_mul h12 h12
  refine ⟨h1, Nat.mul_le_mul h1 hU', ?_⟩
  have h4 : cntB P.who.length 0 * (P.who.length * P.users.toNat * P.who.length) ≤ 100000000 * (12 * 64 * 12) := Nat.mul_le_mul h1 (Nat.mul_le_mul h2 h12)
  have h5 : P.who.length * P.users.toNat * (P.who.length + P.who.length * P.who.length) ≤ 12 * 64 * (12 + 144) := Nat.mul_le_mul h2 (by omega)
  unfold gE
  omega
theorem GcB.le {P : Pb} {k a b c a' b' c' : Nat} (h : GcB P k a b c a' b' c') (hk : k ≤ 2) : a ≤ a' ∧ a' ≤ a + 2000000000000 ∧ b ≤ b' ∧ b' ≤ b + 2000000000000 ∧ c ≤ c' ∧ c' ≤ c + 2000000000000 := by
  by_cases q : chkN P = 0
  · have h1 := h.2 q
    obtain ⟨e1, e2, e3⟩ := gE_le q
    have f1 : k * gK P ≤ 2 * 100000000 := Nat.mul_le_mul hk e1
    have f2 : k * (gK P * P.users.toNat) ≤ 2 * 6400000000 := Nat.mul_le_mul hk e2
    have f3 : k * gE P ≤ 2 * 1000000000000 := Nat.mul_le_mul hk e3
    omega
  · have h1 := h.1 q
    omega
def CaP (w : World) (P : Pb) (gs a b c : Nat) (e : Ending) (w' : World) : Prop :=
  e = .returned (.bool (canB P)) ∧ ∃ a' b' c', Hid (GgAt w' gs a' b' c') ∧ Hid (GcB P 1 a b c a' b' c') ∧ Hid (M.Fr2 w w' gs gs)
/-- first, its answer in one form. -/
def F1P (w : World) (P : Pb) (gs a b c : Nat) (e : Ending) (w' : World) : Prop :=
  ∃ v, e = .returned (.tuple #[v, .bool (canB P)]) ∧ ∃ a' b' c', Hid (GgAt w' gs a' b' c') ∧ Hid (GcB P 1 a b c a' b' c') ∧ Hid (M.Fr2 w w' gs gs) ∧ Hid (∀ o, LsP P o → (o = none ∧ v = .slice none 0 0) ∨ ∃ l, o = some l ∧ w'.ownsRow w.heap.size 3 1 v l.length (cellsI l))
theorem first1 {P : Pb} {w w' : World} {gs a b c : Nat} {e : Ending} (hP : chkN P = 0) (h : FiP w P gs a b c e w') : F1P w P gs a b c e w' := by
  obtain ⟨⟨a', b', c', h1, h2⟩, h3, h4⟩ := h
  rcases h4 with ⟨rfl, h5⟩ | ⟨v, l, rfl, h5, h6⟩
  · exact ⟨_, by rw [canB_ls h5.out]; rfl, a', b', c', h1, GcB.one hP h2.out, h3, fun o ho => .inl ⟨LsP.one ho h5.out, rfl⟩⟩
  · exact ⟨v, by rw [canB_ls h5.out]; rfl, a', b', c', h1, GcB.one hP h2.out, h3, fun o ho => .inr ⟨l, LsP.one ho h5.out, h6.out⟩⟩
set_option maxRecDepth 100000 in
set_option maxHeartbeats 4000000 in
theorem canF (P : Pb) (wv fv rv : Value) (gs a b c : Nat) (w : World) (h : PbV w P wv fv rv) (hk : Pok P) (hg : GgAt w gs a b c) (hGs : 1 ≤ gs) (ht : M.Tab w) (ha0 : a ≤ 2305843009213693952) (hb0 : b ≤ 2305843009213693952) (hc0 : c ≤ 2305843009213693952) :
    Calls Tryz.prog 63 #[.pointer (some ⟨gs, 0, none⟩), pbV P wv fv rv] w (CaP w P gs a b c) := by
  have hs := h.shape
  have hgl := hg.lt
  have hpV : Hid (PbB (w.alloc (.cells #[.int .i64 P.users, wv, fv, rv] 26)) w.heap.size P wv fv rv) := heap_new w _
  have hbV : Hid (Below w.heap.size w (w.alloc (.cells #[.int .i64 P.users, wv, fv, rv] 26))) := (Below.refl _ w).alloc (Nat.le_refl _) _
  have KC := hide' (checkPF P wv fv rv _ (h.below hbV.out) hk.w hk.f hk.r hk.s hk.b)
  have hnx : Hid (∀ V, Below w.heap.size w V → PbV V P wv fv rv ∧ GgAt V gs a b c ∧ M.Tab V) := fun V hV => ⟨h.below hV, hg.below hV, ht.over hV⟩
  obtain ⟨ow, cw, of, cf, or, cr, rfl, rfl, rfl⟩ := hs
  unfold pbV at KC ⊢
  by_cases hP : chkN P = 0
  · obtain ⟨h12, hU0, hU, hR, hfx, hwo, hru⟩ := chkN_zero hP
    obtain ⟨hfl, hx⟩ := fixB_of hfx hU
    have KT : Hid (∀ V, Below w.heap.size w V → Calls Tryz.prog 75 #[.agg #[.int .i64 P.users, .slice ow P.who.length cw, .slice of P.fixed.length cf, .slice or P.rules.length cr]] V fun e w' => ∃ v O, e = .returned v ∧ Hid (RowI w' v (ints O)) ∧ Hid (O.Perm (List.range P.who.length)) ∧ Hid (Below V.heap.size V w')) := fun V hV => tightF P _ _ _ V (h.below hV) h12 hfl hx hk.b hk.r hk.s
    have KR : Hid (∀ V O v, Below w.heap.size w V → RowI V v (ints O) → O.Perm (List.range P.who.length) → Calls Tryz.prog 74 #[.agg #[.int .i64 P.users, .slice ow P.who.length cw, .slice of P.fixed.length cf, .slice or P.rules.length cr], v] V fun e w' => ∃ va vb vc, e = .returned (.agg #[.int .i64 P.users, va, vb, vc]) ∧ Hid (PbV w' (reP P O) va vb vc) ∧ Hid (Below V.heap.size V w')) := fun V O v hV hv hO =>
      (reorderedF P _ _ _ O v V (h.below hV) hv (by rw [re_len hO]; omega) hk.r hk.s fun t ht => by have := (re_mem hO).1 ht; omega).mono fun e w' ⟨va, vb, vc, h1, h2, h3⟩ => ⟨va, vb, vc, h1, h2, h3⟩
    have KF : Hid (∀ V O va vb vc, Below w.heap.size w V → PbV V (reP P O) va vb vc → O.Perm (List.range P.who.length) → Calls Tryz.prog 64 #[.pointer (some ⟨gs, 0, none⟩), .agg #[.int .i64 P.users, va, vb, vc]] V fun e w' => ∃ v, e = .returned (.tuple #[v, .bool (canB P)]) ∧ Hid (∃ a' b' c', GgAt w' gs a' b' c' ∧ GcB P 1 a b c a' b' c') ∧ Hid (M.Fr2 V w' gs gs)) := fun V O va vb vc hV hQ hO => by
      have hsm : ∀ r ∈ (reP P O).rules, r.steps.length ≤ 1000 := fun r hr => by
        obtain ⟨r', hr', rfl⟩ := List.mem_map.1 (show r ∈ P.rules.map _ from hr)
        have := movJ_len r'.steps (ints O) (ints O).length
        rw [ints_len, re_len hO] at this
        show (movN r'.steps (ints O)).length ≤ 1000
        unfold movN
        rw [ints_len, re_len hO]
        omega
      have hwd : ∀ z ∈ (reP P O).who, z < 18446744073709551616 := fun z hz => by
        obtain ⟨t, ht, rfl⟩ := List.mem_map.1 (show z ∈ O.map _ from hz)
        have hlt := (re_mem hO).1 ht
        exact hk.b _ (by rw [List.getD_eq_getElem?_getD, List.getElem?_eq_getElem hlt]; exact List.getElem_mem hlt)
      refine (firstF (reP P O) va vb vc gs a b c V hQ (chk_reP hP hO) hwd hsm (hg.below hV) hGs (ht.over hV) ha0 hb0 hc0).mono fun e w' hF => ?_
      obtain ⟨⟨a', b', c', g1, g2⟩, g3, g4⟩ := hF
      refine (fun (q : ∃ v, e = .returned (.tuple #[v, .bool (canB P)])) => ?_) ?_
      · obtain ⟨v, hv⟩ := q
        exact ⟨v, hv, ⟨a', b', c', g1.out, GcB.one hP (by
          have hlw : (reP P O).who.length = P.who.length := by show (reW P O).length = _; unfold reW; rw [List.length_map]; exact re_len hO
          have := GcB.re hO g2.out
          rw [hlw] at this
          exact this)⟩, g3⟩
      · rw [← canB_re hP hO]
        rcases g4 with ⟨rfl, h5⟩ | ⟨v, l, rfl, h5, h6⟩
        · exact ⟨_, by rw [canB_ls h5.out]; rfl⟩
        · exact ⟨v, by rw [canB_ls h5.out]; rfl⟩
    rw [hP] at KC
    clear h hk hg ht hP hfx hwo hru hfl hx hnx
    go_enter Tryz.func63, Tryz.ntmps63
    have q := hpV.out.all
    go_wp2_with fail
    refine KC.out.mono ?_
    rintro e w1 ⟨rfl, hb1⟩
    have hB1 : Hid (Below w.heap.size w w1) := hbV.out.trans (hb1.mono hbV.out.size)
    have hp1 := hide' (hpV.out.below hb1)
    have hp1d := hide' (hp1.out.below (Below.refl _ w1).drew)
    have hB1d : Hid (Below w.heap.size w w1.drew) := hB1.out.drew
    clear q KC hb1 hbV hpV
    go_wp2
    go_region_held3 (fun V => V.cell? ⟨w.heap.size, 0, none⟩ = some (.int .i64 P.users) ∧ V.cell? ⟨w.heap.size, 1, none⟩ = some (.slice ow P.who.length cw) ∧ V.cell? ⟨w.heap.size, 2, none⟩ = some (.slice of P.fixed.length cf) ∧ V.cell? ⟨w.heap.size, 3, none⟩ = some (.slice or P.rules.length cr)) (first | (exact hp5.out.all) | (exact hp4.out.all) | (exact hp3.out.all) | (exact hp1d.out.all)) (first | (go_at_call 75; refine (KT.out _ hB1d.out).mono ?_; rintro e w3 ⟨v, O, rfl, hO, hpm, hb3⟩; have hp3 := hide' (hp1d.out.below hb3.out); have hB3 : Hid (Below w.heap.size w w3) := hB1d.out.trans (hb3.out.mono hB1d.out.size)) | (go_at_call 74; refine (KR.out _ O v hB3.out hO.out hpm.out).mono ?_; rintro e w4 ⟨va, vb, vc, rfl, hQ, hb4⟩; have hp4 := hide' (hp3.out.below hb4.out); have hB4 : Hid (Below w.heap.size w w4) := hB3.out.trans (hb4.out.mono hB3.out.size)) | (go_at_call 64; refine (KF.out _ O va vb vc hB4.out hQ.out hpm.out).mono ?_; rintro e w5 ⟨v5, rfl, hG5, hF5⟩; have hp5 : Hid (PbB w5 w.heap.size P (.slice ow P.who.length cw) (.slice of P.fixed.length cf) (.slice or P.rules.length cr)) := (hF5.out.block w.heap.size (Array.getElem?_eq_some_iff.1 hp4.out).1 (by omega) (by omega)).trans hp4.out))
    have hF9 : Hid (M.Fr2 w w5 gs gs) := (M.Fr2.below hB4.out).trans hF5.out
    clear KT KR KF hp1 hp1d hp3 hp4 hp5 hO hpm hQ hF5
    go_wp2
    go_ret
    obtain ⟨a', b', c', g1, g2⟩ := hG5.out
    exact ⟨rfl, a', b', c', g1, g2, hF9⟩
  · have hne : ((chkN P : Int) != 0) = true := by rw [bne_iff_ne]; omega
    have hcb := hide' (canB_no hP)
    have hP' := hide' hP
    generalize chkN P = kk at KC hne
    clear h hk hg ht hP
    go_enter Tryz.func63, Tryz.ntmps63
    have q := hpV.out.all
    go_wp2_with fail
    refine KC.out.mono ?_
    rintro e w1 ⟨rfl, hb1⟩
    have hB1 : Hid (Below w.heap.size w w1) := hbV.out.trans (hb1.mono hbV.out.size)
    clear q KC hb1 hbV hpV
    go_wp2
    go_ret
    exact ⟨ret_bool hcb.out.symm, a, b, c, (hnx.out w1 hB1.out).2.1, GcB.zero hP'.out a b c, M.Fr2.below hB1.out⟩
end Go.Proofs.YtmbdnhgmpmnhmaaGreatDoor.S
namespace Go.Proofs.YtmbdnhgmpmnhmaaGreatDoor.S
open Go.RowKit Go.Shelf
set_option maxRecDepth 100000 in
theorem newF (w : World) : Calls Tryz.prog 43 #[] w fun e w' => e = .returned (.pointer (some ⟨w.heap.size, 0, none⟩)) ∧ Hid (GgAt w' w.heap.size 0 0 0) ∧ Hid (Below w.heap.size w w') := by
  go_enter Tryz.func43, Tryz.ntmps43
  go_wp2
  go_ret
  refine ⟨rfl, ?_, (Below.refl _ w).alloc (Nat.le_refl _) _⟩
  exact World.rowIs_alloc w #[.int .u64 0, .int .u64 0, .int .u64 0] _ _ fun i hi => by
    have hi : i < 3 := hi
    rcases (show i = 0 ∨ i = 1 ∨ i = 2 by omega) with rfl | rfl | rfl <;> rfl
/-- Rows of words that are not the gauge's. -/
theorem rowW_frame {V W : World} {v : Value} {L : List Nat} {gs : Nat} (h : RowW V v L) (hne : ∀ ad n c, v = .slice (some ad) n c → ad.block ≠ gs) (hk : ∀ k, k < V.heap.size → k ≠ gs → W.heap[k]? = V.heap[k]?) : RowW W v L := by
  obtain ⟨oa, cap, e, e0, hc⟩ := h
  refine ⟨oa, cap, e, e0, fun i z hi => ?_⟩
  obtain ⟨g, o, e1, e2⟩ := hc i z hi
  refine ⟨g, o, e1, ?_⟩
  have h1 := hk g (cell_lt e2) (hne ⟨g, o, none⟩ _ _ (by rw [e, e1]))
  simp only [World.cell?] at e2 ⊢
  rw [h1]; exact e2
theorem rowR_frame {V W : World} {v : Value} {L : List Rl} {gs a b c : Nat} (h : RowR V v L) (hg : GgAt V gs a b c) (hk : ∀ k, k < V.heap.size → k ≠ gs → W.heap[k]? = V.heap[k]?) : RowR W v L := by
  obtain ⟨oa, cap, e, e0, hc⟩ := h
  refine ⟨oa, cap, e, e0, fun i r hi => ?_⟩
  obtain ⟨g, o, sv, e1, e2, e3, e4, e5⟩ := hc i r hi
  have hne : g ≠ gs := fun q => by rw [q] at e2; exact hg.kind e2
  have h1 := hk g (cell_lt e2) hne
  refine ⟨g, o, sv, e1, ?_, ?_, ?_, rowI_frame e5 hg hk⟩ <;> (simp only [World.cell?] at e2 e3 e4 ⊢; rw [h1]; assumption)
theorem pbV_frame {V W : World} {P : Pb} {wv fv rv : Value} {gs a b c : Nat} (h : PbV V P wv fv rv) (hg : GgAt V gs a b c) (hne : ∀ ad n c, wv = .slice (some ad) n c → ad.block ≠ gs) (hf : M.Fr2 V W gs gs) : PbV W P wv fv rv :=
  ⟨rowW_frame h.who hne fun k hk e => hf.block k hk e e, rowI_frame h.fixed hg fun k hk e => hf.block k hk e e, rowR_frame h.rules hg fun k hk e => hf.block k hk e e⟩
theorem tab_frame {V W : World} {gs : Nat} (h : M.Tab V) (hGs : 1 ≤ gs) (hf : M.Fr2 V W gs gs) : M.Tab W := h.fr2 hf hGs hGs
def LeP (w : World) (P : Pb) (gs a b c : Nat) (e : Ending) (w' : World) : Prop :=
  (∃ a' b' c', Hid (GgAt w' gs a' b' c') ∧ Hid (GcB P 2 a b c a' b' c')) ∧ Hid (M.Fr2 w w' gs gs) ∧ ((e = .returned (.tuple #[.slice none 0 0, .bool false]) ∧ Hid (LsP P none)) ∨ ∃ v l, e = .returned (.tuple #[v, .bool true]) ∧ Hid (LsP P (some l)) ∧ Hid (w'.ownsRow w.heap.size 3 1 v l.length (cellsI l)))
theorem can_none {P : Pb} (h : canB P = false) : LsP P none := fun L => by
  cases e : holP P L with
  | false => rfl
  | true => rw [(canB_iff P).2 ⟨L, e⟩] at h; cases h
set_option maxRecDepth 100000 in
set_option maxHeartbeats 4000000 in
theorem leastPF (P : Pb) (wv fv rv : Value) (gs a b c : Nat) (w : World) (h : PbV w P wv fv rv) (hk : Pok P) (hg : GgAt w gs a b c) (hGs : 1 ≤ gs) (ht : M.Tab w) (hne : ∀ ad n c, wv = .slice (some ad) n c → ad.block ≠ gs) (ha0 : a ≤ 1152921504606846976) (hb0 : b ≤ 1152921504606846976) (hc0 : c ≤ 1152921504606846976) :
    Calls Tryz.prog 48 #[.pointer (some ⟨gs, 0, none⟩), pbV P wv fv rv] w (LeP w P gs a b c) := by
  have hs := h.shape
  have hgl := hg.lt
  have hpV : Hid (PbB (w.alloc (.cells #[.int .i64 P.users, wv, fv, rv] 26)) w.heap.size P wv fv rv) := heap_new w _
  have hbV : Hid (Below w.heap.size w (w.alloc (.cells #[.int .i64 P.users, wv, fv, rv] 26))) := (Below.refl _ w).alloc (Nat.le_refl _) _
  have KC := hide' (canF P wv fv rv gs a b c _ (h.below hbV.out) hk (hg.below hbV.out) hGs (ht.over hbV.out) (by omega) (by omega) (by omega))
  have KF : Hid (∀ W a' b' c', M.Fr2 w W gs gs → GgAt W gs a' b' c' → GcB P 1 a b c a' b' c' → canB P = true → Calls Tryz.prog 64 #[.pointer (some ⟨gs, 0, none⟩), pbV P wv fv rv] W (FiP W P gs a' b' c')) := fun W a' b' c' hW hg' hb' hc => by
    obtain ⟨L, hL⟩ := (canB_iff P).1 hc
    have hle := hb'.le (by decide)
    exact firstF P wv fv rv gs a' b' c' W (pbV_frame h hg hne hW) (holP_of hL).1 hk.b hk.s hg' hGs (tab_frame ht hGs hW) (by omega) (by omega) (by omega)
  have hP0 : Hid (canB P = true → chkN P = 0) := fun hc => by obtain ⟨L, hL⟩ := (canB_iff P).1 hc; exact (holP_of hL).1
  obtain ⟨ow, cw, of, cf, or, cr, rfl, rfl, rfl⟩ := hs
  unfold pbV at KC KF ⊢
  clear h hk hg ht hne
  unfold CaP at KC
  cases hc : canB P with
  | false =>
    rw [hc] at KC
    have hno := hide' (can_none hc)
    clear KF hP0
    go_enter Tryz.func48, Tryz.ntmps48
    have q := hpV.out.all
    go_wp2_with fail
    refine KC.out.mono ?_
    rintro e w1 ⟨rfl, a', b', c', g1, g2, g3⟩
    have hF1 : Hid (M.Fr2 w w1 gs gs) := (M.Fr2.below hbV.out).trans g3.out
    clear q KC hbV hpV g3
    go_wp2
    go_ret2
    exact ⟨⟨a', b', c', g1, g2.out.up⟩, hF1, .inl ⟨rfl, hno⟩⟩
  | true =>
    rw [hc] at KC
    have hP1 := hide' (hP0.out hc)
    have hc' := hide' hc
    go_enter Tryz.func48, Tryz.ntmps48
    have q := hpV.out.all
    go_wp2_with fail
    refine KC.out.mono ?_
    rintro e w1 ⟨rfl, a', b', c', g1, g2, g3⟩
    have hF1 : Hid (M.Fr2 w w1 gs gs) := (M.Fr2.below hbV.out).trans g3.out
    have hp1 : Hid (PbB w1 w.heap.size P (.slice ow P.who.length cw) (.slice of P.fixed.length cf) (.slice or P.rules.length cr)) := (g3.out.block w.heap.size (Array.getElem?_eq_some_iff.1 hpV.out).1 (by omega) (by omega)).trans hpV.out
    have KF1 := hide' (KF.out w1 a' b' c' hF1.out g1.out g2.out hc)
    have hsz := hF1.out.size
    clear q KC hbV hpV g3 KF hc hP0
    have q0 := hp1.out.c0
    have q1 := hp1.out.c1
    have q2 := hp1.out.c2
    have q3 := hp1.out.c3
    go_wp2_with fail
    refine KF1.out.mono ?_
    rintro e w2 ⟨⟨a2, b2, c2, k1, k2⟩, k3, ⟨rfl, h5⟩ | ⟨v, l, rfl, h5, h6⟩⟩
    · have := canB_ls h5.out
      rw [hc'.out] at this
      cases this
    · have hF2 : Hid (M.Fr2 w w2 gs gs) := hF1.out.trans k3.out
      have hgg : Hid (GcB P 2 a b c a2 b2 c2) := g2.out.two (GcB.one hP1.out k2.out)
      have hown : Hid (w2.ownsRow w.heap.size 3 1 v l.length (cellsI l)) := owns_lowS h6.out hsz
      clear KF1 hp1 q0 q1 q2 q3 k2 k3 h6 hF1 g1 g2
      go_wp2
      go_ret2
      exact ⟨⟨a2, b2, c2, k1, hgg⟩, hF2, .inr ⟨v, l, rfl, h5, hown⟩⟩
end Go.Proofs.YtmbdnhgmpmnhmaaGreatDoor.S
namespace Go.Proofs.YtmbdnhgmpmnhmaaGreatDoor.S
open Go.RowKit Go.Shelf
def wkR : Rl := ⟨1, 0, [0, 1]⟩
def wkP : Pb := ⟨3, [3, 3, 4], [-1, -1, -1], [wkR]⟩
theorem wk_holds : holP wkP [0, 1, 2] = true := by decide +kernel
theorem wk_user {t : Nat} {x : Int} (h : okU wkP t x = true) : x = 0 ∨ x = 1 ∨ x = 2 := by
  unfold okU isU at h
  simp only [Bool.and_eq_true, decide_eq_true_eq] at h
  have h1 : x < 3 := h.1.2
  omega
theorem wk_one {l : List Int} (h : LsP wkP (some l)) : l = [0, 1, 2] := by
  rcases h.2 _ wk_holds with e | e
  · exact e.symm
  · exfalso
    have hl := h.1
    obtain ⟨_, h2, h3, _⟩ := holP_of hl
    have h2 : l.length = 3 := h2
    match l, h2, e, hl, h3 with
    | [a, b, c], _, e, hl, h3 =>
      rcases wk_user (h3 0 a rfl) with rfl | rfl | rfl <;> rcases wk_user (h3 1 b rfl) with rfl | rfl | rfl <;> rcases wk_user (h3 2 c rfl) with rfl | rfl | rfl <;> first | (revert e; decide +kernel) | (revert hl; decide +kernel)
theorem wk_can : canB wkP = true := (canB_iff _).2 ⟨_, wk_holds⟩
theorem wk_ok : Pok wkP := ⟨by decide, by decide, by decide, by decide, by decide⟩
/-- The problem of the runs, as it is written down. -/
theorem wk_mem (V : World) : ∃ W, W = ((((V.alloc (.cells #[.int .u64 3, .int .u64 3, .int .u64 4] 27)).alloc (.cells #[.int .i64 (-1), .int .i64 (-1), .int .i64 (-1)] 3)).alloc (.cells #[.int .i64 0, .int .i64 1] 3)).alloc (.cells #[.int .i64 1, .int .i64 0, .slice (some ⟨V.heap.size + 1 + 1, 0, none⟩) 2 2] 46)).alloc (.cells #[.int .i64 3, .slice (some ⟨V.heap.size, 0, none⟩) 3 3, .slice (some ⟨V.heap.size + 1, 0, none⟩) 3 3, .slice (some ⟨V.heap.size + 1 + 1 + 1, 0, none⟩) 1 1] 26) ∧
    PbV W wkP (.slice (some ⟨V.heap.size, 0, none⟩) 3 3) (.slice (some ⟨V.heap.size + 1, 0, none⟩) 3 3) (.slice (some ⟨V.heap.size + 1 + 1 + 1, 0, none⟩) 1 1) ∧ PbB W (V.heap.size + 1 + 1 + 1 + 1) wkP (.slice (some ⟨V.heap.size, 0, none⟩) 3 3) (.slice (some ⟨V.heap.size + 1, 0, none⟩) 3 3) (.slice (some ⟨V.heap.size + 1 + 1 + 1, 0, none⟩) 1 1) ∧ Below V.heap.size V W := by
  obtain ⟨z1, n1, k1, b1⟩ := alloc_stH V (.cells #[.int .u64 3, .int .u64 3, .int .u64 4] 27) _ rfl
  obtain ⟨z2, n2, k2, b2⟩ := alloc_stH _ (.cells #[.int .i64 (-1), .int .i64 (-1), .int .i64 (-1)] 3) _ z1
  obtain ⟨z3, n3, k3, b3⟩ := alloc_stH _ (.cells #[.int .i64 0, .int .i64 1] 3) _ z2
  obtain ⟨z4, n4, k4, b4⟩ := alloc_stH _ (.cells #[.int .i64 1, .int .i64 0, .slice (some ⟨V.heap.size + 1 + 1, 0, none⟩) 2 2] 46) _ z3
  obtain ⟨z5, n5, k5, b5⟩ := alloc_stH _ (.cells #[.int .i64 3, .slice (some ⟨V.heap.size, 0, none⟩) 3 3, .slice (some ⟨V.heap.size + 1, 0, none⟩) 3 3, .slice (some ⟨V.heap.size + 1 + 1 + 1, 0, none⟩) 1 1] 26) _ z4
  refine ⟨_, rfl, ?_, n5, (((b1.trans (b2.mono (by omega))).trans (b3.mono (by omega))).trans (b4.mono (by omega))).trans (b5.mono (by omega))⟩
  have m1 := k5 _ _ (k4 _ _ (k3 _ _ (k2 _ _ n1)))
  have m2 := k5 _ _ (k4 _ _ (k3 _ _ n2))
  have m3 := k5 _ _ (k4 _ _ n3)
  have m4 := k5 _ _ n4
  generalize ((((V.alloc (.cells #[.int .u64 3, .int .u64 3, .int .u64 4] 27)).alloc (.cells #[.int .i64 (-1), .int .i64 (-1), .int .i64 (-1)] 3)).alloc (.cells #[.int .i64 0, .int .i64 1] 3)).alloc (.cells #[.int .i64 1, .int .i64 0, .slice (some ⟨V.heap.size + 1 + 1, 0, none⟩) 2 2] 46)).alloc (.cells #[.int .i64 3, .slice (some ⟨V.heap.size, 0, none⟩) 3 3, .slice (some ⟨V.heap.size + 1, 0, none⟩) 3 3, .slice (some ⟨V.heap.size + 1 + 1 + 1, 0, none⟩) 1 1] 26) = W at *
  refine ⟨⟨_, _, rfl, ⟨Nat.le_refl _, fun e => by cases e⟩, fun i z hz => ⟨_, _, rfl, ?_⟩⟩, ⟨_, _, rfl, ⟨Nat.le_refl _, fun e => by cases e⟩, fun i z hz => ⟨_, _, rfl, ?_⟩⟩, ⟨_, _, rfl, ⟨Nat.le_refl _, fun e => by cases e⟩, fun i r hr => ?_⟩⟩
  · match i, hz with
    | 0, hz => cases hz; simp [World.cell?, m1]
    | 1, hz => cases hz; simp [World.cell?, m1]
    | 2, hz => cases hz; simp [World.cell?, m1]
    | i + 3, hz => simp [wkP] at hz
  · match i, hz with
    | 0, hz => cases hz; simp [World.cell?, m2]
    | 1, hz => cases hz; simp [World.cell?, m2]
    | 2, hz => cases hz; simp [World.cell?, m2]
    | i + 3, hz => simp [wkP] at hz
  · match i, hr with
    | 0, hr =>
      cases hr
      refine ⟨_, _, .slice (some ⟨V.heap.size + 1 + 1, 0, none⟩) 2 2, rfl, by simp [World.cell?, m4, wkR], by simp [World.cell?, m4, wkR], by simp [World.cell?, m4], ⟨_, _, rfl, ⟨Nat.le_refl _, fun e => by cases e⟩, fun j z hz => ⟨_, _, rfl, ?_⟩⟩⟩
      match j, hz with
      | 0, hz => cases hz; simp [World.cell?, m3]
      | 1, hz => cases hz; simp [World.cell?, m3]
      | j + 2, hz => simp [wkR] at hz
    | i + 1, hr => simp [wkP] at hr
theorem row_012 (V : World) : RowI (V.alloc (.cells #[.int .i64 0, .int .i64 1, .int .i64 2] 3)) (.slice (some ⟨V.heap.size, 0, none⟩) 3 3) [0, 1, 2] := by
  have n3 := heap_new V (.cells #[.int .i64 0, .int .i64 1, .int .i64 2] 3)
  generalize V.alloc (.cells #[.int .i64 0, .int .i64 1, .int .i64 2] 3) = W at *
  refine ⟨_, _, rfl, ⟨Nat.le_refl _, fun e => by cases e⟩, fun i z hz => ⟨_, _, rfl, ?_⟩⟩
  match i, hz with
  | 0, hz => cases hz; simp [World.cell?, n3]
  | 1, hz => cases hz; simp [World.cell?, n3]
  | 2, hz => cases hz; simp [World.cell?, n3]
  | i + 3, hz => simp at hz
/-- What stands between the calls. -/
structure WkS (w : World) (gs gp : Nat) (wv fv rv v : Value) (a b c : Nat) (V : World) : Prop where
  pv : PbV V wkP wv fv rv
  pb : PbB V gp wkP wv fv rv
  gg : GgAt V gs a b c
  tab : M.Tab V
  row : RowI V v [0, 1, 2]
  be : Below w.heap.size w V
theorem WkS.over {w : World} {gs gp : Nat} {wv fv rv v : Value} {a b c : Nat} {V V' : World} (h : WkS w gs gp wv fv rv v a b c V) (hb : Below V.heap.size V V') : WkS w gs gp wv fv rv v a b c V' :=
  ⟨h.pv.below hb, h.pb.below hb, h.gg.below hb, h.tab.over hb, h.row.below hb (Nat.le_refl _), h.be.trans (hb.mono h.be.size)⟩
theorem WkS.fr {w : World} {gs gp : Nat} {wv fv rv v : Value} {a b c a' b' c' : Nat} {V V' : World} (h : WkS w gs gp wv fv rv v a b c V) (hf : M.Fr2 V V' gs gs) (hg : GgAt V' gs a' b' c') (hgs : w.heap.size ≤ gs) (hne : ∀ ad n c, wv = .slice (some ad) n c → ad.block ≠ gs) (hgp : gp ≠ gs) (hG : 1 ≤ gs) : WkS w gs gp wv fv rv v a' b' c' V' :=
  ⟨pbV_frame h.pv h.gg hne hf, (hf.block gp (Array.getElem?_eq_some_iff.1 h.pb).1 hgp hgp).trans h.pb, hg, tab_frame h.tab hG hf, rowI_frame h.row h.gg fun k hk e => hf.block k hk e e, hf.new h.be hgs hgs h.be.size⟩
end Go.Proofs.YtmbdnhgmpmnhmaaGreatDoor.S
namespace Go.Proofs.YtmbdnhgmpmnhmaaGreatDoor.S
open Go.RowKit Go.Shelf
def cutR (r : Rl) : Rl := { r with steps := r.steps.take 20 }
def cutP (P : Pb) : Pb := ⟨P.users, P.who.take 20, P.fixed.take 20, (P.rules.take 40).map cutR⟩
theorem take_end {α : Type} {L : List α} {j k : Nat} (hj : j ≤ k) (h : ¬ (j < L.length ∧ j < k)) (hl : j ≤ L.length) : L.take j = L.take k := by
  rcases Nat.lt_or_ge j k with h1 | h1
  · have h2 : j = L.length := by
      rcases Nat.lt_or_ge j L.length with q | q
      · exact absurd ⟨q, h1⟩ h
      · omega
    rw [List.take_of_length_le (by omega), List.take_of_length_le (by omega)]
  · rw [show j = k by omega]
theorem owns_lowT {B B' : Nat} {W : World} {v : Value} {E : List (Rl × Value)} (h : TwS B W v E) (hB : B' ≤ B) : TwS B' W v E := ⟨owns_lowS h.row hB, fun p hp => owns_lowS (h.inner p hp) hB⟩
theorem Rq.fin {w : World} {P : Pb} {wv fv rv : Value} {W : World} {ba bb bc va vb vc : Value} {L1 : List Nat} {L2 : List Int} {E : List (Rl × Value)} (h : Rq w P wv fv rv W ba bb bc va vb vc L1 L2 E) (oa : Option Addr) (na ca : Nat) (ob : Option Addr) (nb cb : Nat) (oc : Option Addr) (nc cc : Nat) :
    let W' := (((W.setCell ⟨w.heap.size + 1, 0, none⟩ (.int .i64 P.users)).setCell ⟨w.heap.size + 1, 1, none⟩ (.slice oa na ca)).setCell ⟨w.heap.size + 1, 2, none⟩ (.slice ob nb cb)).setCell ⟨w.heap.size + 1, 3, none⟩ (.slice oc nc cc)
    W'.ownsRow w.heap.size 27 1 va L1.length (cellsW L1) ∧ W'.ownsRow w.heap.size 3 1 vb L2.length (cellsI L2) ∧ TwS w.heap.size W' vc E ∧ Below w.heap.size w W' := by
  intro W'
  have ss : ∀ {V : World}, TwS (w.heap.size + 3) V vc E → ∀ (o : Nat) (u : Value), TwS (w.heap.size + 3) (V.setCell ⟨w.heap.size + 1, o, none⟩ u) vc E := fun h o u => ⟨own_set h.row (by omega) u, fun p hp => own_set (h.inner p hp) (by omega) u⟩
  refine ⟨owns_lowS (own_set (o := 3) (own_set (o := 2) (own_set (o := 1) (own_set (o := 0) h.r1 (by omega) _) (by omega) _) (by omega) _) (by omega) _) (by omega), owns_lowS (own_set (o := 3) (own_set (o := 2) (own_set (o := 1) (own_set (o := 0) h.r2 (by omega) _) (by omega) _) (by omega) _) (by omega) _) (by omega), owns_lowT (ss (ss (ss (ss h.r3 0 _) 1 _) 2 _) 3 _) (by omega), ?_⟩
  exact (((h.be.setCell (p := ⟨w.heap.size + 1, 0, none⟩) (Nat.le_succ _) _).setCell (p := ⟨w.heap.size + 1, 1, none⟩) (Nat.le_succ _) _).setCell (p := ⟨w.heap.size + 1, 2, none⟩) (Nat.le_succ _) _).setCell (p := ⟨w.heap.size + 1, 3, none⟩) (Nat.le_succ _) _
/-- What is cut is new memory. -/
def CuP (w : World) (P : Pb) (e : Ending) (w' : World) : Prop :=
  ∃ va vb vc E, e = .returned (.agg #[.int .i64 P.users, va, vb, vc]) ∧ Hid (w'.ownsRow w.heap.size 27 1 va (P.who.take 20).length (cellsW (P.who.take 20)) ∧ w'.ownsRow w.heap.size 3 1 vb (P.fixed.take 20).length (cellsI (P.fixed.take 20)) ∧ TwS w.heap.size w' vc E ∧ E.map Prod.fst = (P.rules.take 40).map cutR) ∧ Hid (Below w.heap.size w w')
set_option maxRecDepth 100000 in
set_option maxHeartbeats 8000000 in
theorem cutF (P : Pb) (wv fv rv : Value) (w : World) (h : PbV w P wv fv rv) :
    Calls Tryz.prog 6 #[pbV P wv fv rv] w (CuP w P) := by
  have hs := h.shape
  have h' := hide' h
  obtain ⟨ow, cw, of, cf, or, cr, rfl, rfl, rfl⟩ := hs
  unfold pbV
  have hst := hide' (Rq.start w P (.slice ow P.who.length cw) (.slice of P.fixed.length cf) (.slice or P.rules.length cr))
  clear h
  go_enter Tryz.func6, Tryz.ntmps6
  go_upto_block 0 with fail
  go_cut [4] from 13 to 33 (fun s wx => ∃ va, Hid (Rq w P (.slice ow P.who.length cw) (.slice of P.fixed.length cf) (.slice or P.rules.length cr) wx va (.slice none 0 0) (.slice none 0 0) va (.slice none 0 0) (.slice none 0 0) (P.who.take 20) [] []))
  case first =>
    as_aux_lemma =>
    go_wp2_with fail
    go_loopw [4] (fun p wr => ∃ (j : Nat) (va : Value), j ≤ P.who.length ∧ j ≤ 20 ∧ p = .int .i64 (j : Int) ∧ Hid (Rq w P (.slice ow P.who.length cw) (.slice of P.fixed.length cf) (.slice or P.rules.length cr) wr va (.slice none 0 0) (.slice none 0 0) va (.slice none 0 0) (.slice none 0 0) (P.who.take j) [] [])) (fun p _ => (20 - intOf p).toNat)
    case atStart => exact ⟨0, _, Nat.zero_le _, Nat.zero_le _, rfl, hst⟩
    case round =>
      clear hst
      obtain ⟨j, va, hj, hj20, rfl, hR⟩ := hrel
      have p1 := hR.out.pb.c1
      by_cases hlt : j < P.who.length ∧ j < 20
      · have hlt' : (j : Int) < (P.who.length : Int) := by omega
        have hl2 : (j : Int) < 20 := by omega
        obtain ⟨z, hz⟩ : ∃ z, P.who[j]? = some z := ⟨_, List.getElem?_eq_getElem hlt.1⟩
        obtain ⟨oa1, ca1, e1, _, hcw⟩ := h'.out.who
        cases e1
        obtain ⟨g1, o1, rfl, d1⟩ := hcw j z hz
        have hlen : (P.who.take j).length ≤ 1000 := by rw [List.length_take]; omega
        obtain ⟨oa, ca, rfl⟩ := own_shp hR.out.r1
        have hLa2 : Hid (P.who.take j ++ [z] = P.who.take (j + 1)) := by show _ = _; rw [List.take_add_one, hz]; rfl
        have c1' : Hid (∀ V, Below w.heap.size w V → V.cell? ⟨g1, o1 + j, none⟩ = some (.int .u64 (z : Int))) := fun V hV => M.cell_over d1 hV
        generalize hLa : P.who.take j = La at *
        have hRd := hide' (hR.out.over (Below.refl _ wr).drew)
        have hq1 := hRd.out.qb.c1
        have hq2 : ∀ o, (wr.alloc o).cell? ⟨w.heap.size + 1 + 1, 1, none⟩ = some (.slice oa La.length ca) := fun o => (hRd.out.over ((Below.refl _ wr.drew).alloc (Nat.le_refl _) o)).qb.c1
        have hj0 : ¬ (j : Int) < 0 := by omega
        clear hR h' hLa hz d1 hcw
        go_upto_region 5 with fail
        refine wp_region_held_drew (S := (fun V => V.cell? ⟨w.heap.size, 1, none⟩ = some (.slice (some ⟨g1, o1, none⟩) P.who.length cw) ∧ V.cell? ⟨g1, o1 + j, none⟩ = some (.int .u64 (z : Int)))) (by kernel_rfl) ?_ (fun hHeld => ?_)
        · exact ⟨hRd.out.pb.c1, c1'.out _ hRd.out.be⟩
        refine wpAnyH_take (i := 0) (oi := { dst := some 24, op := Op.fieldAddr 26 (Operand.tmp 3) 1, type := 0, pos := "law.go:16", after := #[], guard := none }) (v := ?_) rfl (by kernel_rfl) (by kernel_rfl) (by kernel_rfl) (fun _ _ _ h => h) (Or.inl ⟨by rfl, ?_⟩) (by assumption) ?_
        rotate_left
        · intro w hSw; (try dsimp only at hSw); go_simp <;> with_reducible rfl
        simp only [Act.put, List.setIfInBounds_toArray, List.set_cons_zero, List.set_cons_succ]
        refine wpAnyH_take (i := 2) (oi := { dst := some 26, op := Op.fieldAddr 26 (Operand.tmp 1) 1, type := 0, pos := "law.go:16", after := #[], guard := none }) (v := ?_) rfl (by kernel_rfl) (by kernel_rfl) (by kernel_rfl) (fun _ _ _ h => h) (Or.inl ⟨by rfl, ?_⟩) (by assumption) ?_
        rotate_left
        · intro w hSw; (try dsimp only at hSw); go_simp <;> with_reducible rfl
        simp only [Act.put, List.setIfInBounds_toArray, List.set_cons_zero, List.set_cons_succ]
        refine wpAnyH_take (i := 3) (oi := { dst := some 27, op := Op.load 22 (Operand.tmp 26), type := 22, pos := "law.go:16", after := #[{ on := 2, ground := Ground.data }], guard := none }) (v := ?_) rfl (by kernel_rfl) (by kernel_rfl) (by kernel_rfl) (fun _ _ _ h => h) (Or.inl ⟨by rfl, ?_⟩) (by assumption) ?_
        rotate_left
        · intro w hSw; (try dsimp only at hSw); go_simp <;> with_reducible rfl
        simp only [Act.put, List.setIfInBounds_toArray, List.set_cons_zero, List.set_cons_succ]
        refine wpAnyH_take (i := 4) (oi := { dst := some 28, op := Op.move (Operand.tmp 4), type := 3, pos := "law.go:16", after := #[], guard := none }) (v := ?_) rfl (by kernel_rfl) (by kernel_rfl) (by kernel_rfl) (fun _ _ _ h => h) (Or.inl ⟨by rfl, ?_⟩) (by assumption) ?_
        rotate_left
        · intro w hSw; (try dsimp only at hSw); go_simp <;> with_reducible rfl
        simp only [Act.put, List.setIfInBounds_toArray, List.set_cons_zero, List.set_cons_succ]
        refine wpAnyH_take (i := 5) (oi := { dst := some 29, op := Op.indexAddr 22 (Operand.tmp 27) (Operand.tmp 28), type := 0, pos := "law.go:16", after := #[{ on := 3, ground := Ground.data }, { on := 4, ground := Ground.data }], guard := none }) (v := ?_) rfl (by kernel_rfl) (by kernel_rfl) (by kernel_rfl) (fun _ _ _ h => h) (Or.inl ⟨by rfl, ?_⟩) (by assumption) ?_
        rotate_left
        · intro w hSw; (try dsimp only at hSw); go_simp <;> with_reducible rfl
        simp only [Act.put, List.setIfInBounds_toArray, List.set_cons_zero, List.set_cons_succ]
        refine wpAnyH_take (i := 6) (oi := { dst := some 30, op := Op.load 27 (Operand.tmp 29), type := 27, pos := "law.go:16", after := #[{ on := 5, ground := Ground.data }], guard := none }) (v := ?_) rfl (by kernel_rfl) (by kernel_rfl) (by kernel_rfl) (fun _ _ _ h => h) (Or.inl ⟨by rfl, ?_⟩) (by assumption) ?_
        rotate_left
        · intro w hSw; (try dsimp only at hSw); go_simp <;> with_reducible rfl
        simp only [Act.put, List.setIfInBounds_toArray, List.set_cons_zero, List.set_cons_succ]
        refine wpAnyH_ready (rs := [1, 7]) (by kernel_rfl) (by simp) ?_
        refine AllReadyH.cons (o := { dst := some 25, op := Op.load 22 (Operand.tmp 24), type := 22, pos := "law.go:16", after := #[{ on := 0, ground := Ground.data }], guard := none }) rfl (fun K hK => ?_) ?_
        · skip
          go_simp
          refine hK.out _ _ ?_ (fun hHeld => ?_)
          · exact ⟨hRd.out.pb.c1, c1'.out _ hRd.out.be⟩
          clear hK K
          try simp only [Act.put, List.setIfInBounds_toArray, List.set_cons_zero, List.set_cons_succ]
          refine wpAnyH_ready (rs := [7]) (by kernel_rfl) (by simp) ?_
          refine AllReadyH.cons (o := { dst := some 31, op := Op.buildSlice 22 1 #[(0, Operand.tmp 30)], type := 22, pos := "law.go:16", after := #[{ on := 6, ground := Ground.data }], guard := none }) rfl (fun K hK => ?_) AllReadyH.nil
          go_simp
          refine hK.out _ _ ?_ (fun hHeld => ?_)
          · exact ⟨(hRd.out.over ((Below.refl _ _).alloc (Nat.le_refl _) _)).pb.c1, c1'.out _ (hRd.out.over ((Below.refl _ _).alloc (Nat.le_refl _) _)).be⟩
          clear hK K
          try simp only [Act.put, List.setIfInBounds_toArray, List.set_cons_zero, List.set_cons_succ]
          refine wpAnyH_ready (rs := [8]) (by kernel_rfl) (by simp) ?_
          refine AllReadyH.cons (o := { dst := some 32, op := Op.call { callee := Callee.builtin Builtin.append, args := #[Operand.tmp 25, Operand.tmp 31], argTypes := #[22, 22] }, type := 22, pos := "law.go:16", after := #[{ on := 1, ground := Ground.data }, { on := 7, ground := Ground.data }], guard := none }) rfl (fun K hK => ?_) AllReadyH.nil
          rw [if_pos (by rfl)]
          refine Rq.wapp1 (.tmp 25) (.tmp 31) hRd.out z rfl rfl rfl (by omega) ?_; intro o5 n5 c5 w2 hRdx; have q2 := hRdx.qb.c1; have f2 := hRdx.qb.frz 1; (try dsimp only)
          refine hK.out _ _ ?_ (fun hHeld => ?_)
          · exact ⟨hRdx.pb.c1, c1'.out _ hRdx.be⟩
          clear hK K
          try simp only [Act.put, List.setIfInBounds_toArray, List.set_cons_zero, List.set_cons_succ]
          refine wpAnyH_take (i := 9) (oi := { dst := some 33, op := Op.fieldAddr 26 (Operand.tmp 3) 1, type := 0, pos := "law.go:16", after := #[{ on := 0, ground := Ground.phase }, { on := 1, ground := Ground.phase }, { on := 2, ground := Ground.phase }, { on := 3, ground := Ground.phase }, { on := 4, ground := Ground.phase }, { on := 5, ground := Ground.phase }, { on := 6, ground := Ground.phase }, { on := 7, ground := Ground.phase }, { on := 8, ground := Ground.phase }], guard := none }) (v := ?_) rfl (by kernel_rfl) (by kernel_rfl) (by kernel_rfl) (fun _ _ _ h => h) (Or.inl ⟨by rfl, ?_⟩) (by assumption) ?_
          rotate_left
          · intro w hSw; (try dsimp only at hSw); go_simp <;> with_reducible rfl
          simp only [Act.put, List.setIfInBounds_toArray, List.set_cons_zero, List.set_cons_succ]
          refine wpAnyH_ready (rs := [10]) (by kernel_rfl) (by simp) ?_
          refine AllReadyH.cons (o := { dst := none, op := Op.store 22 (Operand.tmp 33) (Operand.tmp 32), type := 0, pos := "law.go:16", after := #[{ on := 9, ground := Ground.data }, { on := 8, ground := Ground.data }, { on := 8, ground := Ground.chain }, { on := 0, ground := Ground.phase }, { on := 1, ground := Ground.phase }, { on := 2, ground := Ground.phase }, { on := 3, ground := Ground.phase }, { on := 4, ground := Ground.phase }, { on := 5, ground := Ground.phase }, { on := 6, ground := Ground.phase }, { on := 7, ground := Ground.phase }, { on := 8, ground := Ground.phase }], guard := none }) rfl (fun K hK => ?_) AllReadyH.nil
          go_simp
          refine hK.out _ _ ?_ (fun hHeld => ?_)
          · exact ⟨(hRdx.put (hRdx.qb.s1 (.slice o5 n5 c5))).pb.c1, c1'.out _ (hRdx.put (hRdx.qb.s1 (.slice o5 n5 c5))).be⟩
          clear hK K
          try simp only [Act.put, List.setIfInBounds_toArray, List.set_cons_zero, List.set_cons_succ]
          refine wpAnyH_done (by kernel_rfl) ?_ _
          skip
          have hR9 : Hid (Rq w P (.slice (some ⟨g1, o1, none⟩) P.who.length cw) (.slice of P.fixed.length cf) (.slice or P.rules.length cr) (w2.setCell ⟨w.heap.size + 1 + 1, 1, none⟩ (.slice o5 n5 c5)) (.slice o5 n5 c5) (.slice none 0 0) (.slice none 0 0) (.slice o5 n5 c5) (.slice none 0 0) (.slice none 0 0) (P.who.take (j + 1)) [] []) := by
            have h9 := hRdx.put (hRdx.qb.s1 (.slice o5 n5 c5))
            rw [hLa2.out] at h9
            exact h9
          clear hRdx hRd hLa2 q2 f2 hq1 hq2
          go_wp2
          exact ⟨⟨j + 1, _, by omega, by omega, by go_num, hR9⟩, by simp [intOf]; omega⟩
        refine AllReadyH.cons (o := { dst := some 31, op := Op.buildSlice 22 1 #[(0, Operand.tmp 30)], type := 22, pos := "law.go:16", after := #[{ on := 6, ground := Ground.data }], guard := none }) rfl (fun K hK => ?_) AllReadyH.nil
        go_simp
        refine hK.out _ _ ?_ (fun hHeld => ?_)
        · exact ⟨(hRd.out.over ((Below.refl _ _).alloc (Nat.le_refl _) _)).pb.c1, c1'.out _ (hRd.out.over ((Below.refl _ _).alloc (Nat.le_refl _) _)).be⟩
        clear hK K
        try simp only [Act.put, List.setIfInBounds_toArray, List.set_cons_zero, List.set_cons_succ]
        refine wpAnyH_ready (rs := [1]) (by kernel_rfl) (by simp) ?_
        refine AllReadyH.cons (o := { dst := some 25, op := Op.load 22 (Operand.tmp 24), type := 22, pos := "law.go:16", after := #[{ on := 0, ground := Ground.data }], guard := none }) rfl (fun K hK => ?_) AllReadyH.nil
        go_simp
        refine hK.out _ _ ?_ (fun hHeld => ?_)
        · exact ⟨(hRd.out.over ((Below.refl _ _).alloc (Nat.le_refl _) _)).pb.c1, c1'.out _ (hRd.out.over ((Below.refl _ _).alloc (Nat.le_refl _) _)).be⟩
        clear hK K
        try simp only [Act.put, List.setIfInBounds_toArray, List.set_cons_zero, List.set_cons_succ]
        refine wpAnyH_ready (rs := [8]) (by kernel_rfl) (by simp) ?_
        refine AllReadyH.cons (o := { dst := some 32, op := Op.call { callee := Callee.builtin Builtin.append, args := #[Operand.tmp 25, Operand.tmp 31], argTypes := #[22, 22] }, type := 22, pos := "law.go:16", after := #[{ on := 1, ground := Ground.data }, { on := 7, ground := Ground.data }], guard := none }) rfl (fun K hK => ?_) AllReadyH.nil
        rw [if_pos (by rfl)]
        refine Rq.wapp1 (.tmp 25) (.tmp 31) hRd.out z rfl rfl rfl (by omega) ?_; intro o5 n5 c5 w2 hRdx; have q2 := hRdx.qb.c1; have f2 := hRdx.qb.frz 1; (try dsimp only)
        refine hK.out _ _ ?_ (fun hHeld => ?_)
        · exact ⟨hRdx.pb.c1, c1'.out _ hRdx.be⟩
        clear hK K
        try simp only [Act.put, List.setIfInBounds_toArray, List.set_cons_zero, List.set_cons_succ]
        refine wpAnyH_take (i := 9) (oi := { dst := some 33, op := Op.fieldAddr 26 (Operand.tmp 3) 1, type := 0, pos := "law.go:16", after := #[{ on := 0, ground := Ground.phase }, { on := 1, ground := Ground.phase }, { on := 2, ground := Ground.phase }, { on := 3, ground := Ground.phase }, { on := 4, ground := Ground.phase }, { on := 5, ground := Ground.phase }, { on := 6, ground := Ground.phase }, { on := 7, ground := Ground.phase }, { on := 8, ground := Ground.phase }], guard := none }) (v := ?_) rfl (by kernel_rfl) (by kernel_rfl) (by kernel_rfl) (fun _ _ _ h => h) (Or.inl ⟨by rfl, ?_⟩) (by assumption) ?_
        rotate_left
        · intro w hSw; (try dsimp only at hSw); go_simp <;> with_reducible rfl
        simp only [Act.put, List.setIfInBounds_toArray, List.set_cons_zero, List.set_cons_succ]
        refine wpAnyH_ready (rs := [10]) (by kernel_rfl) (by simp) ?_
        refine AllReadyH.cons (o := { dst := none, op := Op.store 22 (Operand.tmp 33) (Operand.tmp 32), type := 0, pos := "law.go:16", after := #[{ on := 9, ground := Ground.data }, { on := 8, ground := Ground.data }, { on := 8, ground := Ground.chain }, { on := 0, ground := Ground.phase }, { on := 1, ground := Ground.phase }, { on := 2, ground := Ground.phase }, { on := 3, ground := Ground.phase }, { on := 4, ground := Ground.phase }, { on := 5, ground := Ground.phase }, { on := 6, ground := Ground.phase }, { on := 7, ground := Ground.phase }, { on := 8, ground := Ground.phase }], guard := none }) rfl (fun K hK => ?_) AllReadyH.nil
        go_simp
        refine hK.out _ _ ?_ (fun hHeld => ?_)
        · exact ⟨(hRdx.put (hRdx.qb.s1 (.slice o5 n5 c5))).pb.c1, c1'.out _ (hRdx.put (hRdx.qb.s1 (.slice o5 n5 c5))).be⟩
        clear hK K
        try simp only [Act.put, List.setIfInBounds_toArray, List.set_cons_zero, List.set_cons_succ]
        refine wpAnyH_done (by kernel_rfl) ?_ _
        skip
        have hR9 : Hid (Rq w P (.slice (some ⟨g1, o1, none⟩) P.who.length cw) (.slice of P.fixed.length cf) (.slice or P.rules.length cr) (w2.setCell ⟨w.heap.size + 1 + 1, 1, none⟩ (.slice o5 n5 c5)) (.slice o5 n5 c5) (.slice none 0 0) (.slice none 0 0) (.slice o5 n5 c5) (.slice none 0 0) (.slice none 0 0) (P.who.take (j + 1)) [] []) := by
          have h9 := hRdx.put (hRdx.qb.s1 (.slice o5 n5 c5))
          rw [hLa2.out] at h9
          exact h9
        clear hRdx hRd hLa2 q2 f2 hq1 hq2
        go_wp2
        exact ⟨⟨j + 1, _, by omega, by omega, by go_num, hR9⟩, by simp [intOf]; omega⟩
      · have hRe : Hid (Rq w P (.slice ow P.who.length cw) (.slice of P.fixed.length cf) (.slice or P.rules.length cr) wr va (.slice none 0 0) (.slice none 0 0) va (.slice none 0 0) (.slice none 0 0) (P.who.take 20) [] []) := by rw [← take_end hj20 hlt hj]; exact hR
        have hex : ¬ (j : Int) < (P.who.length : Int) ∨ ((j : Int) < (P.who.length : Int) ∧ ¬ (j : Int) < 20) := by omega
        clear hR hlt hj20 hj h'
        rcases hex with hex | ⟨hex, hex2⟩
        all_goals
          go_wp2
          go_meet
          exact ⟨va, hRe⟩
  case rest =>
  obtain ⟨va, hRe⟩ := hcut
  clear hst
  go_upto_block 2 with fail
  go_cut [5] from 34 to 54 (fun s wx => ∃ vb, Hid (Rq w P (.slice ow P.who.length cw) (.slice of P.fixed.length cf) (.slice or P.rules.length cr) wx va vb (.slice none 0 0) va vb (.slice none 0 0) (P.who.take 20) (P.fixed.take 20) []))
  case first =>
    as_aux_lemma =>
    go_wp2_with fail
    go_loopw [5] (fun p wr => ∃ (j : Nat) (vb : Value), j ≤ P.fixed.length ∧ j ≤ 20 ∧ p = .int .i64 (j : Int) ∧ Hid (Rq w P (.slice ow P.who.length cw) (.slice of P.fixed.length cf) (.slice or P.rules.length cr) wr va vb (.slice none 0 0) va vb (.slice none 0 0) (P.who.take 20) (P.fixed.take j) [])) (fun p _ => (20 - intOf p).toNat)
    case atStart => exact ⟨0, _, Nat.zero_le _, Nat.zero_le _, rfl, hRe⟩
    case round =>
      clear hRe
      obtain ⟨j2, vb, hj2, hj20, rfl, hR⟩ := hrel
      have p2 := hR.out.pb.c2
      by_cases hlt : j2 < P.fixed.length ∧ j2 < 20
      · have hlt' : (j2 : Int) < (P.fixed.length : Int) := by omega
        have hl2 : (j2 : Int) < 20 := by omega
        obtain ⟨y, hy⟩ : ∃ y, P.fixed[j2]? = some y := ⟨_, List.getElem?_eq_getElem hlt.1⟩
        obtain ⟨oa2, ca2, e2, _, hcf⟩ := h'.out.fixed
        cases e2
        obtain ⟨g2, o2, rfl, d2⟩ := hcf j2 y hy
        have hlen : (P.fixed.take j2).length ≤ 1000 := by rw [List.length_take]; omega
        obtain ⟨ob, cb, rfl⟩ := own_shp hR.out.r2
        have hLb2 : Hid (P.fixed.take j2 ++ [y] = P.fixed.take (j2 + 1)) := by show _ = _; rw [List.take_add_one, hy]; rfl
        have c2 : Hid (∀ V, Below w.heap.size w V → V.cell? ⟨g2, o2 + j2, none⟩ = some (.int .i64 y)) := fun V hV => M.cell_over d2 hV
        generalize hLb : P.fixed.take j2 = Lb at *
        have hRd := hide' (hR.out.over (Below.refl _ wr).drew)
        have hq1 := hRd.out.qb.c2
        have hq2 : ∀ o, (wr.alloc o).cell? ⟨w.heap.size + 1 + 1, 2, none⟩ = some (.slice ob Lb.length cb) := fun o => (hRd.out.over ((Below.refl _ wr.drew).alloc (Nat.le_refl _) o)).qb.c2
        have hj0 : ¬ (j2 : Int) < 0 := by omega
        clear hR h' hLb hy d2 hcf
        go_upto_region 9 with fail
        refine wp_region_held_drew (S := (fun V => V.cell? ⟨w.heap.size, 2, none⟩ = some (.slice (some ⟨g2, o2, none⟩) P.fixed.length cf) ∧ V.cell? ⟨g2, o2 + j2, none⟩ = some (.int .i64 y))) (by kernel_rfl) ?_ (fun hHeld => ?_)
        · exact ⟨hRd.out.pb.c2, c2.out _ hRd.out.be⟩
        refine wpAnyH_take (i := 0) (oi := { dst := some 45, op := Op.fieldAddr 26 (Operand.tmp 3) 2, type := 0, pos := "law.go:19", after := #[], guard := none }) (v := ?_) rfl (by kernel_rfl) (by kernel_rfl) (by kernel_rfl) (fun _ _ _ h => h) (Or.inl ⟨by rfl, ?_⟩) (by assumption) ?_
        rotate_left
        · intro w hSw; (try dsimp only at hSw); go_simp <;> with_reducible rfl
        simp only [Act.put, List.setIfInBounds_toArray, List.set_cons_zero, List.set_cons_succ]
        refine wpAnyH_take (i := 2) (oi := { dst := some 47, op := Op.fieldAddr 26 (Operand.tmp 1) 2, type := 0, pos := "law.go:19", after := #[], guard := none }) (v := ?_) rfl (by kernel_rfl) (by kernel_rfl) (by kernel_rfl) (fun _ _ _ h => h) (Or.inl ⟨by rfl, ?_⟩) (by assumption) ?_
        rotate_left
        · intro w hSw; (try dsimp only at hSw); go_simp <;> with_reducible rfl
        simp only [Act.put, List.setIfInBounds_toArray, List.set_cons_zero, List.set_cons_succ]
        refine wpAnyH_take (i := 3) (oi := { dst := some 48, op := Op.load 23 (Operand.tmp 47), type := 23, pos := "law.go:19", after := #[{ on := 2, ground := Ground.data }], guard := none }) (v := ?_) rfl (by kernel_rfl) (by kernel_rfl) (by kernel_rfl) (fun _ _ _ h => h) (Or.inl ⟨by rfl, ?_⟩) (by assumption) ?_
        rotate_left
        · intro w hSw; (try dsimp only at hSw); go_simp <;> with_reducible rfl
        simp only [Act.put, List.setIfInBounds_toArray, List.set_cons_zero, List.set_cons_succ]
        refine wpAnyH_take (i := 4) (oi := { dst := some 49, op := Op.move (Operand.tmp 5), type := 3, pos := "law.go:19", after := #[], guard := none }) (v := ?_) rfl (by kernel_rfl) (by kernel_rfl) (by kernel_rfl) (fun _ _ _ h => h) (Or.inl ⟨by rfl, ?_⟩) (by assumption) ?_
        rotate_left
        · intro w hSw; (try dsimp only at hSw); go_simp <;> with_reducible rfl
        simp only [Act.put, List.setIfInBounds_toArray, List.set_cons_zero, List.set_cons_succ]
        refine wpAnyH_take (i := 5) (oi := { dst := some 50, op := Op.indexAddr 23 (Operand.tmp 48) (Operand.tmp 49), type := 0, pos := "law.go:19", after := #[{ on := 3, ground := Ground.data }, { on := 4, ground := Ground.data }], guard := none }) (v := ?_) rfl (by kernel_rfl) (by kernel_rfl) (by kernel_rfl) (fun _ _ _ h => h) (Or.inl ⟨by rfl, ?_⟩) (by assumption) ?_
        rotate_left
        · intro w hSw; (try dsimp only at hSw); go_simp <;> with_reducible rfl
        simp only [Act.put, List.setIfInBounds_toArray, List.set_cons_zero, List.set_cons_succ]
        refine wpAnyH_take (i := 6) (oi := { dst := some 51, op := Op.load 3 (Operand.tmp 50), type := 3, pos := "law.go:19", after := #[{ on := 5, ground := Ground.data }], guard := none }) (v := ?_) rfl (by kernel_rfl) (by kernel_rfl) (by kernel_rfl) (fun _ _ _ h => h) (Or.inl ⟨by rfl, ?_⟩) (by assumption) ?_
        rotate_left
        · intro w hSw; (try dsimp only at hSw); go_simp <;> with_reducible rfl
        simp only [Act.put, List.setIfInBounds_toArray, List.set_cons_zero, List.set_cons_succ]
        refine wpAnyH_ready (rs := [1, 7]) (by kernel_rfl) (by simp) ?_
        refine AllReadyH.cons (o := { dst := some 46, op := Op.load 23 (Operand.tmp 45), type := 23, pos := "law.go:19", after := #[{ on := 0, ground := Ground.data }], guard := none }) rfl (fun K hK => ?_) ?_
        · skip
          go_simp
          refine hK.out _ _ ?_ (fun hHeld => ?_)
          · exact ⟨hRd.out.pb.c2, c2.out _ hRd.out.be⟩
          clear hK K
          try simp only [Act.put, List.setIfInBounds_toArray, List.set_cons_zero, List.set_cons_succ]
          refine wpAnyH_ready (rs := [7]) (by kernel_rfl) (by simp) ?_
          refine AllReadyH.cons (o := { dst := some 52, op := Op.buildSlice 23 1 #[(0, Operand.tmp 51)], type := 23, pos := "law.go:19", after := #[{ on := 6, ground := Ground.data }], guard := none }) rfl (fun K hK => ?_) AllReadyH.nil
          go_simp
          refine hK.out _ _ ?_ (fun hHeld => ?_)
          · exact ⟨(hRd.out.over ((Below.refl _ _).alloc (Nat.le_refl _) _)).pb.c2, c2.out _ (hRd.out.over ((Below.refl _ _).alloc (Nat.le_refl _) _)).be⟩
          clear hK K
          try simp only [Act.put, List.setIfInBounds_toArray, List.set_cons_zero, List.set_cons_succ]
          refine wpAnyH_ready (rs := [8]) (by kernel_rfl) (by simp) ?_
          refine AllReadyH.cons (o := { dst := some 53, op := Op.call { callee := Callee.builtin Builtin.append, args := #[Operand.tmp 46, Operand.tmp 52], argTypes := #[23, 23] }, type := 23, pos := "law.go:19", after := #[{ on := 1, ground := Ground.data }, { on := 7, ground := Ground.data }], guard := none }) rfl (fun K hK => ?_) AllReadyH.nil
          rw [if_pos (by rfl)]
          refine Rq.wapp2 (.tmp 46) (.tmp 52) hRd.out y rfl rfl rfl (by omega) ?_; intro o6 n6 c6 w4 hRdx; have q2 := hRdx.qb.c2; have f2 := hRdx.qb.frz 2; (try dsimp only)
          refine hK.out _ _ ?_ (fun hHeld => ?_)
          · exact ⟨hRdx.pb.c2, c2.out _ hRdx.be⟩
          clear hK K
          try simp only [Act.put, List.setIfInBounds_toArray, List.set_cons_zero, List.set_cons_succ]
          refine wpAnyH_take (i := 9) (oi := { dst := some 54, op := Op.fieldAddr 26 (Operand.tmp 3) 2, type := 0, pos := "law.go:19", after := #[{ on := 0, ground := Ground.phase }, { on := 1, ground := Ground.phase }, { on := 2, ground := Ground.phase }, { on := 3, ground := Ground.phase }, { on := 4, ground := Ground.phase }, { on := 5, ground := Ground.phase }, { on := 6, ground := Ground.phase }, { on := 7, ground := Ground.phase }, { on := 8, ground := Ground.phase }], guard := none }) (v := ?_) rfl (by kernel_rfl) (by kernel_rfl) (by kernel_rfl) (fun _ _ _ h => h) (Or.inl ⟨by rfl, ?_⟩) (by assumption) ?_
          rotate_left
          · intro w hSw; (try dsimp only at hSw); go_simp <;> with_reducible rfl
          simp only [Act.put, List.setIfInBounds_toArray, List.set_cons_zero, List.set_cons_succ]
          refine wpAnyH_ready (rs := [10]) (by kernel_rfl) (by simp) ?_
          refine AllReadyH.cons (o := { dst := none, op := Op.store 23 (Operand.tmp 54) (Operand.tmp 53), type := 0, pos := "law.go:19", after := #[{ on := 9, ground := Ground.data }, { on := 8, ground := Ground.data }, { on := 8, ground := Ground.chain }, { on := 0, ground := Ground.phase }, { on := 1, ground := Ground.phase }, { on := 2, ground := Ground.phase }, { on := 3, ground := Ground.phase }, { on := 4, ground := Ground.phase }, { on := 5, ground := Ground.phase }, { on := 6, ground := Ground.phase }, { on := 7, ground := Ground.phase }, { on := 8, ground := Ground.phase }], guard := none }) rfl (fun K hK => ?_) AllReadyH.nil
          go_simp
          refine hK.out _ _ ?_ (fun hHeld => ?_)
          · exact ⟨(hRdx.put (hRdx.qb.s2 (.slice o6 n6 c6))).pb.c2, c2.out _ (hRdx.put (hRdx.qb.s2 (.slice o6 n6 c6))).be⟩
          clear hK K
          try simp only [Act.put, List.setIfInBounds_toArray, List.set_cons_zero, List.set_cons_succ]
          refine wpAnyH_done (by kernel_rfl) ?_ _
          skip
          have hR9 : Hid (Rq w P (.slice ow P.who.length cw) (.slice (some ⟨g2, o2, none⟩) P.fixed.length cf) (.slice or P.rules.length cr) (w4.setCell ⟨w.heap.size + 1 + 1, 2, none⟩ (.slice o6 n6 c6)) va (.slice o6 n6 c6) (.slice none 0 0) va (.slice o6 n6 c6) (.slice none 0 0) (P.who.take 20) (P.fixed.take (j2 + 1)) []) := by
            have h9 := hRdx.put (hRdx.qb.s2 (.slice o6 n6 c6))
            rw [hLb2.out] at h9
            exact h9
          clear hRdx hRd hLb2 q2 f2 hq1 hq2
          go_wp2
          exact ⟨⟨j2 + 1, _, by omega, by omega, by go_num, hR9⟩, by simp [intOf]; omega⟩
        refine AllReadyH.cons (o := { dst := some 52, op := Op.buildSlice 23 1 #[(0, Operand.tmp 51)], type := 23, pos := "law.go:19", after := #[{ on := 6, ground := Ground.data }], guard := none }) rfl (fun K hK => ?_) AllReadyH.nil
        go_simp
        refine hK.out _ _ ?_ (fun hHeld => ?_)
        · exact ⟨(hRd.out.over ((Below.refl _ _).alloc (Nat.le_refl _) _)).pb.c2, c2.out _ (hRd.out.over ((Below.refl _ _).alloc (Nat.le_refl _) _)).be⟩
        clear hK K
        try simp only [Act.put, List.setIfInBounds_toArray, List.set_cons_zero, List.set_cons_succ]
        refine wpAnyH_ready (rs := [1]) (by kernel_rfl) (by simp) ?_
        refine AllReadyH.cons (o := { dst := some 46, op := Op.load 23 (Operand.tmp 45), type := 23, pos := "law.go:19", after := #[{ on := 0, ground := Ground.data }], guard := none }) rfl (fun K hK => ?_) AllReadyH.nil
        go_simp
        refine hK.out _ _ ?_ (fun hHeld => ?_)
        · exact ⟨(hRd.out.over ((Below.refl _ _).alloc (Nat.le_refl _) _)).pb.c2, c2.out _ (hRd.out.over ((Below.refl _ _).alloc (Nat.le_refl _) _)).be⟩
        clear hK K
        try simp only [Act.put, List.setIfInBounds_toArray, List.set_cons_zero, List.set_cons_succ]
        refine wpAnyH_ready (rs := [8]) (by kernel_rfl) (by simp) ?_
        refine AllReadyH.cons (o := { dst := some 53, op := Op.call { callee := Callee.builtin Builtin.append, args := #[Operand.tmp 46, Operand.tmp 52], argTypes := #[23, 23] }, type := 23, pos := "law.go:19", after := #[{ on := 1, ground := Ground.data }, { on := 7, ground := Ground.data }], guard := none }) rfl (fun K hK => ?_) AllReadyH.nil
        rw [if_pos (by rfl)]
        refine Rq.wapp2 (.tmp 46) (.tmp 52) hRd.out y rfl rfl rfl (by omega) ?_; intro o6 n6 c6 w4 hRdx; have q2 := hRdx.qb.c2; have f2 := hRdx.qb.frz 2; (try dsimp only)
        refine hK.out _ _ ?_ (fun hHeld => ?_)
        · exact ⟨hRdx.pb.c2, c2.out _ hRdx.be⟩
        clear hK K
        try simp only [Act.put, List.setIfInBounds_toArray, List.set_cons_zero, List.set_cons_succ]
        refine wpAnyH_take (i := 9) (oi := { dst := some 54, op := Op.fieldAddr 26 (Operand.tmp 3) 2, type := 0, pos := "law.go:19", after := #[{ on := 0, ground := Ground.phase }, { on := 1, ground := Ground.phase }, { on := 2, ground := Ground.phase }, { on := 3, ground := Ground.phase }, { on := 4, ground := Ground.phase }, { on := 5, ground := Ground.phase }, { on := 6, ground := Ground.phase }, { on := 7, ground := Ground.phase }, { on := 8, ground := Ground.phase }], guard := none }) (v := ?_) rfl (by kernel_rfl) (by kernel_rfl) (by kernel_rfl) (fun _ _ _ h => h) (Or.inl ⟨by rfl, ?_⟩) (by assumption) ?_
        rotate_left
        · intro w hSw; (try dsimp only at hSw); go_simp <;> with_reducible rfl
        simp only [Act.put, List.setIfInBounds_toArray, List.set_cons_zero, List.set_cons_succ]
        refine wpAnyH_ready (rs := [10]) (by kernel_rfl) (by simp) ?_
        refine AllReadyH.cons (o := { dst := none, op := Op.store 23 (Operand.tmp 54) (Operand.tmp 53), type := 0, pos := "law.go:19", after := #[{ on := 9, ground := Ground.data }, { on := 8, ground := Ground.data }, { on := 8, ground := Ground.chain }, { on := 0, ground := Ground.phase }, { on := 1, ground := Ground.phase }, { on := 2, ground := Ground.phase }, { on := 3, ground := Ground.phase }, { on := 4, ground := Ground.phase }, { on := 5, ground := Ground.phase }, { on := 6, ground := Ground.phase }, { on := 7, ground := Ground.phase }, { on := 8, ground := Ground.phase }], guard := none }) rfl (fun K hK => ?_) AllReadyH.nil
        go_simp
        refine hK.out _ _ ?_ (fun hHeld => ?_)
        · exact ⟨(hRdx.put (hRdx.qb.s2 (.slice o6 n6 c6))).pb.c2, c2.out _ (hRdx.put (hRdx.qb.s2 (.slice o6 n6 c6))).be⟩
        clear hK K
        try simp only [Act.put, List.setIfInBounds_toArray, List.set_cons_zero, List.set_cons_succ]
        refine wpAnyH_done (by kernel_rfl) ?_ _
        skip
        have hR9 : Hid (Rq w P (.slice ow P.who.length cw) (.slice (some ⟨g2, o2, none⟩) P.fixed.length cf) (.slice or P.rules.length cr) (w4.setCell ⟨w.heap.size + 1 + 1, 2, none⟩ (.slice o6 n6 c6)) va (.slice o6 n6 c6) (.slice none 0 0) va (.slice o6 n6 c6) (.slice none 0 0) (P.who.take 20) (P.fixed.take (j2 + 1)) []) := by
          have h9 := hRdx.put (hRdx.qb.s2 (.slice o6 n6 c6))
          rw [hLb2.out] at h9
          exact h9
        clear hRdx hRd hLb2 q2 f2 hq1 hq2
        go_wp2
        exact ⟨⟨j2 + 1, _, by omega, by omega, by go_num, hR9⟩, by simp [intOf]; omega⟩
      · have hRe : Hid (Rq w P (.slice ow P.who.length cw) (.slice of P.fixed.length cf) (.slice or P.rules.length cr) wr va vb (.slice none 0 0) va vb (.slice none 0 0) (P.who.take 20) (P.fixed.take 20) []) := by rw [← take_end hj20 hlt hj2]; exact hR
        have hex : ¬ (j2 : Int) < (P.fixed.length : Int) ∨ ((j2 : Int) < (P.fixed.length : Int) ∧ ¬ (j2 : Int) < 20) := by omega
        clear hR hlt hj20 hj2 h'
        rcases hex with hex | ⟨hex, hex2⟩
        all_goals
          go_wp2
          go_meet
          exact ⟨vb, hRe⟩
  case rest =>
  obtain ⟨vb, hRe0⟩ := hcut
  clear hRe
  have hRe := hRe0
  clear hRe0
  go_wp2
  go_loopw [6, 7, 8, 9] (fun p _ _ _ wr => ∃ (j : Nat) (E : List (Rl × Value)) (vc : Value), j ≤ P.rules.length ∧ j ≤ 40 ∧ p = .int .i64 (j : Int) ∧ Hid (E.map Prod.fst = (P.rules.take j).map cutR) ∧ Hid (Rq w P (.slice ow P.who.length cw) (.slice of P.fixed.length cf) (.slice or P.rules.length cr) wr va vb vc va vb vc (P.who.take 20) (P.fixed.take 20) E)) (fun p _ _ _ _ => (40 - intOf p).toNat)
  case atStart => exact ⟨0, [], _, Nat.zero_le _, Nat.zero_le _, rfl, rfl, hRe⟩
  case round =>
    clear hRe
    obtain ⟨j3, E, vc, hj3, hj40, rfl, hE, hR⟩ := hrel
    have p3 := hR.out.pb.c3
    by_cases hlt : j3 < P.rules.length ∧ j3 < 40
    · have hlt' : (j3 : Int) < (P.rules.length : Int) := by omega
      have hl2 : (j3 : Int) < 40 := by omega
      obtain ⟨r, hx⟩ : ∃ r, P.rules[j3]? = some r := ⟨_, List.getElem?_eq_getElem hlt.1⟩
      obtain ⟨oa3, ca3, e3, _, hcr⟩ := h'.out.rules
      cases e3
      obtain ⟨g, o, sv, rfl, d1, d2, d3, d4⟩ := hcr j3 r hx
      have e1 := M.cell_over d1 hR.out.be
      have e2 := M.cell_over d2 hR.out.be
      have e3 := M.cell_over d3 hR.out.be
      have hEl : E.length ≤ 1000 := by
        have := congrArg List.length hE.out
        rw [List.length_map, List.length_map, List.length_take] at this
        omega
      have hE2 : Hid (∀ v : Value, (E ++ [(cutR r, v)]).map Prod.fst = (P.rules.take (j3 + 1)).map cutR) := fun v => by rw [List.map_append, hE.out, List.take_add_one, hx]; simp
      have hbx : Hid (Below wr.heap.size wr (wr.alloc (.cells #[.int .i64 r.kind, .int .i64 r.k, sv] 46))) := (Below.refl _ wr).alloc (Nat.le_refl _) _
      have hnb : Hid ((wr.alloc (.cells #[.int .i64 r.kind, .int .i64 r.k, sv] 46)).heap[wr.heap.size]? = some (.cells #[.int .i64 r.kind, .int .i64 r.k, sv] 46 (0, 0))) := heap_new wr _
      have hRb := hide' (hR.out.over hbx.out)
      have hd4 := hide' (d4.below hRb.out.be (Nat.le_refl _))
      obtain ⟨osv, csv, rfl⟩ : ∃ a c, sv = .slice a r.steps.length c := by obtain ⟨a, c, e, _⟩ := d4; exact ⟨a, c, e⟩
      have hwz : w.heap.size + 3 ≤ wr.heap.size := hR.out.sz
      have hbz : wr.heap.size < (wr.alloc (.cells #[.int .i64 r.kind, .int .i64 r.k, .slice osv r.steps.length csv] 46)).heap.size := by simp
      have hbz' := hide' hbz
      clear d1 d2 d3 d4 hx hE hcr hR hbx hbz h'
      go_upto_block 6 with fail
      clear e1 e2 e3 p3
      generalize wr.alloc (.cells #[.int .i64 r.kind, .int .i64 r.k, .slice osv r.steps.length csv] 46) = Wb at *
      generalize wr.heap.size = wr0 at *
      go_cut [8, 9] from 71 to 89 (fun s _ wx => Hid (wx.ownsRow Wb.heap.size 3 1 s (r.steps.take 20).length (cellsI (r.steps.take 20))) ∧ Hid (Below Wb.heap.size Wb wx))
      case first =>
        as_aux_lemma =>
        go_wp2_with fail
        go_loopw [8, 9] (fun s p wi => ∃ (k : Nat), k ≤ r.steps.length ∧ k ≤ 20 ∧ p = .int .i64 (k : Int) ∧ Hid (wi.ownsRow Wb.heap.size 3 1 s (r.steps.take k).length (cellsI (r.steps.take k))) ∧ Hid (Below Wb.heap.size Wb wi)) (fun _ p _ => (20 - intOf p).toNat)
        case atStart => exact ⟨0, Nat.zero_le _, Nat.zero_le _, rfl, World.ownsRow_nil _ _ _ _, Below.refl _ _⟩
        case round =>
          obtain ⟨k, hk, hk20, rfl, hO, hB⟩ := hrel
          have hb6 : Hid (wr.heap[wr0]? = some (.cells #[.int .i64 r.kind, .int .i64 r.k, .slice osv r.steps.length csv] 46 (0, 0))) := (hB.out.block _ hbz'.out).trans hnb.out
          have k0 : wr.cell? ⟨wr0, 0, none⟩ = some (.int .i64 r.kind) := by have := hb6.out; simp [World.cell?, this]
          have k1 : wr.cell? ⟨wr0, 1, none⟩ = some (.int .i64 r.k) := by have := hb6.out; simp [World.cell?, this]
          have k2 : wr.cell? ⟨wr0, 2, none⟩ = some (.slice osv r.steps.length csv) := by have := hb6.out; simp [World.cell?, this]
          obtain ⟨os8, ns8, cs8, rfl⟩ : ∃ a b c, u8 = .slice a b c := by obtain ⟨a, c, e⟩ := own_shp hO.out; exact ⟨a, _, c, e⟩
          by_cases hlt2 : k < r.steps.length ∧ k < 20
          · have hlt3 : (k : Int) < (r.steps.length : Int) := by omega
            have hl4 : (k : Int) < 20 := by omega
            obtain ⟨z, hz⟩ : ∃ z, r.steps[k]? = some z := ⟨_, List.getElem?_eq_getElem hlt2.1⟩
            obtain ⟨oa8, ca8, e8, _, hcs⟩ := hd4.out
            injection e8 with e8a e8b e8c
            subst e8a
            subst e8c
            obtain ⟨g8, o8, rfl, d8⟩ := hcs k z hz
            have c8 := M.cell_over d8 hB.out
            have hlen : (r.steps.take k).length ≤ 1000 := by rw [List.length_take]; omega
            have hL2 : Hid (r.steps.take k ++ [z] = r.steps.take (k + 1)) := by show _ = _; rw [List.take_add_one, hz]; rfl
            have hBs := hB.out.size
            clear hz d8 hcs e8b hRb hE2 hb6 k0 k1
            generalize r.steps.take k = Ls at *
            go_wp2_with (at_builtin; refine app_intL rfl (.tmp 82) (.tmp 88) Wb.heap.size wr (.slice os8 ns8 cs8) Ls z rfl rfl rfl hO.out hBs (by omega) ?_; intro v2 w2 hO2 hb2; have hO3 := hide' hO2; have hB3 : Hid (Below Wb.heap.size Wb w2) := hB.out.trans hb2; clear hO2 hb2)
            rw [hL2.out] at hO3
            exact ⟨⟨k + 1, by omega, by omega, by go_num, hO3, hB3⟩, by simp [intOf]; omega⟩
          · have hOe : Hid (wr.ownsRow Wb.heap.size 3 1 (.slice os8 ns8 cs8) (r.steps.take 20).length (cellsI (r.steps.take 20))) := by rw [← take_end hk20 hlt2 hk]; exact hO
            have hex : ¬ (k : Int) < (r.steps.length : Int) ∨ ((k : Int) < (r.steps.length : Int) ∧ ¬ (k : Int) < 20) := by omega
            clear hO hlt2 hk20 hk hRb hnb hb6 hd4
            rcases hex with hex | ⟨hex, hex2⟩
            all_goals
              go_wp2
              go_meet
              exact ⟨hOe, hB⟩
      case rest =>
      obtain ⟨hOe, hB⟩ := hcut
      have hb6 : Hid (wc.heap[wr0]? = some (.cells #[.int .i64 r.kind, .int .i64 r.k, .slice osv r.steps.length csv] 46 (0, 0))) := (hB.out.block _ hbz'.out).trans hnb.out
      have k0 : wc.cell? ⟨wr0, 0, none⟩ = some (.int .i64 r.kind) := by have := hb6.out; simp [World.cell?, this]
      have k1 : wc.cell? ⟨wr0, 1, none⟩ = some (.int .i64 r.k) := by have := hb6.out; simp [World.cell?, this]
      obtain ⟨os8, ns8, cs8, hu8⟩ : ∃ a b c, u8 = .slice a b c := by obtain ⟨a, c, e⟩ := own_shp hOe.out; exact ⟨a, _, c, e⟩
      subst hu8
      have hRi := hide' (hRb.out.over hB.out)
      have hown : Hid (wc.ownsRow (w.heap.size + 3) 3 1 ((cutR r, .slice os8 ns8 cs8) : Rl × Value).2 ((cutR r, .slice os8 ns8 cs8) : Rl × Value).1.steps.length (cellsI ((cutR r, .slice os8 ns8 cs8) : Rl × Value).1.steps)) := owns_lowS hOe.out (by have := hbz'.out; omega)
      have l3 := hRi.out.qb.c3
      obtain ⟨ovc, nvc, cvc, rfl⟩ : ∃ a b c, vc = .slice a b c := by obtain ⟨a, c, e⟩ := own_shp hRi.out.r3.row; exact ⟨a, _, c, e⟩
      clear hOe hB hRb hnb hb6 hd4
      go_wp2_with (at_builtin; refine Rq.app3 rfl (.tmp 91) (.tmp 98) hRi.out (cutR r, .slice os8 ns8 cs8) rfl rfl rfl hown.out (by omega) ?_; intro o5 n5 c5 w2 hR2; have hf2 := hR2.qb.frz 3; have hc2 := hR2.qb.c3; have hR3 := hide' (hR2.put (hR2.qb.s3 (.slice o5 n5 c5))); clear hR2)
      exact ⟨⟨j3 + 1, _, _, by omega, by omega, by go_num, hE2.out _, hR3⟩, by simp [intOf]; omega⟩
    · have hex : ¬ (j3 : Int) < (P.rules.length : Int) ∨ ((j3 : Int) < (P.rules.length : Int) ∧ ¬ (j3 : Int) < 40) := by omega
      have hEe : Hid (E.map Prod.fst = (P.rules.take 40).map cutR) := by rw [← take_end hj40 hlt hj3]; exact hE
      obtain ⟨oa, ca, ea⟩ := own_shp hR.out.r1
      obtain ⟨ob, cb, eb⟩ := own_shp hR.out.r2
      obtain ⟨oc, cc, ec⟩ := own_shp hR.out.r3.row
      obtain ⟨na, hna⟩ : ∃ x, x = (P.who.take 20).length := ⟨_, rfl⟩
      obtain ⟨nb, hnb⟩ : ∃ x, x = (P.fixed.take 20).length := ⟨_, rfl⟩
      obtain ⟨nc, hnc⟩ : ∃ x, x = E.length := ⟨_, rfl⟩
      rw [← hna] at ea
      rw [← hnb] at eb
      rw [← hnc] at ec
      subst ea eb ec
      have q0 := hR.out.qb.c0
      have q1 := hR.out.qb.c1
      have q2 := hR.out.qb.c2
      have q3 := hR.out.qb.c3
      have z0 := hR.out.zb.frz 0
      have y0 := hR.out.zb.c0
      have z1 := World.rowIs.frozen (World.rowIs.set hR.out.zb 0 (.int .i64 P.users)) 1
      have y1 := World.rowIs.cell (World.rowIs.set hR.out.zb 0 (.int .i64 P.users)) (i := 1) (by decide)
      have z2 := World.rowIs.frozen (World.rowIs.set (World.rowIs.set hR.out.zb 0 (.int .i64 P.users)) 1 (.slice oa na ca)) 2
      have y2 := World.rowIs.cell (World.rowIs.set (World.rowIs.set hR.out.zb 0 (.int .i64 P.users)) 1 (.slice oa na ca)) (i := 2) (by decide)
      have z3 := World.rowIs.frozen (World.rowIs.set (World.rowIs.set (World.rowIs.set hR.out.zb 0 (.int .i64 P.users)) 1 (.slice oa na ca)) 2 (.slice ob nb cb)) 3
      have y3 := World.rowIs.cell (World.rowIs.set (World.rowIs.set (World.rowIs.set hR.out.zb 0 (.int .i64 P.users)) 1 (.slice oa na ca)) 2 (.slice ob nb cb)) (i := 3) (by decide)
      have hX := World.rowIs.set (World.rowIs.set (World.rowIs.set (World.rowIs.set hR.out.zb 0 (.int .i64 P.users)) 1 (.slice oa na ca)) 2 (.slice ob nb cb)) 3 (.slice oc nc cc)
      have x0 := World.rowIs.cell hX (i := 0) (by decide)
      have x1 := World.rowIs.cell hX (i := 1) (by decide)
      have x2 := World.rowIs.cell hX (i := 2) (by decide)
      have x3 := World.rowIs.cell hX (i := 3) (by decide)
      simp [qF] at y1 y2 y3 x0 x1 x2 x3
      have hfin := hide' (Rq.fin hR.out oa na ca ob nb cb oc nc cc)
      clear hX hR hE hna hnb hnc hlt hj40 hj3
      rcases hex with hex | ⟨hex, hex2⟩
      all_goals
        go_wp2
        refine bodyPost_ret (v := .agg #[.int .i64 P.users, .slice oa na ca, .slice ob nb cb, .slice oc nc cc]) (by simp [results, Tryz.results6, go_sem, x0, x1, x2, x3]) rfl ?_
        exact ⟨_, _, _, E, rfl, ⟨hfin.out.1, hfin.out.2.1, hfin.out.2.2.1, hEe.out⟩, hfin.out.2.2.2⟩
end Go.Proofs.YtmbdnhgmpmnhmaaGreatDoor.S
namespace Go.Proofs.YtmbdnhgmpmnhmaaGreatDoor.S
open Go.RowKit Go.Shelf
theorem cutR_cut (r : Rl) : cutR (cutR r) = cutR r := by
  unfold cutR
  simp [List.take_take]
theorem cutP_cut (P : Pb) : cutP (cutP P) = cutP P := by
  unfold cutP
  simp only [List.take_take, Nat.min_self, ← List.map_take, List.map_map]
  congr 1
  exact List.map_congr_left fun r _ => cutR_cut r
theorem cutP_ok {P : Pb} (hb : ∀ z ∈ P.who, z < 18446744073709551616) : Pok (cutP P) :=
  ⟨by show (P.who.take 20).length ≤ 1000; rw [List.length_take]; omega, by show (P.fixed.take 20).length ≤ 1000; rw [List.length_take]; omega,
    by show ((P.rules.take 40).map cutR).length ≤ 1000; rw [List.length_map, List.length_take]; omega,
    fun r hr => by
      obtain ⟨q, _, rfl⟩ := List.mem_map.1 (show r ∈ (P.rules.take 40).map cutR from hr)
      show (q.steps.take 20).length ≤ 1000
      rw [List.length_take]; omega,
    fun z hz => hb z (List.mem_of_mem_take (show z ∈ P.who.take 20 from hz))⟩
/-- Cut, as the laws use it. -/
theorem cutA (P : Pb) (wv fv rv : Value) (w : World) (h : PbV w P wv fv rv) :
    Calls Tryz.prog 6 #[pbV P wv fv rv] w fun e w' => ∃ va vb vc, e = .returned (pbV (cutP P) va vb vc) ∧ Hid (PbV w' (cutP P) va vb vc) ∧ Hid (Below w.heap.size w w') := by
  refine (cutF P wv fv rv w h).mono ?_
  rintro e w' ⟨va, vb, vc, E, rfl, hO, hB⟩
  obtain ⟨o1, o2, o3, o4⟩ := hO.out
  refine ⟨va, vb, vc, rfl, ⟨RowW.of_owns o1, RowI.of_owns o2, ?_⟩, hB⟩
  have := o3.rowR
  rw [o4] at this
  exact this
/-- Cut of what was cut. -/
theorem cutB (P : Pb) (wv fv rv : Value) (w : World) (h : PbV w (cutP P) wv fv rv) :
    Calls Tryz.prog 6 #[pbV (cutP P) wv fv rv] w fun e w' => ∃ va vb vc, e = .returned (pbV (cutP P) va vb vc) ∧ Hid (PbV w' (cutP P) va vb vc) ∧ Hid (Below w.heap.size w w') := by
  have := cutA (cutP P) wv fv rv w h
  rw [cutP_cut] at this
  exact this
end Go.Proofs.YtmbdnhgmpmnhmaaGreatDoor.S
namespace Go.Proofs.YtmbdnhgmpmnhmaaGreatDoor.S
open Go.RowKit Go.Shelf
/-- A box of one value. -/
def Bo (W : World) (g : Nat) (v : Value) : Prop := ∃ T, W.heap[g]? = some (.cells #[v] T (0, 0))
section
variable {W W' : World} {g : Nat} {v : Value}
theorem Bo.lt (h : Bo W g v) : g < W.heap.size := by obtain ⟨T, h⟩ := h; exact (Array.getElem?_eq_some_iff.1 h).1
theorem Bo.c (h : Bo W g v) : W.cell? ⟨g, 0, none⟩ = some v := by obtain ⟨T, h⟩ := h; simp [World.cell?, h]
theorem Bo.fz (h : Bo W g v) : W.frozen? ⟨g, 0, none⟩ = false := by obtain ⟨T, h⟩ := h; simp [World.frozen?, h]
theorem Bo.of (h : Bo W g v) (e : W'.heap[g]? = W.heap[g]?) : Bo W' g v := by obtain ⟨T, h⟩ := h; exact ⟨T, e.trans h⟩
theorem Bo.over (h : Bo W g v) (hb : Below W.heap.size W W') : Bo W' g v := h.of (hb.block g h.lt)
theorem Bo.new (W : World) (v : Value) (T : TypeId) : Bo (W.alloc (.cells #[v] T)) W.heap.size v := ⟨T, World.alloc_heap_new W _⟩
theorem Bo.set (h : Bo W g v) (u : Value) : Bo (W.setCell ⟨g, 0, none⟩ u) g u := by
  obtain ⟨T, h⟩ := h
  exact ⟨T, heap_setCell_same W g 0 #[v] T u h⟩
end
def ruW (k1 k2 : Int) (u : Value) : Nat → Value := fun i => if i = 0 then .int .i64 k1 else if i = 1 then .int .i64 k2 else u
theorem Fq.fin {w : World} {P : Pb} {wv fv rv : Value} {gq : Nat} {W : World} {u : Int} {a b c va vb vc : Value} {L1 : List Nat} {L2 : List Int} {E : List (Rl × Value)} (h : Fq w P wv fv rv gq W u a b c va vb vc L1 L2 E) (x0 x1 x2 x3 : Value) :
    let W' := (((W.setCell ⟨w.heap.size + 1, 0, none⟩ x0).setCell ⟨w.heap.size + 1, 1, none⟩ x1).setCell ⟨w.heap.size + 1, 2, none⟩ x2).setCell ⟨w.heap.size + 1, 3, none⟩ x3
    PbV W' ⟨u, L1, L2, E.map Prod.fst⟩ va vb vc ∧ Below w.heap.size w W' ∧ (∀ ad n c, va = .slice (some ad) n c → w.heap.size ≤ ad.block) ∧ (∀ W2 : World, (∀ k, w.heap.size ≤ k → k < W'.heap.size → W2.heap[k]? = W'.heap[k]?) → PbV W2 ⟨u, L1, L2, E.map Prod.fst⟩ va vb vc) := by
  intro W'
  have hb : Below w.heap.size W W' := ((((Below.refl _ W).setCell (p := ⟨w.heap.size + 1, 0, none⟩) (Nat.le_succ _) x0).setCell (p := ⟨w.heap.size + 1, 1, none⟩) (Nat.le_succ _) x1).setCell (p := ⟨w.heap.size + 1, 2, none⟩) (Nat.le_succ _) x2).setCell (p := ⟨w.heap.size + 1, 3, none⟩) (Nat.le_succ _) x3
  have s4 : ∀ {B e sz : Nat} {v : Value} {n : Nat} {xs : List Value}, W.ownsRow B e sz v n xs → w.heap.size + 1 < B → W'.ownsRow B e sz v n xs := fun h hB => own_set (own_set (own_set (own_set h hB x0) hB x1) hB x2) hB x3
  refine ⟨⟨RowW.of_owns (s4 h.r1 (by omega)), RowI.of_owns (s4 h.r2 (by omega)), ?_⟩, h.be.trans hb, fun ad n c e => ?_, fun W2 hk => ?_⟩
  · have hT : TwS (w.heap.size + 2) W' vc E := ⟨s4 h.r3.row (by omega), fun p hp => s4 (h.r3.inner p hp) (by omega)⟩
    exact hT.rowR
  · have := own_ge' h.r1 (g := ad.block) (by rw [e]; rfl)
    omega
  · have s5 : ∀ {e sz : Nat} {v : Value} {n : Nat} {xs : List Value}, W.ownsRow (w.heap.size + 2) e sz v n xs → W2.ownsRow (w.heap.size + 2) e sz v n xs := fun h => own_same (s4 h (by omega)) fun g hg1 hg2 => hk g (by have := own_ge' h hg2; omega) hg1
    have hT : TwS (w.heap.size + 2) W2 vc E := ⟨s5 h.r3.row, fun p hp => s5 (h.r3.inner p hp)⟩
    exact ⟨RowW.of_owns (s5 h.r1), RowI.of_owns (s5 h.r2), hT.rowR⟩
/-- What it answers. -/
def RsP (w : World) (X : Pb) (e : Ending) (w' : World) : Prop :=
  ∃ o1 n1 c1 o2 n2 c2 o3 n3 c3, e = .returned (.agg #[.int .i64 X.users, .slice o1 n1 c1, .slice o2 n2 c2, .slice o3 n3 c3]) ∧ Hid (PbV w' X (.slice o1 n1 c1) (.slice o2 n2 c2) (.slice o3 n3 c3)) ∧ Hid (Below w.heap.size w w') ∧ Hid (∀ ad n c, Value.slice o1 n1 c1 = .slice (some ad) n c → w.heap.size ≤ ad.block) ∧ Hid (∀ W2 : World, (∀ k, w.heap.size ≤ k → k < w'.heap.size → W2.heap[k]? = w'.heap[k]?) → PbV W2 X (.slice o1 n1 c1) (.slice o2 n2 c2) (.slice o3 n3 c3))
def WtP (w : World) (X : Pb) (N : Nat) (e : Ending) (w' : World) : Prop :=
  ∃ o1 n1 c1 o2 n2 c2 o3 n3 c3, e = .returned (.tuple #[.agg #[.int .i64 X.users, .slice o1 n1 c1, .slice o2 n2 c2, .slice o3 n3 c3], .int .i64 (N : Int)]) ∧ Hid (PbV w' X (.slice o1 n1 c1) (.slice o2 n2 c2) (.slice o3 n3 c3)) ∧ Hid (Below w.heap.size w w') ∧ Hid (∀ ad n c, Value.slice o1 n1 c1 = .slice (some ad) n c → w.heap.size ≤ ad.block) ∧ Hid (∀ W2 : World, (∀ k, w.heap.size ≤ k → k < w'.heap.size → W2.heap[k]? = w'.heap[k]?) → PbV W2 X (.slice o1 n1 c1) (.slice o2 n2 c2) (.slice o3 n3 c3))
theorem nil_pvC (W : World) : PbV W ⟨0, [], [], []⟩ (.slice none 0 0) (.slice none 0 0) (.slice none 0 0) :=
  ⟨⟨none, 0, rfl, ⟨Nat.le_refl _, fun _ => rfl⟩, fun i z hz => by cases hz⟩, ⟨none, 0, rfl, ⟨Nat.le_refl _, fun _ => rfl⟩, fun i z hz => by cases hz⟩, ⟨none, 0, rfl, ⟨Nat.le_refl _, fun _ => rfl⟩, fun i z hz => by cases hz⟩⟩
theorem Fp.resC {w : World} {P : Pb} {wv fv rv : Value} {V : World} {va vb : Value} {L1 : List Nat} {L2 : List Int} (h : Fp w P wv fv rv V va vb L1 L2) (x0 x1 x2 x3 : Value) : Below w.heap.size w ((((V.setCell ⟨w.heap.size + 1, 0, none⟩ x0).setCell ⟨w.heap.size + 1, 1, none⟩ x1).setCell ⟨w.heap.size + 1, 2, none⟩ x2).setCell ⟨w.heap.size + 1, 3, none⟩ x3) :=
  h.be.trans (((((Below.refl _ V).setCell (p := ⟨w.heap.size + 1, 0, none⟩) (Nat.le_succ _) x0).setCell (p := ⟨w.heap.size + 1, 1, none⟩) (Nat.le_succ _) x1).setCell (p := ⟨w.heap.size + 1, 2, none⟩) (Nat.le_succ _) x2).setCell (p := ⟨w.heap.size + 1, 3, none⟩) (Nat.le_succ _) x3)
end Go.Proofs.YtmbdnhgmpmnhmaaGreatDoor.S
namespace Go.Proofs.YtmbdnhgmpmnhmaaGreatDoor.S
open Go.RowKit Go.Shelf
set_option maxRecDepth 100000 in
set_option maxHeartbeats 2000000 in
theorem rMayF (P : Pb) (wv fv rv : Value) (t : Nat) (x : Int) (w : World) (h : PbV w P wv fv rv) (hP : chkN P = 0) (ht : t < P.who.length) (hw : ∀ z ∈ P.who, z < 18446744073709551616) :
    Calls Tryz.prog 104 #[pbV P wv fv rv, .int .i64 (t : Int), .int .i64 x] w fun e w' => e = .returned (.bool (okU P t x)) ∧ Below w.heap.size w w' := by
  obtain ⟨h12, hU0, hU, _, hfx, hwo, _⟩ := chkN_zero hP
  obtain ⟨hfl, hx⟩ := fixB_of hfx hU
  obtain ⟨ow, cw, rfl, _, hcw⟩ := h.who
  obtain ⟨of, cf, rfl, _, hcf⟩ := h.fixed
  obtain ⟨z, hz⟩ : ∃ z, P.who[t]? = some z := ⟨_, List.getElem?_eq_getElem ht⟩
  obtain ⟨y, hy⟩ : ∃ y, P.fixed[t]? = some y := ⟨_, List.getElem?_eq_getElem (by omega)⟩
  have hyu : y = -1 ∨ (0 ≤ y ∧ y < P.users) := by
    unfold fixB at hfx
    rw [Bool.and_eq_true, List.all_eq_true] at hfx
    have := hfx.1 y (List.mem_of_getElem? hy)
    unfold isU at this
    simp only [Bool.or_eq_true, Bool.and_eq_true, decide_eq_true_eq] at this
    exact this
  obtain ⟨g1, o1, rfl, c1⟩ := hcw t z hz
  obtain ⟨g2, o2, rfl, c2⟩ := hcf t y hy
  obtain ⟨or, cr, rfl⟩ : ∃ a b, rv = .slice a P.rules.length b := by obtain ⟨a, b, e, _⟩ := h.rules; exact ⟨a, b, e⟩
  have hzl := hw z (List.mem_of_getElem? hz)
  have hB : Hid (Below w.heap.size w (w.alloc (.cells #[.int .i64 P.users, .slice (some ⟨g1, o1, none⟩) P.who.length cw, .slice (some ⟨g2, o2, none⟩) P.fixed.length cf, .slice or P.rules.length cr] 26))) := (Below.refl _ w).alloc (Nat.le_refl _) _
  have d1 := M.cell_over c1 hB.out
  have d2 := M.cell_over c2 hB.out
  have hwI : (t : Int) < (P.who.length : Int) := by omega
  have hfI : (t : Int) < (P.fixed.length : Int) := by omega
  have ht0 : ¬ (t : Int) < 0 := by omega
  have hm : mayP P t = if y = -1 then z else 2 ^ y.toNat := by
    unfold mayP
    simp [List.getD_eq_getElem?_getD, hz, hy]
  unfold pbV
  clear h hx hcw hcf hz hy hw hfl hfx hwo hP
  by_cases he : y = -1
  · subst he
    rw [if_pos rfl] at hm
    by_cases h0 : 0 ≤ x
    · by_cases h1 : x < P.users
      · obtain ⟨u, rfl⟩ : ∃ u : Nat, x = (u : Int) := ⟨x.toNat, by omega⟩
        have hu64 : u < 64 := by omega
        have hans : Hid (okU P t (u : Int) = z.testBit u) := by
          show _ = _
          unfold okU isU
          rw [hm, decide_eq_true h0, decide_eq_true h1, Int.toNat_natCast]; rfl
        rw [hans.out]
        cases hb : z.testBit u with
        | true =>
          have hsh := M.shr_bitT hzl hb
          clear hm hyu hans
          go_enter Tryz.func104, Tryz.ntmps104
          go_wp2
          go_ret
          exact ⟨ret_bool (by simp), hB.out⟩
        | false =>
          have hsh := M.shr_bitF hzl hb
          clear hm hyu hans
          go_enter Tryz.func104, Tryz.ntmps104
          go_wp2
          go_ret
          exact ⟨ret_bool (by simp), hB.out⟩
      · have hans : Hid (okU P t x = false) := by show _ = _; unfold okU isU; rw [decide_eq_false h1]; simp
        rw [hans.out]
        clear hm hyu hans
        go_enter Tryz.func104, Tryz.ntmps104
        go_wp2
        go_ret
        exact ⟨rfl, hB.out⟩
    · have hans : Hid (okU P t x = false) := by show _ = _; unfold okU isU; rw [decide_eq_false h0]; simp
      rw [hans.out]
      clear hm hyu hans
      go_enter Tryz.func104, Tryz.ntmps104
      go_wp2
      go_ret
      exact ⟨rfl, hB.out⟩
  · obtain ⟨yn, rfl⟩ : ∃ u : Nat, y = (u : Int) := ⟨_, (Int.toNat_of_nonneg (by omega)).symm⟩
    have hye : (0 : Int) ≤ (yn : Int) := by omega
    have hyd : decide ((0 : Int) ≤ (yn : Int)) = true := decide_eq_true hye
    rw [if_neg he] at hm
    have hans : Hid (okU P t x = (x == (yn : Int))) := by
      show _ = _
      unfold okU isU
      rw [hm, Int.toNat_natCast, Nat.testBit_two_pow, Bool.eq_iff_iff]
      simp only [Bool.and_eq_true, decide_eq_true_eq, beq_iff_eq]
      omega
    rw [hans.out]
    clear hm hyu hans he
    go_enter Tryz.func104, Tryz.ntmps104
    go_wp2
    go_ret
    exact ⟨rfl, hB.out⟩
end Go.Proofs.YtmbdnhgmpmnhmaaGreatDoor.S
namespace Go.Proofs.YtmbdnhgmpmnhmaaGreatDoor.S
open Go.RowKit Go.Shelf
/-- Cut, and where its rows lie. -/
theorem cutC (P : Pb) (wv fv rv : Value) (w : World) (h : PbV w P wv fv rv) :
    Calls Tryz.prog 6 #[pbV P wv fv rv] w fun e w' => ∃ va vb vc, e = .returned (pbV (cutP P) va vb vc) ∧ Hid (PbV w' (cutP P) va vb vc) ∧ Hid (Below w.heap.size w w') ∧ Hid (∀ ad n c, va = .slice (some ad) n c → w.heap.size ≤ ad.block ∧ ad.block < w'.heap.size) := by
  refine (cutF P wv fv rv w h).mono ?_
  rintro e w' ⟨va, vb, vc, E, rfl, hO, hB⟩
  obtain ⟨o1, o2, o3, o4⟩ := hO.out
  refine ⟨va, vb, vc, rfl, ⟨RowW.of_owns o1, RowI.of_owns o2, ?_⟩, hB, fun ad n c e => o1.lt ad.block (by rw [e]; rfl)⟩
  have := o3.rowR
  rw [o4] at this
  exact this
theorem cutD (P : Pb) (wv fv rv : Value) (w : World) (h : PbV w (cutP P) wv fv rv) :
    Calls Tryz.prog 6 #[pbV (cutP P) wv fv rv] w fun e w' => ∃ va vb vc, e = .returned (pbV (cutP P) va vb vc) ∧ Hid (PbV w' (cutP P) va vb vc) ∧ Hid (Below w.heap.size w w') ∧ Hid (∀ ad n c, va = .slice (some ad) n c → w.heap.size ≤ ad.block ∧ ad.block < w'.heap.size) := by
  have := cutC (cutP P) wv fv rv w h
  rw [cutP_cut] at this
  exact this
structure SvS (w : World) (Q : Pb) (qw qf qr : Value) (g gs a b c : Nat) (V : World) : Prop where
  pb : PbB V g Q qw qf qr
  pv : PbV V Q qw qf qr
  gg : GgAt V gs a b c
  tab : M.Tab V
  be : Below w.heap.size w V
theorem SvS.over {w : World} {Q : Pb} {qw qf qr : Value} {g gs a b c : Nat} {V V' : World} (h : SvS w Q qw qf qr g gs a b c V) (hb : Below V.heap.size V V') : SvS w Q qw qf qr g gs a b c V' :=
  ⟨h.pb.below hb, h.pv.below hb, h.gg.below hb, h.tab.over hb, h.be.trans (hb.mono h.be.size)⟩
theorem SvS.fr {w : World} {Q : Pb} {qw qf qr : Value} {g gs a b c a' b' c' : Nat} {V V' : World} (h : SvS w Q qw qf qr g gs a b c V) (hf : M.Fr2 V V' gs gs) (hg : GgAt V' gs a' b' c') (hgs : w.heap.size ≤ gs) (hne : ∀ ad n c, qw = .slice (some ad) n c → ad.block ≠ gs) (hgp : g ≠ gs) (hG : 1 ≤ gs) : SvS w Q qw qf qr g gs a' b' c' V' :=
  ⟨(hf.block g (Array.getElem?_eq_some_iff.1 h.pb).1 hgp hgp).trans h.pb, pbV_frame h.pv h.gg hne hf, hg, tab_frame h.tab hG hf, hf.new h.be hgs hgs h.be.size⟩
theorem SvS.start {w w1 w3 : World} {Q : Pb} {qw qf qr : Value} (hB1 : Below w.heap.size w w1) (hq : PbV w1 Q qw qf qr) (ht : M.Tab w)
    (hg : GgAt w3 (w1.alloc (.cells #[.int .i64 Q.users, qw, qf, qr] 26)).heap.size 0 0 0)
    (hb3 : Below (w1.alloc (.cells #[.int .i64 Q.users, qw, qf, qr] 26)).heap.size (w1.alloc (.cells #[.int .i64 Q.users, qw, qf, qr] 26)) w3) :
    SvS w Q qw qf qr w1.heap.size (w1.alloc (.cells #[.int .i64 Q.users, qw, qf, qr] 26)).heap.size 0 0 0 w3 := by
  have h1 : Below w1.heap.size w1 (w1.alloc (.cells #[.int .i64 Q.users, qw, qf, qr] 26)) := (Below.refl _ w1).alloc (Nat.le_refl _) _
  have h2 : Below w1.heap.size w1 w3 := h1.trans (hb3.mono h1.size)
  have hp : PbB (w1.alloc (.cells #[.int .i64 Q.users, qw, qf, qr] 26)) w1.heap.size Q qw qf qr := heap_new w1 _
  have h3 : Below w.heap.size w w3 := hB1.trans (h2.mono hB1.size)
  exact ⟨hp.below hb3, hq.below h2, hg, ht.over h3, h3⟩
theorem rowW_shapeS {W : World} {v : Value} {l : List Int} (h : RowI W v l) : ∃ o c, v = .slice o l.length c := by obtain ⟨o, c, e, _⟩ := h; exact ⟨o, c, e⟩
/-- The users of a plan are small numbers. -/
theorem plan_wf {P : Pb} {L : List Int} (h : holP P L = true) : ∀ z ∈ L, (Lit.int .i64 z).wf = true := fun z hz => by
  obtain ⟨i, hi⟩ := List.getElem?_of_mem hz
  obtain ⟨h1, _, h3, _⟩ := holP_of h
  have h4 := h3 i z hi
  have h5 := (chkN_zero h1).2.2.1
  unfold okU isU at h4
  simp only [Bool.and_eq_true, decide_eq_true_eq] at h4
  simp [Lit.wf, IntKind.min, IntKind.max, IntKind.signed, IntKind.bits]
  omega
/-- No plan comes ahead of the first. -/
theorem first_ahead {P : Pb} {l L : List Int} (h : LsP P (some l)) (hL : holP P L = true) : befB L l = false := by
  rcases h.2 L hL with rfl | e
  · exact befB_same _
  · cases q : befB L l with
    | false => rfl
    | true => have := befB_trans e q; rw [befB_same] at this; cases this
/-- Lists of ints as they are handed in. -/
def RowX (w : World) (v : Value) (L : List (List Int)) : Prop := ∃ oa cap, v = .slice oa L.length cap ∧ ∀ (i : Nat) l, L[i]? = some l → ∃ g o sv, oa = some ⟨g, o, none⟩ ∧ w.cell? ⟨g, o + i, none⟩ = some sv ∧ RowI w sv l
theorem RowX.below {w w' : World} {v : Value} {L : List (List Int)} (h : RowX w v L) (hb : Below w.heap.size w w') : RowX w' v L := by
  obtain ⟨oa, cap, e, hc⟩ := h
  refine ⟨oa, cap, e, fun i l hi => ?_⟩
  obtain ⟨g, o, sv, e1, e2, e3⟩ := hc i l hi
  exact ⟨g, o, sv, e1, (hb.cell (p := ⟨g, o + i, none⟩) (cell_lt e2)).trans e2, e3.below hb (Nat.le_refl _)⟩
end Go.Proofs.YtmbdnhgmpmnhmaaGreatDoor.S
namespace Go.Proofs.YtmbdnhgmpmnhmaaGreatDoor.S
open Go.RowKit Go.Shelf
/-- What is a plan stays one where more may, and less is asked. -/
theorem can_more {Q X : Pb} (hC : chkN X = 0) (hu : X.users = Q.users) (hl : X.who.length = Q.who.length) (hm : ∀ t, t < Q.who.length → ∀ k, (mayP Q t).testBit k = true → (mayP X t).testBit k = true) (hr : ∀ r ∈ X.rules, r ∈ Q.rules) (h : canB Q = true) : canB X = true := by
  obtain ⟨L, hL⟩ := (canB_iff _).1 h
  obtain ⟨_, h2, h3, h4⟩ := holP_of hL
  refine (canB_iff _).2 ⟨L, holP_mk hC (by rw [hl]; exact h2) (fun t x hx => ?_) (fun r h => h4 r (hr r h))⟩
  have ht : t < Q.who.length := by rw [← h2]; exact (List.getElem?_eq_some_iff.1 hx).1
  have := h3 t x hx
  unfold okU at this ⊢
  rw [Bool.and_eq_true] at this ⊢
  refine ⟨?_, hm t ht _ this.2⟩
  have := this.1
  unfold isU at this ⊢
  rw [hu]; exact this
/-- The mask of a problem's users. -/
def mskW (u : Int) : Nat := if u < 64 then 2 ^ u.toNat - 1 else 18446744073709551615
/-- Words joined, so far. -/
def wdW (m : Nat) (W M : List Nat) : Nat → List Nat
  | 0 => W
  | j + 1 => (wdW m W M j).set j (W.getD j 0 ||| (M.getD j 0 &&& m))
theorem wdW_len (m : Nat) (W M : List Nat) : ∀ j, (wdW m W M j).length = W.length
  | 0 => rfl
  | j + 1 => by unfold wdW; rw [List.length_set]; exact wdW_len m W M j
theorem wdW_at (m : Nat) (W M : List Nat) (j t : Nat) (ht : t < W.length) : (wdW m W M j)[t]? = if t < j then some (W.getD t 0 ||| (M.getD t 0 &&& m)) else W[t]? := by
  induction j with
  | zero => rw [if_neg (by omega)]; rfl
  | succ j ih =>
    unfold wdW
    rw [List.getElem?_set]
    by_cases e : j = t
    · subst e
      rw [if_pos rfl, if_pos (by rw [wdW_len]; exact ht), if_pos (by omega)]
    · rw [if_neg e, ih]
      by_cases q : t < j
      · rw [if_pos q, if_pos (by omega)]
      · rw [if_neg q, if_neg (by omega)]
def wdP (Q : Pb) (M : List Nat) (j : Nat) : Pb := ⟨Q.users, wdW (mskW Q.users) Q.who M j, Q.fixed, Q.rules⟩
theorem mem_wdW {m : Nat} {W M : List Nat} {j y : Nat} (h : y ∈ wdW m W M j) : y ∈ W ∨ ∃ x ∈ W, ∃ z, (z = 0 ∨ z ∈ M) ∧ y = x ||| (z &&& m) := by
  obtain ⟨t, ht⟩ := List.getElem?_of_mem h
  have hl := (List.getElem?_eq_some_iff.1 ht).1
  rw [wdW_len] at hl
  rw [wdW_at _ _ _ _ _ hl] at ht
  split at ht
  · injection ht with e
    refine .inr ⟨W.getD t 0, ?_, M.getD t 0, ?_, e.symm⟩
    · rw [List.getD_eq_getElem?_getD, List.getElem?_eq_getElem hl]; exact List.getElem_mem hl
    · rw [List.getD_eq_getElem?_getD]
      cases q : M[t]? with
      | none => exact .inl rfl
      | some z => exact .inr (List.mem_of_getElem? q)
  · exact .inl (List.mem_of_getElem? ht)
theorem msk_le {u : Int} (h0 : 0 ≤ u) (h64 : u ≤ 64) {z : Nat} (hz : z < 18446744073709551616) : z &&& mskW u < 2 ^ u.toNat := by
  unfold mskW
  split
  · rw [Nat.and_two_pow_sub_one_eq_mod]
    exact Nat.mod_lt _ (Nat.pow_pos (by decide))
  · obtain rfl : u = 64 := by omega
    exact Nat.lt_of_le_of_lt Nat.and_le_left hz
theorem wdP_who {Q : Pb} (hC : chkN Q = 0) {M : List Nat} (hM : ∀ z ∈ M, z < 18446744073709551616) (j : Nat) : ∀ y ∈ (wdP Q M j).who, y < 2 ^ Q.users.toNat := by
  obtain ⟨g12, g0, g64, g32, gF, gW, gR⟩ := chkN_zero hC
  have hw : ∀ x ∈ Q.who, x < 2 ^ Q.users.toNat := fun x hx => by
    have := List.all_eq_true.1 gW x hx
    unfold outU at this
    have := of_decide_eq_true this
    exact (Nat.div_eq_zero_iff_lt (Nat.pow_pos (by decide))).1 this
  intro y hy
  rcases mem_wdW (show y ∈ wdW (mskW Q.users) Q.who M j from hy) with e | ⟨x, hx, z, hz, rfl⟩
  · exact hw y e
  · refine Nat.or_lt_two_pow (hw x hx) (msk_le g0 g64 ?_)
    rcases hz with e | e
    · rw [e]; decide
    · exact hM z e
theorem wdP_chk {Q : Pb} (hC : chkN Q = 0) {M : List Nat} (hM : ∀ z ∈ M, z < 18446744073709551616) (j : Nat) : chkN (wdP Q M j) = 0 := by
  obtain ⟨g12, g0, g64, g32, gF, gW, gR⟩ := chkN_zero hC
  have hl : (wdP Q M j).who.length = Q.who.length := wdW_len _ _ _ _
  refine chkN_ok ?_ ?_
  · rw [hl]
    show ¬ (12 < Q.who.length ∨ 64 < Q.users ∨ 32 < Q.rules.length)
    omega
  · rintro (q | q | q | q)
    · have q' : Q.users < 0 := q
      omega
    · unfold fixB at q gF
      rw [hl] at q
      have q' : (Q.fixed.all (fun x => decide (x = -1) || isU Q x) && decide (Q.fixed.length = Q.who.length)) = false := q
      rw [gF] at q'
      cases q'
    · unfold whoB at q
      rw [List.all_eq_false] at q
      obtain ⟨x, h1, h2⟩ := q
      refine h2 ?_
      unfold outU
      exact decide_eq_true (Nat.div_eq_of_lt (wdP_who hC hM j x h1))
    · unfold rulB at q gR
      rw [hl] at q
      have q' : (Q.rules.all fun r => chk (Q.who.length : Int) r) = false := q
      rw [gR] at q'
      cases q'
theorem wdP_ok {Q : Pb} (hk : Pok Q) (hC : chkN Q = 0) {M : List Nat} (hM : ∀ z ∈ M, z < 18446744073709551616) (j : Nat) : Pok (wdP Q M j) := by
  obtain ⟨g12, g0, g64, g32, gF, gW, gR⟩ := chkN_zero hC
  refine ⟨by show (wdW _ _ _ _).length ≤ 1000; rw [wdW_len]; exact hk.w, hk.f, hk.r, hk.s, fun z hz => ?_⟩
  have h1 := wdP_who hC hM j z hz
  have h2 : (2 : Nat) ^ Q.users.toNat ≤ 2 ^ 64 := Nat.pow_le_pow_right (by decide) (by omega)
  have h3 : (2 : Nat) ^ 64 = 18446744073709551616 := by decide
  omega
theorem wdP_can {Q : Pb} (hC : chkN Q = 0) {M : List Nat} (hM : ∀ z ∈ M, z < 18446744073709551616) (j : Nat) (h : canB Q = true) : canB (wdP Q M j) = true := by
  refine can_more (Q := Q) (wdP_chk hC hM j) rfl (wdW_len _ _ _ _) (fun t ht k hk => ?_) (fun r hr => hr) h
  unfold mayP at hk ⊢
  show (if Q.fixed.getD t (-1) = -1 then (wdW (mskW Q.users) Q.who M j).getD t 0 else 2 ^ (Q.fixed.getD t 0).toNat).testBit k = true
  split
  · rename_i e
    rw [if_pos e] at hk
    rw [List.getD_eq_getElem?_getD, wdW_at _ _ _ _ _ ht]
    split
    · show (Q.who.getD t 0 ||| _).testBit k = true
      rw [Nat.testBit_or, hk, Bool.true_or]
    · rw [← List.getD_eq_getElem?_getD]; exact hk
  · rename_i e
    rw [if_neg e] at hk
    exact hk
/-- A rule less. -/
def lsR (Q : Pb) (j : Nat) : Pb := ⟨Q.users, Q.who, Q.fixed, Q.rules.take j ++ Q.rules.drop (j + 1)⟩
theorem mem_lsR {Q : Pb} {j : Nat} {r : Rl} (h : r ∈ (lsR Q j).rules) : r ∈ Q.rules := by
  rcases List.mem_append.1 (show r ∈ Q.rules.take j ++ Q.rules.drop (j + 1) from h) with e | e
  · exact List.mem_of_mem_take e
  · exact List.mem_of_mem_drop e
theorem lsR_len (Q : Pb) (j : Nat) : (lsR Q j).rules.length ≤ Q.rules.length := by
  show (Q.rules.take j ++ Q.rules.drop (j + 1)).length ≤ _
  rw [List.length_append, List.length_take, List.length_drop]
  omega
theorem lsR_chk {Q : Pb} (hC : chkN Q = 0) (j : Nat) : chkN (lsR Q j) = 0 := by
  obtain ⟨g12, g0, g64, g32, gF, gW, gR⟩ := chkN_zero hC
  have := lsR_len Q j
  refine chkN_ok ?_ ?_
  · show ¬ (12 < Q.who.length ∨ 64 < Q.users ∨ 32 < (lsR Q j).rules.length)
    omega
  · rintro (q | q | q | q)
    · have q' : Q.users < 0 := q
      omega
    · have q' : fixB Q = false := q
      rw [gF] at q'; cases q'
    · have q' : whoB Q = false := q
      rw [gW] at q'; cases q'
    · unfold rulB at q gR
      rw [List.all_eq_false] at q
      obtain ⟨r, h1, h2⟩ := q
      exact h2 (List.all_eq_true.1 gR r (mem_lsR h1))
theorem lsR_ok {Q : Pb} (hk : Pok Q) (j : Nat) : Pok (lsR Q j) := ⟨hk.w, hk.f, by have := lsR_len Q j; have := hk.r; show (lsR Q j).rules.length ≤ 1000; omega, fun r hr => hk.s r (mem_lsR hr), hk.b⟩
theorem lsR_can {Q : Pb} (hC : chkN Q = 0) (j : Nat) (h : canB Q = true) : canB (lsR Q j) = true := can_more (Q := Q) (lsR_chk hC j) rfl rfl (fun _ _ _ h => h) (fun _ h => mem_lsR h) h
/-- A plan's users fixed. -/
def fxL (Q : Pb) (l : List Int) : Pb := ⟨Q.users, Q.who, l, Q.rules⟩
theorem fxL_chk {Q : Pb} {l : List Int} (h : holP Q l = true) : chkN (fxL Q l) = 0 := by
  obtain ⟨hC, h2, h3, h4⟩ := holP_of h
  obtain ⟨g12, g0, g64, g32, gF, gW, gR⟩ := chkN_zero hC
  refine chkN_ok ?_ ?_
  · show ¬ (12 < Q.who.length ∨ 64 < Q.users ∨ 32 < Q.rules.length)
    omega
  · rintro (q | q | q | q)
    · have q' : Q.users < 0 := q
      omega
    · unfold fixB at q
      rw [Bool.and_eq_false_iff] at q
      rcases q with q | q
      · rw [List.all_eq_false] at q
        obtain ⟨x, h5, h6⟩ := q
        obtain ⟨t, ht⟩ := List.getElem?_of_mem (show x ∈ l from h5)
        have := h3 t x ht
        unfold okU at this
        rw [Bool.and_eq_true] at this
        refine h6 ?_
        rw [Bool.or_eq_true]
        exact .inr this.1
      · have : decide (l.length = Q.who.length) = true := decide_eq_true h2
        have q' : decide (l.length = Q.who.length) = false := q
        rw [this] at q'; cases q'
    · have q' : whoB Q = false := q
      rw [gW] at q'; cases q'
    · have q' : rulB Q = false := q
      rw [gR] at q'; cases q'
theorem fxL_may {Q : Pb} {l : List Int} (h : holP Q l = true) {t : Nat} {x : Int} (hx : l[t]? = some x) : mayP (fxL Q l) t = 2 ^ x.toNat ∧ 0 ≤ x := by
  obtain ⟨_, h2, h3, h4⟩ := holP_of h
  have := h3 t x hx
  unfold okU isU at this
  simp only [Bool.and_eq_true, decide_eq_true_eq] at this
  have h0 := this.1.1
  refine ⟨?_, h0⟩
  unfold mayP
  show (if l.getD t (-1) = -1 then Q.who.getD t 0 else 2 ^ (l.getD t 0).toNat) = _
  simp only [List.getD_eq_getElem?_getD, hx, Option.getD_some]
  rw [if_neg (by omega)]
theorem fxL_holds {Q : Pb} {l : List Int} (h : holP Q l = true) : holP (fxL Q l) l = true := by
  obtain ⟨_, h2, h3, h4⟩ := holP_of h
  refine holP_mk (fxL_chk h) h2 (fun t x hx => ?_) h4
  have := h3 t x hx
  unfold okU at this ⊢
  rw [Bool.and_eq_true] at this ⊢
  refine ⟨this.1, ?_⟩
  rw [(fxL_may h hx).1, Nat.testBit_two_pow]
  simp
theorem fxL_one {Q : Pb} {l L : List Int} (h : holP Q l = true) (hL : holP (fxL Q l) L = true) : L = l := by
  obtain ⟨_, h2, _, _⟩ := holP_of h
  obtain ⟨_, k2, k3, _⟩ := holP_of hL
  have k2' : L.length = Q.who.length := k2
  apply List.ext_getElem?
  intro t
  by_cases ht : t < l.length
  · obtain ⟨x, hx⟩ : ∃ x, l[t]? = some x := ⟨_, List.getElem?_eq_getElem ht⟩
    obtain ⟨y, hy⟩ : ∃ y, L[t]? = some y := ⟨_, List.getElem?_eq_getElem (by omega)⟩
    have := k3 t y hy
    unfold okU isU at this
    simp only [Bool.and_eq_true, decide_eq_true_eq] at this
    have hb := this.2
    rw [(fxL_may h hx).1, Nat.testBit_two_pow] at hb
    have := of_decide_eq_true hb
    have := (fxL_may h hx).2
    rw [hx, hy, show y = x by omega]
  · rw [List.getElem?_eq_none (by omega), List.getElem?_eq_none (by omega)]
theorem fxL_ok {Q : Pb} (hk : Pok Q) {l : List Int} (h : holP Q l = true) : Pok (fxL Q l) := ⟨hk.w, by obtain ⟨_, h2, _, _⟩ := holP_of h; have := hk.w; show l.length ≤ 1000; omega, hk.r, hk.s, hk.b⟩
end Go.Proofs.YtmbdnhgmpmnhmaaGreatDoor.S
namespace Go.Proofs.YtmbdnhgmpmnhmaaGreatDoor.S
open Go.RowKit Go.Shelf
/-- A word less another's bits. -/
def mnW (z x : Nat) : Nat := z &&& (18446744073709551615 - x)
theorem mn_test {z x : Nat} (hx : x < 18446744073709551616) {k : Nat} (hk : k < 64) : (mnW z x).testBit k = (z.testBit k && !x.testBit k) := by
  unfold mnW
  rw [Nat.testBit_and]
  congr 1
  have h := Nat.testBit_two_pow_sub_succ (n := 64) (x := x) (by simpa using hx) k
  rw [show (2 : Nat) ^ 64 - (x + 1) = 18446744073709551615 - x by omega] at h
  rw [h, decide_eq_true hk, Bool.true_and]
theorem mn_le (z x : Nat) : mnW z x ≤ z := Nat.and_le_left
def lesP (P : Pb) (x : Nat) : Pb := ⟨P.users, P.who.map fun z => mnW z x, P.fixed, P.rules⟩
theorem lesP_chk {P : Pb} (hC : chkN P = 0) (x : Nat) : chkN (lesP P x) = 0 := by
  obtain ⟨g12, g0, g64, g32, gF, gW, gR⟩ := chkN_zero hC
  have hl : (lesP P x).who.length = P.who.length := List.length_map _
  refine chkN_ok ?_ ?_
  · rw [hl]
    show ¬ (12 < P.who.length ∨ 64 < P.users ∨ 32 < P.rules.length)
    omega
  · rintro (q | q | q | q)
    · have q' : P.users < 0 := q
      omega
    · unfold fixB at q gF
      rw [hl] at q
      have q' : (P.fixed.all (fun x => decide (x = -1) || isU P x) && decide (P.fixed.length = P.who.length)) = false := q
      rw [gF] at q'
      cases q'
    · unfold whoB at q gW
      rw [List.all_eq_false] at q
      obtain ⟨y, h1, h2⟩ := q
      obtain ⟨z, hz, rfl⟩ := List.mem_map.1 (show y ∈ P.who.map (fun z => mnW z x) from h1)
      refine h2 ?_
      have := List.all_eq_true.1 gW z hz
      unfold outU at this ⊢
      have h3 := (Nat.div_eq_zero_iff_lt (Nat.pow_pos (by decide))).1 (of_decide_eq_true this)
      exact decide_eq_true (Nat.div_eq_of_lt (Nat.lt_of_le_of_lt (mn_le z x) h3))
    · unfold rulB at q gR
      rw [hl] at q
      have q' : (P.rules.all fun r => chk (P.who.length : Int) r) = false := q
      rw [gR] at q'
      cases q'
theorem lesP_ok {P : Pb} (hk : Pok P) (x : Nat) : Pok (lesP P x) := ⟨by show (P.who.map _).length ≤ 1000; rw [List.length_map]; exact hk.w, hk.f, hk.r, hk.s, fun z hz => by
  obtain ⟨y, hy, rfl⟩ := List.mem_map.1 (show z ∈ P.who.map (fun z => mnW z x) from hz)
  exact Nat.lt_of_le_of_lt (mn_le y x) (hk.b y hy)⟩
theorem les_may {P : Pb} {x t : Nat} (ht : t < P.who.length) : mayP (lesP P x) t = if P.fixed.getD t (-1) = -1 then mnW (P.who.getD t 0) x else 2 ^ (P.fixed.getD t 0).toNat := by
  unfold mayP
  show (if P.fixed.getD t (-1) = -1 then (P.who.map fun z => mnW z x).getD t 0 else _) = _
  have e : (P.who.map fun z => mnW z x).getD t 0 = mnW (P.who.getD t 0) x := by
    rw [List.getD_eq_getElem?_getD, List.getD_eq_getElem?_getD, List.getElem?_map, List.getElem?_eq_getElem ht]
    rfl
  rw [e]
  rfl
/-- Users are small numbers. -/
theorem word_lt {P : Pb} (hC : chkN P = 0) {t : Nat} : P.who.getD t 0 < 2 ^ P.users.toNat := by
  obtain ⟨g12, g0, g64, g32, gF, gW, gR⟩ := chkN_zero hC
  rw [List.getD_eq_getElem?_getD]
  cases q : P.who[t]? with
  | none => exact Nat.pow_pos (by decide)
  | some z =>
    have := List.all_eq_true.1 gW z (List.mem_of_getElem? q)
    unfold outU at this
    exact (Nat.div_eq_zero_iff_lt (Nat.pow_pos (by decide))).1 (of_decide_eq_true this)
/-- The fewer are lost, the more can. -/
theorem les_mono {P : Pb} (hC : chkN P = 0) {x y : Nat} (hx : x < 18446744073709551616) (hy : y < 18446744073709551616) (h : ∀ k, k < 64 → x.testBit k = true → y.testBit k = true) (hc : canB (lesP P y) = true) : canB (lesP P x) = true := by
  obtain ⟨g12, g0, g64, g32, gF, gW, gR⟩ := chkN_zero hC
  have hl : (lesP P y).who.length = P.who.length := List.length_map _
  refine can_more (Q := lesP P y) (lesP_chk hC x) rfl (by rw [hl]; exact List.length_map _) (fun t ht k hk => ?_) (fun r hr => hr) hc
  rw [hl] at ht
  rw [les_may ht] at hk ⊢
  split
  · rename_i e
    rw [if_pos e] at hk
    have h64 : k < 64 := by
      have h1 := mn_le (P.who.getD t 0) y
      have h2 := word_lt hC (t := t)
      rcases Nat.lt_or_ge k 64 with q | q
      · exact q
      · have h3 : (2 : Nat) ^ P.users.toNat ≤ 2 ^ k := Nat.pow_le_pow_right (by decide) (by omega)
        rw [Nat.testBit_lt_two_pow (by omega)] at hk
        cases hk
    rw [mn_test hy h64, Bool.and_eq_true] at hk
    rw [mn_test hx h64, Bool.and_eq_true]
    refine ⟨hk.1, ?_⟩
    cases q : x.testBit k with
    | false => rfl
    | true => rw [h k h64 q] at hk; cases hk.2
  · rename_i e
    rw [if_neg e] at hk
    exact hk
/-- Steps in another order, and users lost. -/
theorem les_re {P : Pb} {O : List Nat} (hO : O.Perm (List.range P.who.length)) (x : Nat) : lesP (reP P O) x = reP (lesP P x) O := by
  unfold lesP reP
  congr 1
  unfold reW
  rw [List.map_map]
  refine List.map_congr_left fun t ht => ?_
  have ht' : t < P.who.length := List.mem_range.1 (hO.mem_iff.1 ht)
  show mnW (P.who.getD t 0) x = (P.who.map fun z => mnW z x).getD t 0
  rw [List.getD_eq_getElem?_getD, List.getD_eq_getElem?_getD, List.getElem?_map, List.getElem?_eq_getElem ht']
  rfl
theorem can_les_re {P : Pb} (hC : chkN P = 0) {O : List Nat} (hO : O.Perm (List.range P.who.length)) (x : Nat) : canB (lesP (reP P O) x) = canB (lesP P x) := by
  have hl : (lesP P x).who.length = P.who.length := List.length_map _
  rw [les_re hO]
  rw [Bool.eq_iff_iff, canB_iff, canB_iff]
  exact can_re (lesP_chk hC x) (by rw [hl]; exact hO)
/-- Those who do the free steps of a plan, so far. -/
def dng (F L : List Int) : Nat → Nat
  | 0 => 0
  | j + 1 => if F.getD j (-1) = -1 then dng F L j ||| 2 ^ (L.getD j 0).toNat else dng F L j
theorem dng_bit {F L : List Int} {t : Nat} (hF : F.getD t (-1) = -1) : ∀ j, t < j → (dng F L j).testBit (L.getD t 0).toNat = true
  | 0, h => by omega
  | j + 1, h => by
    unfold dng
    by_cases e : t = j
    · subst e
      rw [if_pos hF, Nat.testBit_or, Nat.testBit_two_pow_self, Bool.or_true]
    · have ih := dng_bit (L := L) hF j (by omega)
      split
      · rw [Nat.testBit_or, ih, Bool.true_or]
      · exact ih
theorem dng_lt {F L : List Int} (hL : ∀ (t : Nat) (x : Int), L[t]? = some x → x.toNat < 64) : ∀ j, j ≤ L.length → dng F L j < 18446744073709551616
  | 0, _ => by show 0 < _; decide
  | j + 1, h => by
    have ih := dng_lt (F := F) hL j (by omega)
    unfold dng
    split
    · have h1 : (L.getD j 0).toNat < 64 := by
        have hj : j < L.length := by omega
        rw [List.getD_eq_getElem?_getD, List.getElem?_eq_getElem hj]
        exact hL j _ (List.getElem?_eq_getElem hj)
      have h2 : (2 : Nat) ^ (L.getD j 0).toNat < 2 ^ 64 := Nat.pow_lt_pow_right (by decide) h1
      exact Nat.or_lt_two_pow (n := 64) ih h2
    · exact ih
/-- A plan is left whoever is lost beside its doers. -/
theorem les_doers {P : Pb} (hC : chkN P = 0) {x y : Nat} (hx : x < 18446744073709551616) (hy : y < 18446744073709551616) {L : List Int} (hL : holP (lesP P x) L = true) (hd : dng P.fixed L P.who.length &&& y = 0) : canB (lesP P y) = true := by
  obtain ⟨g12, g0, g64, g32, gF, gW, gR⟩ := chkN_zero hC
  obtain ⟨_, h2, h3, h4⟩ := holP_of hL
  have hl : ∀ z, (lesP P z).who.length = P.who.length := fun z => List.length_map _
  rw [hl] at h2
  refine (canB_iff _).2 ⟨L, holP_mk (lesP_chk hC y) (by rw [hl]; exact h2) (fun t u hu => ?_) h4⟩
  have ht : t < P.who.length := by rw [← h2]; exact (List.getElem?_eq_some_iff.1 hu).1
  have h5 := h3 t u hu
  unfold okU at h5 ⊢
  rw [Bool.and_eq_true, les_may ht] at h5
  rw [Bool.and_eq_true, les_may ht]
  refine ⟨h5.1, ?_⟩
  have hU := h5.1
  unfold isU at hU
  rw [Bool.and_eq_true] at hU
  have hU1 := of_decide_eq_true hU.1
  have hU2 : u < P.users := of_decide_eq_true hU.2
  have h64 : u.toNat < 64 := by omega
  split
  · rename_i e
    have h6 := h5.2
    rw [if_pos e, mn_test hx h64, Bool.and_eq_true] at h6
    rw [mn_test hy h64, Bool.and_eq_true]
    refine ⟨h6.1, ?_⟩
    have h7 := dng_bit (L := L) e P.who.length ht
    rw [List.getD_eq_getElem?_getD, hu, Option.getD_some] at h7
    cases q : y.testBit u.toNat with
    | false => rfl
    | true =>
      have h8 : (dng P.fixed L P.who.length &&& y).testBit u.toNat = true := by rw [Nat.testBit_and, h7, q]; rfl
      rw [hd, Nat.zero_testBit] at h8
      cases h8
  · rename_i e
    have h6 := h5.2
    rw [if_neg e] at h6
    exact h6
end Go.Proofs.YtmbdnhgmpmnhmaaGreatDoor.S
namespace Go.Proofs.YtmbdnhgmpmnhmaaGreatDoor.S
open Go.RowKit Go.Shelf
set_option maxRecDepth 100000 in
set_option maxHeartbeats 1000000 in
theorem ofH (x : Int) (w : World) : Calls Tryz.prog 21 #[.int .u64 x] w fun e w' => e = .returned (.agg #[.int .u64 x]) ∧ Below w.heap.size w w' := by
  have K := hide' (fun V => M.of64 0 x V)
  go_enter Tryz.func21, Tryz.ntmps21
  go_wp2_with (go_at_call 40; refine (K.out _).mono ?_; rintro e w1 ⟨rfl, hb⟩; obtain ⟨hc, hf⟩ := M.bcell hb)
  exact bodyPost_ret (v := .agg #[.int .u64 x]) (by simp [results, Tryz.results21, go_sem, hc]) rfl ⟨rfl, (((Below.refl _ w).alloc (Nat.le_refl _) _).trans (hb.mono (by simp))).setCell (by simp) _⟩
set_option maxRecDepth 100000 in
set_option maxHeartbeats 1000000 in
theorem onlyH (u : Nat) (hu : u < 64) (w : World) : Calls Tryz.prog 30 #[.int .i64 (u : Int)] w fun e w' => e = .returned (.agg #[.int .u64 ((2 ^ u : Nat) : Int)]) ∧ Below w.heap.size w w' := by
  have K := hide' (fun V => ofH ((2 ^ u : Nat) : Int) V)
  have e : IntKind.u64.wrap ((2 : Int) ^ u) = ((2 ^ u : Nat) : Int) := by
    have : (2 : Nat) ^ u < 18446744073709551616 := Nat.lt_of_lt_of_le (Nat.pow_lt_pow_right (by decide) hu) (Nat.le_refl (2 ^ 64))
    rw [IntKind.wrap_u64, show ((2 : Int) ^ u) = ((2 ^ u : Nat) : Int) by push_cast; rfl]
    generalize (2 : Nat) ^ u = q at *
    omega
  have hu' : (u : Int) < 64 := by omega
  obtain ⟨p, hp⟩ : ∃ p : Nat, p = 2 ^ u := ⟨_, rfl⟩
  rw [← hp] at K e ⊢
  clear hp
  go_enter Tryz.func30, Tryz.ntmps30
  go_wp2_with (go_at_call 21; refine (K.out _).mono ?_; rintro e w1 ⟨rfl, hb⟩; obtain ⟨hc, hf⟩ := M.bcell hb)
  exact bodyPost_ret (v := .agg #[.int .u64 (p : Int)]) (by simp [results, Tryz.results30, go_sem, hc]) rfl ⟨rfl, (((Below.refl _ w).alloc (Nat.le_refl _) _).trans (hb.mono (by simp))).setCell (by simp) _⟩
end Go.Proofs.YtmbdnhgmpmnhmaaGreatDoor.S
namespace Go.Proofs.YtmbdnhgmpmnhmaaGreatDoor.S
open Go.RowKit Go.Shelf
structure Lq (w : World) (P : Pb) (wv fv rv : Value) (x : Nat) (gq : Nat) (W : World) (u : Int) (a b c va vb vc : Value) (L1 : List Nat) (L2 : List Int) (E : List (Rl × Value)) : Prop where
  pb : PbB W w.heap.size P wv fv rv
  bl : Bo W (w.heap.size + 1) (.int .u64 (x : Int))
  z : QAt W (w.heap.size + 1 + 1) 0 (.slice none 0 0) (.slice none 0 0) (.slice none 0 0)
  qb : QAt W gq u a b c
  r1 : W.ownsRow (w.heap.size + 3) 27 1 va L1.length (cellsW L1)
  r2 : W.ownsRow (w.heap.size + 3) 3 1 vb L2.length (cellsI L2)
  r3 : TwS (w.heap.size + 3) W vc E
  ge : w.heap.size + 3 ≤ gq
  be : Below w.heap.size w W
section
variable {w : World} {P : Pb} {wv fv rv : Value} {x : Nat} {gq : Nat} {W W' : World} {u : Int} {a b c a' b' c' va vb vc : Value} {L1 : List Nat} {L2 : List Int} {E : List (Rl × Value)}
theorem Lq.sz (h : Lq w P wv fv rv x gq W u a b c va vb vc L1 L2 E) : w.heap.size + 3 ≤ W.heap.size := by have := h.qb.lt; have := h.ge; omega
theorem Lq.over (h : Lq w P wv fv rv x gq W u a b c va vb vc L1 L2 E) (hb : Below W.heap.size W W') : Lq w P wv fv rv x gq W' u a b c va vb vc L1 L2 E :=
  ⟨h.pb.below hb, h.bl.over hb, h.z.of (hb.block _ h.z.lt), h.qb.of (hb.block _ h.qb.lt), own_below h.r1 hb (Nat.le_refl _), own_below h.r2 hb (Nat.le_refl _), h.r3.below hb (Nat.le_refl _), h.ge, h.be.trans (hb.mono h.be.size)⟩
/-- The box written. -/
theorem Lq.put (h : Lq w P wv fv rv x gq W u a b c va vb vc L1 L2 E) {o : Nat} {y : Value} (hq : QAt (W.setCell ⟨gq, o, none⟩ y) gq u a' b' c') : Lq w P wv fv rv x gq (W.setCell ⟨gq, o, none⟩ y) u a' b' c' va vb vc L1 L2 E := by
  have hge := h.ge
  have hb : Below gq W (W.setCell ⟨gq, o, none⟩ y) := (Below.refl _ W).setCell (p := ⟨gq, o, none⟩) (Nat.le_refl _) _
  have hs : ∀ {B e sz : Nat} {v : Value} {n : Nat} {xs : List Value}, W.ownsRow B e sz v n xs → e ≠ 26 → (W.setCell ⟨gq, o, none⟩ y).ownsRow B e sz v n xs := fun ho he => own_same ho fun g _ e => Below.heap_setCell _ _ _ _ (own_ne_q ho h.qb he e)
  exact ⟨(hb.block _ (by omega)).trans h.pb, h.bl.of (hb.block _ (by omega)), h.z.of (hb.block _ (by omega)), hq, hs h.r1 (by decide), hs h.r2 (by decide), ⟨hs h.r3.row (by decide), fun p hp => hs (h.r3.inner p hp) (by decide)⟩, h.ge, h.be.trans (hb.mono (by omega))⟩
/-- A word more. -/
theorem Lq.wapp1 {o : Oper} {ac : Act} {Q : Exit → Act → World → Prop} {K : Act → World → Prop} (s y : Operand) (h : Lq w P wv fv rv x gq W u a b c va vb vc L1 L2 E) (z : Nat) (ho : o.op = .call { callee := .builtin .append, args := #[s, y], argTypes := #[22, 22] })
    (es : ac.eval s = va) (ex : ac.eval y = .slice (some ⟨W.heap.size, 0, none⟩) 1 1) (hn : L1.length ≤ 1000000)
    (hK : ∀ o5 n5 c5 w2, Lq w P wv fv rv x gq w2 u a b c (.slice o5 n5 c5) vb vc (L1 ++ [z]) L2 E → K (ac.put o.dst (.slice o5 n5 c5)) w2) : o.wp Tryz.prog ac (W.alloc (.cells #[.int .u64 (z : Int)] 27)) K Q := by
  obtain ⟨i0, hi, hz0, hz1, hz2⟩ := info_parts infoW
  have hs := h.sz
  have hA := h.over ((Below.refl _ W).alloc (Nat.le_refl _) (.cells #[.int .u64 (z : Int)] 27))
  refine wp_append_own _ s y 22 ho (w.heap.size + 3) 27 i0 (.int .u64 0) 1 8 Tryz.underlying22 hi hz0 hz1 hz2 rfl (by decide) va L1.length (cellsW L1) es hA.r1 ⟨W.heap.size, 0, none⟩ 1 1 [.int .u64 (z : Int)] ex rfl (World.news_of_block (cs := #[.int .u64 (z : Int)]) (heap_new _ _)) (by simp [Value.oneCell']) (by unfold maxLen; omega) (by omega) (by simp; omega) ?_
  intro v2 w2 hown hgrow _
  have hb : Below (w.heap.size + 3) W w2 := ((Below.refl _ W).alloc hs _).grown hgrow (by simp; omega) (fun j ej => own_ge' h.r1 ej)
  obtain ⟨o5, c5, rfl⟩ := own_shp hown
  have hqb : QAt w2 gq u a b c := hA.qb.of (hgrow.block gq hA.qb.lt fun e => own_ne_q hA.r1 hA.qb (by decide) e.symm rfl)
  refine hK _ _ _ _ ⟨(hb.block _ (by omega)).trans h.pb, h.bl.of (hb.block _ (by omega)), h.z.of (hb.block _ (by omega)), hqb, ?_, kept_kind hA.r2 hA.r1 (by decide) hgrow, ⟨kept_kind hA.r3.row hA.r1 (by decide) hgrow, fun p hp => kept_kind (hA.r3.inner p hp) hA.r1 (by decide) hgrow⟩, h.ge, h.be.trans (hb.mono (by omega))⟩
  rw [List.length_append]
  have e : cellsW (L1 ++ [z]) = cellsW L1 ++ [.int .u64 (z : Int)] := by unfold cellsW; rw [List.map_append]; rfl
  rw [e]
  exact hown
/-- A rule more. -/
theorem Lq.wapp3 {o : Oper} {ac : Act} {Q : Exit → Act → World → Prop} {K : Act → World → Prop} (s y : Operand) (h : Lq w P wv fv rv x gq W u a b c va vb vc L1 L2 E) (p : Rl × Value) (hp : W.ownsRow (w.heap.size + 3) 3 1 p.2 p.1.steps.length (cellsI p.1.steps)) (ho : o.op = .call { callee := .builtin .append, args := #[s, y], argTypes := #[24, 24] })
    (es : ac.eval s = vc) (ex : ac.eval y = .slice (some ⟨W.heap.size, 0, none⟩) 1 1) (hn : E.length ≤ 1000000)
    (hK : ∀ o5 n5 c5 w2, Lq w P wv fv rv x gq w2 u a b c va vb (.slice o5 n5 c5) L1 L2 (E ++ [p]) → K (ac.put o.dst (.slice o5 n5 c5)) w2) : o.wp Tryz.prog ac (W.alloc (.cells #[.int .i64 p.1.kind, .int .i64 p.1.k, p.2] 46)) K Q := by
  obtain ⟨i0, hi, hz0, hz1, hz2⟩ := info_parts infoR
  have hs := h.sz
  have hT1 : TwS (w.heap.size + 3) (W.alloc (.cells #[.int .i64 p.1.kind, .int .i64 p.1.k, p.2] 46)) vc E := ⟨h.r3.row.alloc _, fun q hq => (h.r3.inner q hq).alloc _⟩
  have hne : ∀ g, vc.ownBlock = some g → p.2.ownBlock ≠ some g := fun g e1 e2 => by
    obtain ⟨c1, f1, h1⟩ := Go.Lib.ownsRow_kind h.r3.row g e1
    obtain ⟨c2, f2, h2⟩ := Go.Lib.ownsRow_kind hp g e2
    rw [h1] at h2
    simp at h2
  refine wp_append_own _ s y 24 ho (w.heap.size + 3) 46 i0 (.agg #[.int .i64 0, .int .i64 0, .slice none 0 0]) 3 40 Tryz.underlying24 hi hz0 hz1 hz2 rfl (by decide) vc E.length (cellsR E) es hT1.row ⟨W.heap.size, 0, none⟩ 1 1 (rcells p) ex rfl (World.news_of_block (cs := #[.int .i64 p.1.kind, .int .i64 p.1.k, p.2]) (heap_new _ _)) (rcells_one p (own_one hp)) (by unfold maxLen; omega) (by omega) (by simp; omega) ?_
  intro v2 w2 hown hgrow _
  have hb : Below (w.heap.size + 3) W w2 := ((Below.refl _ W).alloc hs _).grown hgrow (by simp; omega) (fun j ej => own_ge' h.r3.row ej)
  have hTw := hT1.push p (hp.alloc _) hne hown hgrow
  obtain ⟨o5, c5, rfl⟩ := own_shp hown
  have hqb : QAt w2 gq u a b c := by
    have h1 : QAt (W.alloc (.cells #[.int .i64 p.1.kind, .int .i64 p.1.k, p.2] 46)) gq u a b c := h.qb.of (((Below.refl W.heap.size W).alloc (Nat.le_refl _) _).block _ h.qb.lt)
    exact h1.of (hgrow.block gq h1.lt fun e => own_ne_q hT1.row h1 (by decide) e.symm rfl)
  exact hK _ _ _ _ ⟨(hb.block _ (by omega)).trans h.pb, h.bl.of (hb.block _ (by omega)), h.z.of (hb.block _ (by omega)), hqb, kept_kind (h.r1.alloc _) hT1.row (by decide) hgrow, kept_kind (h.r2.alloc _) hT1.row (by decide) hgrow, hTw, h.ge, h.be.trans (hb.mono (by omega))⟩
theorem Lq.fin (h : Lq w P wv fv rv x gq W u a b c va vb vc L1 L2 E) (x0 x1 x2 x3 : Value) :
    let W' := (((W.setCell ⟨w.heap.size + 1 + 1, 0, none⟩ x0).setCell ⟨w.heap.size + 1 + 1, 1, none⟩ x1).setCell ⟨w.heap.size + 1 + 1, 2, none⟩ x2).setCell ⟨w.heap.size + 1 + 1, 3, none⟩ x3
    PbV W' ⟨u, L1, L2, E.map Prod.fst⟩ va vb vc ∧ Below w.heap.size w W' ∧ (∀ ad n c, va = .slice (some ad) n c → w.heap.size ≤ ad.block) ∧ (∀ W2 : World, (∀ k, w.heap.size ≤ k → k < W'.heap.size → W2.heap[k]? = W'.heap[k]?) → PbV W2 ⟨u, L1, L2, E.map Prod.fst⟩ va vb vc) := by
  intro W'
  have hb : Below w.heap.size W W' := ((((Below.refl _ W).setCell (p := ⟨w.heap.size + 1 + 1, 0, none⟩) (by show w.heap.size ≤ w.heap.size + 1 + 1; omega) x0).setCell (p := ⟨w.heap.size + 1 + 1, 1, none⟩) (by show w.heap.size ≤ w.heap.size + 1 + 1; omega) x1).setCell (p := ⟨w.heap.size + 1 + 1, 2, none⟩) (by show w.heap.size ≤ w.heap.size + 1 + 1; omega) x2).setCell (p := ⟨w.heap.size + 1 + 1, 3, none⟩) (by show w.heap.size ≤ w.heap.size + 1 + 1; omega) x3
  have s4 : ∀ {B e sz : Nat} {v : Value} {n : Nat} {xs : List Value}, W.ownsRow B e sz v n xs → w.heap.size + 1 + 1 < B → W'.ownsRow B e sz v n xs := fun h hB => own_set (own_set (own_set (own_set h hB x0) hB x1) hB x2) hB x3
  refine ⟨⟨RowW.of_owns (s4 h.r1 (by omega)), RowI.of_owns (s4 h.r2 (by omega)), ?_⟩, h.be.trans hb, fun ad n c e => ?_, fun W2 hk => ?_⟩
  · have hT : TwS (w.heap.size + 3) W' vc E := ⟨s4 h.r3.row (by omega), fun p hp => s4 (h.r3.inner p hp) (by omega)⟩
    exact hT.rowR
  · have := own_ge' h.r1 (g := ad.block) (by rw [e]; rfl)
    omega
  · have s5 : ∀ {e sz : Nat} {v : Value} {n : Nat} {xs : List Value}, W.ownsRow (w.heap.size + 3) e sz v n xs → W2.ownsRow (w.heap.size + 3) e sz v n xs := fun h => own_same (s4 h (by omega)) fun g hg1 hg2 => hk g (by have := own_ge' h hg2; omega) hg1
    have hT : TwS (w.heap.size + 3) W2 vc E := ⟨s5 h.r3.row, fun p hp => s5 (h.r3.inner p hp)⟩
    exact ⟨RowW.of_owns (s5 h.r1), RowI.of_owns (s5 h.r2), hT.rowR⟩
end
end Go.Proofs.YtmbdnhgmpmnhmaaGreatDoor.S
namespace Go.Proofs.YtmbdnhgmpmnhmaaGreatDoor.S
open Go.RowKit Go.Shelf
structure Lp (w : World) (P : Pb) (wv fv rv : Value) (x : Nat) (V : World) (vb : Value) (L2 : List Int) : Prop where
  pb : PbB V w.heap.size P wv fv rv
  bl : Bo V (w.heap.size + 1) (.int .u64 (x : Int))
  z : QAt V (w.heap.size + 1 + 1) 0 (.slice none 0 0) (.slice none 0 0) (.slice none 0 0)
  r2 : V.ownsRow (w.heap.size + 3) 3 1 vb L2.length (cellsI L2)
  pv : PbV V P wv fv rv
  be : Below w.heap.size w V
structure Lb (w : World) (P : Pb) (wv fv rv : Value) (x gq : Nat) (V : World) (vb : Value) (L2 : List Int) : Prop where
  p : Lp w P wv fv rv x V vb L2
  qb : QAt V gq 0 (.slice none 0 0) (.slice none 0 0) (.slice none 0 0)
  ge : w.heap.size + 3 ≤ gq
section
variable {w : World} {P : Pb} {wv fv rv : Value} {x gq : Nat} {V V' : World} {vb vb' : Value} {L2 : List Int}
theorem Lp.sz (h : Lp w P wv fv rv x V vb L2) : w.heap.size + 3 ≤ V.heap.size := h.z.lt
theorem Lp.cells (h : Lp w P wv fv rv x V vb L2) : V.cell? ⟨w.heap.size, 0, none⟩ = some (.int .i64 P.users) ∧ V.cell? ⟨w.heap.size, 2, none⟩ = some fv := ⟨h.pb.c0, h.pb.c2⟩
theorem Lp.over (h : Lp w P wv fv rv x V vb L2) (hb : Below V.heap.size V V') : Lp w P wv fv rv x V' vb L2 := ⟨h.pb.below hb, h.bl.over hb, h.z.of (hb.block _ h.z.lt), own_below h.r2 hb (Nat.le_refl _), h.pv.below hb, h.be.trans (hb.mono h.be.size)⟩
theorem Lp.fix (h : Lp w P wv fv rv x V vb L2) (hb : Below V.heap.size V V') {L : List Int} (ho : V'.ownsRow V.heap.size 3 1 vb' L.length (cellsI L)) : Lp w P wv fv rv x V' vb' L := by
  have k := h.over hb
  exact ⟨k.pb, k.bl, k.z, own_down ho h.sz, k.pv, k.be⟩
theorem Lp.box (h : Lp w P wv fv rv x V vb L2) : Lb w P wv fv rv x V.heap.size (V.alloc (.cells #[.int .i64 0, .slice none 0 0, .slice none 0 0, .slice none 0 0] 26)) vb L2 :=
  ⟨h.over ((Below.refl _ V).alloc (Nat.le_refl _) _), QAt.block (heap_new V _), h.sz⟩
theorem Lb.fix (h : Lb w P wv fv rv x gq V vb L2) (hb : Below V.heap.size V V') {L : List Int} (ho : V'.ownsRow V.heap.size 3 1 vb' L.length (cellsI L)) : Lb w P wv fv rv x gq V' vb' L := ⟨h.p.fix hb ho, h.qb.of (hb.block _ h.qb.lt), h.ge⟩
/-- The box made last. -/
theorem Lp.close (h : Lp w P wv fv rv x V vb L2) (u : Int) (b : Value) : Lq w P wv fv rv x V.heap.size (V.alloc (.cells #[.int .i64 u, .slice none 0 0, b, .slice none 0 0] 26)) u (.slice none 0 0) b (.slice none 0 0) (.slice none 0 0) vb (.slice none 0 0) [] L2 [] := by
  have k := h.over ((Below.refl _ V).alloc (Nat.le_refl _) (.cells #[.int .i64 u, .slice none 0 0, b, .slice none 0 0] 26))
  exact ⟨k.pb, k.bl, k.z, QAt.block (heap_new V _), World.ownsRow_nil _ _ _ _, k.r2, TwS.nil _ _, h.sz, k.be⟩
/-- The box made ahead. -/
theorem Lb.close (h : Lb w P wv fv rv x gq V vb L2) (u : Int) (b : Value) : Lq w P wv fv rv x gq ((((V.setCell ⟨gq, 0, none⟩ (.int .i64 u)).setCell ⟨gq, 1, none⟩ (.slice none 0 0)).setCell ⟨gq, 2, none⟩ b).setCell ⟨gq, 3, none⟩ (.slice none 0 0)) u (.slice none 0 0) b (.slice none 0 0) (.slice none 0 0) vb (.slice none 0 0) [] L2 [] := by
  have hge := h.ge
  have h0 : Lq w P wv fv rv x gq V 0 (.slice none 0 0) (.slice none 0 0) (.slice none 0 0) (.slice none 0 0) vb (.slice none 0 0) [] L2 [] := ⟨h.p.pb, h.p.bl, h.p.z, h.qb, World.ownsRow_nil _ _ _ _, h.p.r2, TwS.nil _ _, h.ge, h.p.be⟩
  have h1 : Lq w P wv fv rv x gq (V.setCell ⟨gq, 0, none⟩ (.int .i64 u)) u (.slice none 0 0) (.slice none 0 0) (.slice none 0 0) (.slice none 0 0) vb (.slice none 0 0) [] L2 [] := by
    have hb : Below gq V (V.setCell ⟨gq, 0, none⟩ (.int .i64 u)) := (Below.refl _ V).setCell (p := ⟨gq, 0, none⟩) (Nat.le_refl _) _
    exact ⟨(hb.block _ (by omega)).trans h0.pb, h0.bl.of (hb.block _ (by omega)), h0.z.of (hb.block _ (by omega)), h0.qb.s0C u, World.ownsRow_nil _ _ _ _, own_same h0.r2 fun g _ e => Below.heap_setCell _ _ _ _ (own_ne_q h0.r2 h0.qb (by decide) e), TwS.nil _ _, h0.ge, h0.be.trans (hb.mono (by omega))⟩
  have h2 := h1.put (h1.qb.s1 (.slice none 0 0))
  have h3 := h2.put (h2.qb.s2 b)
  exact h3.put (h3.qb.s3 (.slice none 0 0))
theorem Lp.start (h : PbV w P wv fv rv) (x : Nat) (T : TypeId) : Lp w P wv fv rv x (((w.alloc (.cells #[.int .i64 P.users, wv, fv, rv] 26)).alloc (.cells #[.int .u64 (x : Int)] T)).alloc (.cells #[.int .i64 0, .slice none 0 0, .slice none 0 0, .slice none 0 0] 26)) (.slice none 0 0) [] := by
  have b1 : Below w.heap.size w (w.alloc (.cells #[.int .i64 P.users, wv, fv, rv] 26)) := (Below.refl _ w).alloc (Nat.le_refl _) _
  have n1 : PbB (w.alloc (.cells #[.int .i64 P.users, wv, fv, rv] 26)) w.heap.size P wv fv rv := heap_new w _
  have s1 := World.size_alloc w (.cells #[.int .i64 P.users, wv, fv, rv] 26)
  generalize w.alloc (.cells #[.int .i64 P.users, wv, fv, rv] 26) = w1 at *
  have b2 : Below w1.heap.size w1 (w1.alloc (.cells #[.int .u64 (x : Int)] T)) := (Below.refl _ w1).alloc (Nat.le_refl _) _
  have n2 := Bo.new w1 (.int .u64 (x : Int)) T
  have s2 := World.size_alloc w1 (.cells #[.int .u64 (x : Int)] T)
  generalize w1.alloc (.cells #[.int .u64 (x : Int)] T) = w2 at *
  have b3 : Below w2.heap.size w2 (w2.alloc (.cells #[.int .i64 0, .slice none 0 0, .slice none 0 0, .slice none 0 0] 26)) := (Below.refl _ w2).alloc (Nat.le_refl _) _
  have n3 : QAt (w2.alloc (.cells #[.int .i64 0, .slice none 0 0, .slice none 0 0, .slice none 0 0] 26)) w2.heap.size 0 (.slice none 0 0) (.slice none 0 0) (.slice none 0 0) := QAt.block (heap_new w2 _)
  generalize w2.alloc (.cells #[.int .i64 0, .slice none 0 0, .slice none 0 0, .slice none 0 0] 26) = w3 at *
  rw [s2, s1] at n3
  rw [s1] at n2
  have b23 : Below w1.heap.size w1 w3 := b2.trans (b3.mono b2.size)
  have b13 : Below w.heap.size w w3 := b1.trans (b23.mono b1.size)
  exact ⟨n1.below b23, n2.over b3, n3, World.ownsRow_nil _ _ _ _, h.below b13, b13⟩
end
structure LsX (P : Pb) (x : Nat) (Ws : List Nat) : Prop where
  x : lesP P x = ⟨P.users, Ws, P.fixed, P.rules⟩
set_option maxRecDepth 100000 in
set_option maxHeartbeats 8000000 in
theorem lessF (P : Pb) (wv fv rv : Value) (x : Nat) (hx : x < 18446744073709551616) (w : World) (h : PbV w P wv fv rv) (hk : Pok P) :
    Calls Tryz.prog 20 #[pbV P wv fv rv, .agg #[.int .u64 (x : Int)]] w (RsP w (lesP P x)) := by
  have hS3 := hide' (Lp.start h x 50)
  have h' := hide' h
  have hk' := hide' hk
  obtain ⟨ow, cw, of, cf, or, cr, rfl, rfl, rfl⟩ := h.shape
  unfold pbV
  have hsr : Hid (∀ r ∈ P.rules, r.steps.length ≤ 1000) := hk.s
  have hrl : P.rules.length ≤ 1000 := hk.r
  have hwl : P.who.length ≤ 1000 := hk.w
  clear h hk
  have KI : Hid (∀ V, PbV V P (.slice ow P.who.length cw) (.slice of P.fixed.length cf) (.slice or P.rules.length cr) → Calls Tryz.prog 38 #[.slice of P.fixed.length cf] V fun e w' => ∃ o n c, e = .returned (.slice o n c) ∧ Hid (w'.ownsRow V.heap.size 3 1 (.slice o n c) P.fixed.length (cellsI P.fixed)) ∧ Hid (Below V.heap.size V w')) := fun V hV => (clone P.fixed _ V hV.fixed hk'.out.f).mono fun e w' ⟨v, e1, e2, e3⟩ => by
    obtain ⟨a, c, rfl⟩ := own_shp e2
    exact ⟨a, _, c, e1, e2, e3⟩
  go_enter Tryz.func20, Tryz.ntmps20
  go_upto_region 1 with fail
  generalize ((w.alloc (.cells #[.int .i64 P.users, .slice ow P.who.length cw, .slice of P.fixed.length cf, .slice or P.rules.length cr] 26)).alloc (.cells #[.int .u64 (x : Int)] 50)).alloc (.cells #[.int .i64 0, .slice none 0 0, .slice none 0 0, .slice none 0 0] 26) = w3 at *
  go_cut [5] from 10 to 16 (fun qv wx => ∃ gq ob nb cb, qv = .pointer (some ⟨gq, 0, none⟩) ∧ Hid (Lq w P (.slice ow P.who.length cw) (.slice of P.fixed.length cf) (.slice or P.rules.length cr) x gq wx P.users (.slice none 0 0) (.slice ob nb cb) (.slice none 0 0) (.slice none 0 0) (.slice ob nb cb) (.slice none 0 0) [] P.fixed []))
  case first =>
    as_aux_lemma =>
    have hP0 := hide' (hS3.out.over (Below.refl _ _).drew)
    clear hS3
    refine wp_region_held_drew (S := (fun V => V.cell? ⟨w.heap.size, 0, none⟩ = some (.int .i64 P.users) ∧ V.cell? ⟨w.heap.size, 2, none⟩ = some (.slice of P.fixed.length cf))) (by kernel_rfl) ?_ (fun hHeld => ?_)
    · exact hP0.out.cells
    refine wpAnyH_take (i := 0) (oi := { dst := some 10, op := Op.fieldAddr 26 (Operand.tmp 2) 0, type := 0, pos := "hardy.go:77", after := #[], guard := none }) (v := ?_) rfl (by kernel_rfl) (by kernel_rfl) (by kernel_rfl) (fun _ _ _ h => h) (Or.inl ⟨by rfl, ?_⟩) (by assumption) ?_
    rotate_left
    · intro w hSw; (try dsimp only at hSw); go_simp <;> with_reducible rfl
    simp only [Act.put, List.setIfInBounds_toArray, List.set_cons_zero, List.set_cons_succ]
    refine wpAnyH_take (i := 1) (oi := { dst := some 11, op := Op.load 3 (Operand.tmp 10), type := 3, pos := "hardy.go:77", after := #[{ on := 0, ground := Ground.data }], guard := none }) (v := ?_) rfl (by kernel_rfl) (by kernel_rfl) (by kernel_rfl) (fun _ _ _ h => h) (Or.inl ⟨by rfl, ?_⟩) (by assumption) ?_
    rotate_left
    · intro w hSw; (try dsimp only at hSw); go_simp <;> with_reducible rfl
    simp only [Act.put, List.setIfInBounds_toArray, List.set_cons_zero, List.set_cons_succ]
    refine wpAnyH_take (i := 2) (oi := { dst := some 12, op := Op.fieldAddr 26 (Operand.tmp 2) 2, type := 0, pos := "hardy.go:77", after := #[], guard := none }) (v := ?_) rfl (by kernel_rfl) (by kernel_rfl) (by kernel_rfl) (fun _ _ _ h => h) (Or.inl ⟨by rfl, ?_⟩) (by assumption) ?_
    rotate_left
    · intro w hSw; (try dsimp only at hSw); go_simp <;> with_reducible rfl
    simp only [Act.put, List.setIfInBounds_toArray, List.set_cons_zero, List.set_cons_succ]
    refine wpAnyH_take (i := 3) (oi := { dst := some 13, op := Op.load 23 (Operand.tmp 12), type := 23, pos := "hardy.go:77", after := #[{ on := 2, ground := Ground.data }], guard := none }) (v := ?_) rfl (by kernel_rfl) (by kernel_rfl) (by kernel_rfl) (fun _ _ _ h => h) (Or.inl ⟨by rfl, ?_⟩) (by assumption) ?_
    rotate_left
    · intro w hSw; (try dsimp only at hSw); go_simp <;> with_reducible rfl
    simp only [Act.put, List.setIfInBounds_toArray, List.set_cons_zero, List.set_cons_succ]
    refine wpAnyH_ready (rs := [4, 6]) (by kernel_rfl) (by simp) ?_
    refine AllReadyH.cons (o := { dst := some 14, op := Op.call { callee := Callee.value (Operand.func 38), args := #[Operand.tmp 13], argTypes := #[23] }, type := 23, pos := "hardy.go:77", after := #[{ on := 3, ground := Ground.data }], guard := none }) rfl (fun K hK => ?_) ?_
    · skip
      go_simp
      refine (KI.out _ hP0.out.pv).mono ?_; rintro e w6 ⟨o6, n6, c6, rfl, hO6, hb6⟩; have hS6 := hide' (hP0.out.fix hb6.out hO6.out); (try dsimp only)
      refine hK.out _ _ ?_ (fun hHeld => ?_)
      · exact hS6.out.cells
      clear hK K
      try simp only [Act.put, List.setIfInBounds_toArray, List.set_cons_zero, List.set_cons_succ]
      refine wpAnyH_take (i := 5) (oi := { dst := some 15, op := Op.build 26 #[(0, Operand.tmp 11), (2, Operand.tmp 14)], type := 26, pos := "hardy.go:77", after := #[{ on := 1, ground := Ground.data }, { on := 4, ground := Ground.data }], guard := none }) (v := ?_) rfl (by kernel_rfl) (by kernel_rfl) (by kernel_rfl) (fun _ _ _ h => h) (Or.inl ⟨by rfl, ?_⟩) (by assumption) ?_
      rotate_left
      · intro w hSw; (try dsimp only at hSw); go_simp <;> with_reducible rfl
      simp only [Act.put, List.setIfInBounds_toArray, List.set_cons_zero, List.set_cons_succ]
      refine wpAnyH_ready (rs := [6]) (by kernel_rfl) (by simp) ?_
      refine AllReadyH.cons (o := { dst := some 5, op := Op.alloc 26, type := 0, pos := "hardy.go:77", after := #[], guard := none }) rfl (fun K hK => ?_) AllReadyH.nil
      go_simp
      refine hK.out _ _ ?_ (fun hHeld => ?_)
      · exact (hS6.out.over ((Below.refl _ w6).alloc (Nat.le_refl _) _)).cells
      clear hK K
      try simp only [Act.put, List.setIfInBounds_toArray, List.set_cons_zero, List.set_cons_succ]
      refine wpAnyH_ready (rs := [7]) (by kernel_rfl) (by simp) ?_
      refine AllReadyH.cons (o := { dst := none, op := Op.store 26 (Operand.tmp 5) (Operand.tmp 15), type := 0, pos := "hardy.go:77", after := #[{ on := 6, ground := Ground.data }, { on := 5, ground := Ground.data }, { on := 4, ground := Ground.chain }, { on := 0, ground := Ground.phase }, { on := 1, ground := Ground.phase }, { on := 2, ground := Ground.phase }, { on := 3, ground := Ground.phase }, { on := 4, ground := Ground.phase }, { on := 5, ground := Ground.phase }, { on := 6, ground := Ground.phase }], guard := none }) rfl (fun K hK => ?_) AllReadyH.nil
      go_simp
      refine hK.out _ _ ?_ (fun hHeld => ?_)
      · exact ⟨(hS6.out.close P.users (.slice o6 n6 c6)).pb.c0, (hS6.out.close P.users (.slice o6 n6 c6)).pb.c2⟩
      clear hK K
      try simp only [Act.put, List.setIfInBounds_toArray, List.set_cons_zero, List.set_cons_succ]
      refine wpAnyH_done (by kernel_rfl) ?_ _
      skip
      have hQ := hide' (hS6.out.close P.users (.slice o6 n6 c6))
      go_wp2
      go_meet
      exact ⟨_, o6, n6, c6, rfl, hQ⟩
    refine AllReadyH.cons (o := { dst := some 5, op := Op.alloc 26, type := 0, pos := "hardy.go:77", after := #[], guard := none }) rfl (fun K hK => ?_) AllReadyH.nil
    go_simp
    have hA := hide' (hP0.out.box); rw [show w3.drew.heap.size = w3.heap.size from rfl] at hA; (try dsimp only)
    refine hK.out _ _ ?_ (fun hHeld => ?_)
    · exact hA.out.p.cells
    clear hK K
    try simp only [Act.put, List.setIfInBounds_toArray, List.set_cons_zero, List.set_cons_succ]
    refine wpAnyH_ready (rs := [4]) (by kernel_rfl) (by simp) ?_
    refine AllReadyH.cons (o := { dst := some 14, op := Op.call { callee := Callee.value (Operand.func 38), args := #[Operand.tmp 13], argTypes := #[23] }, type := 23, pos := "hardy.go:77", after := #[{ on := 3, ground := Ground.data }], guard := none }) rfl (fun K hK => ?_) AllReadyH.nil
    go_simp
    refine (KI.out _ hA.out.p.pv).mono ?_; rintro e w6 ⟨o6, n6, c6, rfl, hO6, hb6⟩; have hS6 := hide' (hA.out.fix hb6.out hO6.out); (try dsimp only); have f0 := hS6.out.qb.frz 0; have y0 := hS6.out.qb.c0; have f1 := (hS6.out.qb.s0C P.users).frz 1; have y1 := (hS6.out.qb.s0C P.users).c1; have f2 := ((hS6.out.qb.s0C P.users).s1 (.slice none 0 0)).frz 2; have y2 := ((hS6.out.qb.s0C P.users).s1 (.slice none 0 0)).c2; have f3 := (((hS6.out.qb.s0C P.users).s1 (.slice none 0 0)).s2 (.slice o6 n6 c6)).frz 3; have y3 := (((hS6.out.qb.s0C P.users).s1 (.slice none 0 0)).s2 (.slice o6 n6 c6)).c3
    refine hK.out _ _ ?_ (fun hHeld => ?_)
    · exact hS6.out.p.cells
    clear hK K
    try simp only [Act.put, List.setIfInBounds_toArray, List.set_cons_zero, List.set_cons_succ]
    refine wpAnyH_take (i := 5) (oi := { dst := some 15, op := Op.build 26 #[(0, Operand.tmp 11), (2, Operand.tmp 14)], type := 26, pos := "hardy.go:77", after := #[{ on := 1, ground := Ground.data }, { on := 4, ground := Ground.data }], guard := none }) (v := ?_) rfl (by kernel_rfl) (by kernel_rfl) (by kernel_rfl) (fun _ _ _ h => h) (Or.inl ⟨by rfl, ?_⟩) (by assumption) ?_
    rotate_left
    · intro w hSw; (try dsimp only at hSw); go_simp <;> with_reducible rfl
    simp only [Act.put, List.setIfInBounds_toArray, List.set_cons_zero, List.set_cons_succ]
    refine wpAnyH_ready (rs := [7]) (by kernel_rfl) (by simp) ?_
    refine AllReadyH.cons (o := { dst := none, op := Op.store 26 (Operand.tmp 5) (Operand.tmp 15), type := 0, pos := "hardy.go:77", after := #[{ on := 6, ground := Ground.data }, { on := 5, ground := Ground.data }, { on := 4, ground := Ground.chain }, { on := 0, ground := Ground.phase }, { on := 1, ground := Ground.phase }, { on := 2, ground := Ground.phase }, { on := 3, ground := Ground.phase }, { on := 4, ground := Ground.phase }, { on := 5, ground := Ground.phase }, { on := 6, ground := Ground.phase }], guard := none }) rfl (fun K hK => ?_) AllReadyH.nil
    go_simp
    refine hK.out _ _ ?_ (fun hHeld => ?_)
    · exact ⟨(hS6.out.close P.users (.slice o6 n6 c6)).pb.c0, (hS6.out.close P.users (.slice o6 n6 c6)).pb.c2⟩
    clear hK K
    try simp only [Act.put, List.setIfInBounds_toArray, List.set_cons_zero, List.set_cons_succ]
    refine wpAnyH_done (by kernel_rfl) ?_ _
    skip
    have hQ := hide' (hS6.out.close P.users (.slice o6 n6 c6))
    go_wp2
    go_meet
    exact ⟨_, o6, n6, c6, rfl, hQ⟩
  case rest =>
  clear hS3 KI
  obtain ⟨gq, ob, nb, cb, rfl, hQ⟩ := hcut
  have q1 := hQ.out.pb.c1
  go_upto_block 0 with fail
  clear q1
  go_cut [19, 7] from 20 to 34 (fun _ _ wx => ∃ oa na ca, Hid (Lq w P (.slice ow P.who.length cw) (.slice of P.fixed.length cf) (.slice or P.rules.length cr) x gq wx P.users (.slice oa na ca) (.slice ob nb cb) (.slice none 0 0) (.slice oa na ca) (.slice ob nb cb) (.slice none 0 0) (lesP P x).who P.fixed []))
  case first =>
    as_aux_lemma =>
    go_wp2
    go_loopw [19, 7] (fun kv _ wr => ∃ (j : Nat) (oa : Option Addr) (na ca : Nat), j ≤ P.who.length ∧ kv = .int .i64 (j : Int) ∧ Hid (Lq w P (.slice ow P.who.length cw) (.slice of P.fixed.length cf) (.slice or P.rules.length cr) x gq wr P.users (.slice oa na ca) (.slice ob nb cb) (.slice none 0 0) (.slice oa na ca) (.slice ob nb cb) (.slice none 0 0) ((lesP P x).who.take j) P.fixed [])) (fun kv _ _ => ((P.who.length : Int) - intOf kv).toNat)
    case atStart => exact ⟨0, none, 0, 0, Nat.zero_le _, rfl, hQ⟩
    case round =>
      clear hQ
      obtain ⟨j, oa, na, ca, hj, rfl, hQ⟩ := hrel
      by_cases hlt : j < P.who.length
      · as_aux_lemma =>
        have hlt' : (j : Int) < (P.who.length : Int) := by omega
        obtain ⟨y, hy⟩ : ∃ y, P.who[j]? = some y := ⟨_, List.getElem?_eq_getElem hlt⟩
        obtain ⟨g, o, hog, cy⟩ : ∃ g o, ow = some ⟨g, o, none⟩ ∧ wr.cell? ⟨g, o + j, none⟩ = some (.int .u64 (y : Int)) := by
          obtain ⟨om2, cm2, e, _, hc⟩ := h'.out.who.below hQ.out.be (Nat.le_refl _)
          obtain ⟨gm, o, e2, e3⟩ := hc j y hy
          cases e
          exact ⟨gm, o, e2, e3⟩
        subst hog
        have hyl : y < 18446744073709551616 := hk'.out.b y (List.mem_of_getElem? hy)
        have hT : Hid ((lesP P x).who.take (j + 1) = (lesP P x).who.take j ++ [mnW y x]) := by
          show (P.who.map fun z => mnW z x).take (j + 1) = (P.who.map fun z => mnW z x).take j ++ [mnW y x]
          rw [List.take_add_one, List.getElem?_map, hy]
          rfl
        have hTl : ((lesP P x).who.take j).length ≤ 1000000 := by
          rw [List.length_take]; omega
        have KO : Hid (∀ V, Calls Tryz.prog 21 #[.int .u64 (y : Int)] V fun e w' => e = .returned (.agg #[.int .u64 (y : Int)]) ∧ Below V.heap.size V w') := fun V => ofH (y : Int) V
        have KM : Hid (∀ V, Calls Tryz.prog 39 #[.agg #[.int .u64 (y : Int)], .agg #[.int .u64 (x : Int)]] V fun e w' => e = .returned (.agg #[.int .u64 ((mnW y x : Nat) : Int)]) ∧ Below V.heap.size V w') := fun V => M.minus64 y x hyl hx V
        have KWd : Hid (∀ V, Calls Tryz.prog 32 #[.agg #[.int .u64 ((mnW y x : Nat) : Int)]] V fun e w' => e = .returned (.int .u64 ((mnW y x : Nat) : Int)) ∧ Below V.heap.size V w') := fun V => M.word64 _ V
        generalize mnW y x = z at *
        generalize (lesP P x).who.take j = T0 at *
        clear hy
        go_upto_region 5 with fail
        have hQd := hide' (hQ.out.over (Below.refl _ wr).drew)
        have c1d := hQd.out.qb.c1
        have hSS : Hid (∀ V, Lq w P (.slice (some ⟨g, o, none⟩) P.who.length cw) (.slice of P.fixed.length cf) (.slice or P.rules.length cr) x gq V P.users (.slice oa na ca) (.slice ob nb cb) (.slice none 0 0) (.slice oa na ca) (.slice ob nb cb) (.slice none 0 0) T0 P.fixed [] → V.cell? ⟨w.heap.size + 1, 0, none⟩ = some (.int .u64 (x : Int))) := fun V hV => hV.bl.c
        clear hQ cy
        refine wp_region_held_drew (S := (fun V => V.cell? ⟨w.heap.size + 1, 0, none⟩ = some (.int .u64 (x : Int)))) (by kernel_rfl) ?_ (fun hHeld => ?_)
        · exact hSS.out _ hQd.out
        refine wpAnyH_take (i := 0) (oi := { dst := some 23, op := Op.fieldAddr 26 (Operand.tmp 5) 1, type := 0, pos := "hardy.go:79", after := #[], guard := none }) (v := ?_) rfl (by kernel_rfl) (by kernel_rfl) (by kernel_rfl) (fun _ _ _ h => h) (Or.inl ⟨by rfl, ?_⟩) (by assumption) ?_
        rotate_left
        · intro w hSw; (try dsimp only at hSw); go_simp <;> with_reducible rfl
        simp only [Act.put, List.setIfInBounds_toArray, List.set_cons_zero, List.set_cons_succ]
        refine wpAnyH_take (i := 2) (oi := { dst := some 25, op := Op.move (Operand.tmp 7), type := 27, pos := "hardy.go:79", after := #[], guard := none }) (v := ?_) rfl (by kernel_rfl) (by kernel_rfl) (by kernel_rfl) (fun _ _ _ h => h) (Or.inl ⟨by rfl, ?_⟩) (by assumption) ?_
        rotate_left
        · intro w hSw; (try dsimp only at hSw); go_simp <;> with_reducible rfl
        simp only [Act.put, List.setIfInBounds_toArray, List.set_cons_zero, List.set_cons_succ]
        refine wpAnyH_take (i := 4) (oi := { dst := some 27, op := Op.load 50 (Operand.tmp 3), type := 50, pos := "hardy.go:79", after := #[], guard := none }) (v := ?_) rfl (by kernel_rfl) (by kernel_rfl) (by kernel_rfl) (fun _ _ _ h => h) (Or.inl ⟨by rfl, ?_⟩) (by assumption) ?_
        rotate_left
        · intro w hSw; (try dsimp only at hSw); go_simp <;> with_reducible rfl
        simp only [Act.put, List.setIfInBounds_toArray, List.set_cons_zero, List.set_cons_succ]
        refine wpAnyH_ready (rs := [1, 3]) (by kernel_rfl) (by simp) ?_
        refine AllReadyH.cons (o := { dst := some 24, op := Op.load 22 (Operand.tmp 23), type := 22, pos := "hardy.go:79", after := #[{ on := 0, ground := Ground.data }], guard := none }) rfl (fun K hK => ?_) ?_
        · skip
          go_simp
          refine hK.out _ _ ?_ (fun hHeld => ?_)
          · exact hSS.out _ hQd.out
          clear hK K
          try simp only [Act.put, List.setIfInBounds_toArray, List.set_cons_zero, List.set_cons_succ]
          refine wpAnyH_ready (rs := [3]) (by kernel_rfl) (by simp) ?_
          refine AllReadyH.cons (o := { dst := some 26, op := Op.call { callee := Callee.value (Operand.func 21), args := #[Operand.tmp 25], argTypes := #[27] }, type := 50, pos := "hardy.go:79", after := #[{ on := 2, ground := Ground.data }], guard := none }) rfl (fun K hK => ?_) AllReadyH.nil
          go_simp
          go_at_call 21; refine (KO.out _).mono ?_; rintro e v3 ⟨rfl, hb3⟩; have hQ3 := hide' (hQd.out.over hb3); have c1_3 := hQ3.out.qb.c1; (try dsimp only)
          refine hK.out _ _ ?_ (fun hHeld => ?_)
          · exact hSS.out _ hQ3.out
          clear hK K
          try simp only [Act.put, List.setIfInBounds_toArray, List.set_cons_zero, List.set_cons_succ]
          refine wpAnyH_ready (rs := [5]) (by kernel_rfl) (by simp) ?_
          refine AllReadyH.cons (o := { dst := some 28, op := Op.call { callee := Callee.value (Operand.func 39), args := #[Operand.tmp 26, Operand.tmp 27], argTypes := #[50, 50] }, type := 50, pos := "hardy.go:79", after := #[{ on := 3, ground := Ground.data }, { on := 4, ground := Ground.data }, { on := 3, ground := Ground.chain }], guard := none }) rfl (fun K hK => ?_) AllReadyH.nil
          go_simp
          go_at_call 39; refine (KM.out _).mono ?_; rintro e v5 ⟨rfl, hb5⟩; have hQ5 := hide' (hQ3.out.over hb5); have c1_5 := hQ5.out.qb.c1; (try dsimp only)
          refine hK.out _ _ ?_ (fun hHeld => ?_)
          · exact hSS.out _ hQ5.out
          clear hK K
          try simp only [Act.put, List.setIfInBounds_toArray, List.set_cons_zero, List.set_cons_succ]
          refine wpAnyH_ready (rs := [6]) (by kernel_rfl) (by simp) ?_
          refine AllReadyH.cons (o := { dst := some 29, op := Op.call { callee := Callee.value (Operand.func 32), args := #[Operand.tmp 28], argTypes := #[50] }, type := 27, pos := "hardy.go:79", after := #[{ on := 5, ground := Ground.data }, { on := 5, ground := Ground.chain }], guard := none }) rfl (fun K hK => ?_) AllReadyH.nil
          go_simp
          go_at_call 32; refine (KWd.out _).mono ?_; rintro e v6 ⟨rfl, hb6⟩; have hQ6 := hide' (hQ5.out.over hb6); have c1_6 := hQ6.out.qb.c1; (try dsimp only)
          refine hK.out _ _ ?_ (fun hHeld => ?_)
          · exact hSS.out _ hQ6.out
          clear hK K
          try simp only [Act.put, List.setIfInBounds_toArray, List.set_cons_zero, List.set_cons_succ]
          refine wpAnyH_ready (rs := [7]) (by kernel_rfl) (by simp) ?_
          refine AllReadyH.cons (o := { dst := some 30, op := Op.buildSlice 22 1 #[(0, Operand.tmp 29)], type := 22, pos := "hardy.go:79", after := #[{ on := 6, ground := Ground.data }], guard := none }) rfl (fun K hK => ?_) AllReadyH.nil
          go_simp
          have c1_7 := (hQ6.out.over ((Below.refl _ v6).alloc (Nat.le_refl _) (.cells #[.int .u64 (z : Int)] 27))).qb.c1; (try dsimp only)
          refine hK.out _ _ ?_ (fun hHeld => ?_)
          · exact hSS.out _ (hQ6.out.over ((Below.refl _ v6).alloc (Nat.le_refl _) _))
          clear hK K
          try simp only [Act.put, List.setIfInBounds_toArray, List.set_cons_zero, List.set_cons_succ]
          refine wpAnyH_ready (rs := [8]) (by kernel_rfl) (by simp) ?_
          refine AllReadyH.cons (o := { dst := some 31, op := Op.call { callee := Callee.builtin Builtin.append, args := #[Operand.tmp 24, Operand.tmp 30], argTypes := #[22, 22] }, type := 22, pos := "hardy.go:79", after := #[{ on := 1, ground := Ground.data }, { on := 7, ground := Ground.data }, { on := 6, ground := Ground.chain }], guard := none }) rfl (fun K hK => ?_) AllReadyH.nil
          rw [if_pos (by rfl)]
          refine Lq.wapp1 _ _ hQ6.out z rfl rfl rfl hTl ?_; intro oD nD cD wD hD; have hD' := hide' hD; have fD := hD.qb.frz 1; have dD := hD.qb.c1; clear hD; have hE9 := hide' (hD'.out.put (hD'.out.qb.s1 (.slice oD nD cD))); (try dsimp only)
          refine hK.out _ _ ?_ (fun hHeld => ?_)
          · exact hD'.out.bl.c
          clear hK K
          try simp only [Act.put, List.setIfInBounds_toArray, List.set_cons_zero, List.set_cons_succ]
          refine wpAnyH_take (i := 9) (oi := { dst := some 32, op := Op.fieldAddr 26 (Operand.tmp 5) 1, type := 0, pos := "hardy.go:79", after := #[{ on := 0, ground := Ground.phase }, { on := 1, ground := Ground.phase }, { on := 2, ground := Ground.phase }, { on := 3, ground := Ground.phase }, { on := 4, ground := Ground.phase }, { on := 5, ground := Ground.phase }, { on := 6, ground := Ground.phase }, { on := 7, ground := Ground.phase }, { on := 8, ground := Ground.phase }], guard := none }) (v := ?_) rfl (by kernel_rfl) (by kernel_rfl) (by kernel_rfl) (fun _ _ _ h => h) (Or.inl ⟨by rfl, ?_⟩) (by assumption) ?_
          rotate_left
          · intro w hSw; (try dsimp only at hSw); go_simp <;> with_reducible rfl
          simp only [Act.put, List.setIfInBounds_toArray, List.set_cons_zero, List.set_cons_succ]
          refine wpAnyH_ready (rs := [10]) (by kernel_rfl) (by simp) ?_
          refine AllReadyH.cons (o := { dst := none, op := Op.store 22 (Operand.tmp 32) (Operand.tmp 31), type := 0, pos := "hardy.go:79", after := #[{ on := 9, ground := Ground.data }, { on := 8, ground := Ground.data }, { on := 8, ground := Ground.chain }, { on := 0, ground := Ground.phase }, { on := 1, ground := Ground.phase }, { on := 2, ground := Ground.phase }, { on := 3, ground := Ground.phase }, { on := 4, ground := Ground.phase }, { on := 5, ground := Ground.phase }, { on := 6, ground := Ground.phase }, { on := 7, ground := Ground.phase }, { on := 8, ground := Ground.phase }], guard := none }) rfl (fun K hK => ?_) AllReadyH.nil
          go_simp
          refine hK.out _ _ ?_ (fun hHeld => ?_)
          · exact hE9.out.bl.c
          clear hK K
          try simp only [Act.put, List.setIfInBounds_toArray, List.set_cons_zero, List.set_cons_succ]
          refine wpAnyH_done (by kernel_rfl) ?_ _
          skip
          clear hD' fD dD
          go_wp2
          exact ⟨⟨j + 1, oD, nD, cD, by omega, by go_num, by rw [hT.out]; exact hE9⟩, by simp [intOf]; omega⟩
        refine AllReadyH.cons (o := { dst := some 26, op := Op.call { callee := Callee.value (Operand.func 21), args := #[Operand.tmp 25], argTypes := #[27] }, type := 50, pos := "hardy.go:79", after := #[{ on := 2, ground := Ground.data }], guard := none }) rfl (fun K hK => ?_) AllReadyH.nil
        go_simp
        go_at_call 21; refine (KO.out _).mono ?_; rintro e v3 ⟨rfl, hb3⟩; have hQ3 := hide' (hQd.out.over hb3); have c1_3 := hQ3.out.qb.c1; (try dsimp only)
        refine hK.out _ _ ?_ (fun hHeld => ?_)
        · exact hSS.out _ hQ3.out
        clear hK K
        try simp only [Act.put, List.setIfInBounds_toArray, List.set_cons_zero, List.set_cons_succ]
        refine wpAnyH_ready (rs := [1, 5]) (by kernel_rfl) (by simp) ?_
        refine AllReadyH.cons (o := { dst := some 24, op := Op.load 22 (Operand.tmp 23), type := 22, pos := "hardy.go:79", after := #[{ on := 0, ground := Ground.data }], guard := none }) rfl (fun K hK => ?_) ?_
        · skip
          go_simp
          refine hK.out _ _ ?_ (fun hHeld => ?_)
          · exact hSS.out _ hQ3.out
          clear hK K
          try simp only [Act.put, List.setIfInBounds_toArray, List.set_cons_zero, List.set_cons_succ]
          refine wpAnyH_ready (rs := [5]) (by kernel_rfl) (by simp) ?_
          refine AllReadyH.cons (o := { dst := some 28, op := Op.call { callee := Callee.value (Operand.func 39), args := #[Operand.tmp 26, Operand.tmp 27], argTypes := #[50, 50] }, type := 50, pos := "hardy.go:79", after := #[{ on := 3, ground := Ground.data }, { on := 4, ground := Ground.data }, { on := 3, ground := Ground.chain }], guard := none }) rfl (fun K hK => ?_) AllReadyH.nil
          go_simp
          go_at_call 39; refine (KM.out _).mono ?_; rintro e v5 ⟨rfl, hb5⟩; have hQ5 := hide' (hQ3.out.over hb5); have c1_5 := hQ5.out.qb.c1; (try dsimp only)
          refine hK.out _ _ ?_ (fun hHeld => ?_)
          · exact hSS.out _ hQ5.out
          clear hK K
          try simp only [Act.put, List.setIfInBounds_toArray, List.set_cons_zero, List.set_cons_succ]
          refine wpAnyH_ready (rs := [6]) (by kernel_rfl) (by simp) ?_
          refine AllReadyH.cons (o := { dst := some 29, op := Op.call { callee := Callee.value (Operand.func 32), args := #[Operand.tmp 28], argTypes := #[50] }, type := 27, pos := "hardy.go:79", after := #[{ on := 5, ground := Ground.data }, { on := 5, ground := Ground.chain }], guard := none }) rfl (fun K hK => ?_) AllReadyH.nil
          go_simp
          go_at_call 32; refine (KWd.out _).mono ?_; rintro e v6 ⟨rfl, hb6⟩; have hQ6 := hide' (hQ5.out.over hb6); have c1_6 := hQ6.out.qb.c1; (try dsimp only)
          refine hK.out _ _ ?_ (fun hHeld => ?_)
          · exact hSS.out _ hQ6.out
          clear hK K
          try simp only [Act.put, List.setIfInBounds_toArray, List.set_cons_zero, List.set_cons_succ]
          refine wpAnyH_ready (rs := [7]) (by kernel_rfl) (by simp) ?_
          refine AllReadyH.cons (o := { dst := some 30, op := Op.buildSlice 22 1 #[(0, Operand.tmp 29)], type := 22, pos := "hardy.go:79", after := #[{ on := 6, ground := Ground.data }], guard := none }) rfl (fun K hK => ?_) AllReadyH.nil
          go_simp
          have c1_7 := (hQ6.out.over ((Below.refl _ v6).alloc (Nat.le_refl _) (.cells #[.int .u64 (z : Int)] 27))).qb.c1; (try dsimp only)
          refine hK.out _ _ ?_ (fun hHeld => ?_)
          · exact hSS.out _ (hQ6.out.over ((Below.refl _ v6).alloc (Nat.le_refl _) _))
          clear hK K
          try simp only [Act.put, List.setIfInBounds_toArray, List.set_cons_zero, List.set_cons_succ]
          refine wpAnyH_ready (rs := [8]) (by kernel_rfl) (by simp) ?_
          refine AllReadyH.cons (o := { dst := some 31, op := Op.call { callee := Callee.builtin Builtin.append, args := #[Operand.tmp 24, Operand.tmp 30], argTypes := #[22, 22] }, type := 22, pos := "hardy.go:79", after := #[{ on := 1, ground := Ground.data }, { on := 7, ground := Ground.data }, { on := 6, ground := Ground.chain }], guard := none }) rfl (fun K hK => ?_) AllReadyH.nil
          rw [if_pos (by rfl)]
          refine Lq.wapp1 _ _ hQ6.out z rfl rfl rfl hTl ?_; intro oD nD cD wD hD; have hD' := hide' hD; have fD := hD.qb.frz 1; have dD := hD.qb.c1; clear hD; have hE9 := hide' (hD'.out.put (hD'.out.qb.s1 (.slice oD nD cD))); (try dsimp only)
          refine hK.out _ _ ?_ (fun hHeld => ?_)
          · exact hD'.out.bl.c
          clear hK K
          try simp only [Act.put, List.setIfInBounds_toArray, List.set_cons_zero, List.set_cons_succ]
          refine wpAnyH_take (i := 9) (oi := { dst := some 32, op := Op.fieldAddr 26 (Operand.tmp 5) 1, type := 0, pos := "hardy.go:79", after := #[{ on := 0, ground := Ground.phase }, { on := 1, ground := Ground.phase }, { on := 2, ground := Ground.phase }, { on := 3, ground := Ground.phase }, { on := 4, ground := Ground.phase }, { on := 5, ground := Ground.phase }, { on := 6, ground := Ground.phase }, { on := 7, ground := Ground.phase }, { on := 8, ground := Ground.phase }], guard := none }) (v := ?_) rfl (by kernel_rfl) (by kernel_rfl) (by kernel_rfl) (fun _ _ _ h => h) (Or.inl ⟨by rfl, ?_⟩) (by assumption) ?_
          rotate_left
          · intro w hSw; (try dsimp only at hSw); go_simp <;> with_reducible rfl
          simp only [Act.put, List.setIfInBounds_toArray, List.set_cons_zero, List.set_cons_succ]
          refine wpAnyH_ready (rs := [10]) (by kernel_rfl) (by simp) ?_
          refine AllReadyH.cons (o := { dst := none, op := Op.store 22 (Operand.tmp 32) (Operand.tmp 31), type := 0, pos := "hardy.go:79", after := #[{ on := 9, ground := Ground.data }, { on := 8, ground := Ground.data }, { on := 8, ground := Ground.chain }, { on := 0, ground := Ground.phase }, { on := 1, ground := Ground.phase }, { on := 2, ground := Ground.phase }, { on := 3, ground := Ground.phase }, { on := 4, ground := Ground.phase }, { on := 5, ground := Ground.phase }, { on := 6, ground := Ground.phase }, { on := 7, ground := Ground.phase }, { on := 8, ground := Ground.phase }], guard := none }) rfl (fun K hK => ?_) AllReadyH.nil
          go_simp
          refine hK.out _ _ ?_ (fun hHeld => ?_)
          · exact hE9.out.bl.c
          clear hK K
          try simp only [Act.put, List.setIfInBounds_toArray, List.set_cons_zero, List.set_cons_succ]
          refine wpAnyH_done (by kernel_rfl) ?_ _
          skip
          clear hD' fD dD
          go_wp2
          exact ⟨⟨j + 1, oD, nD, cD, by omega, by go_num, by rw [hT.out]; exact hE9⟩, by simp [intOf]; omega⟩
        refine AllReadyH.cons (o := { dst := some 28, op := Op.call { callee := Callee.value (Operand.func 39), args := #[Operand.tmp 26, Operand.tmp 27], argTypes := #[50, 50] }, type := 50, pos := "hardy.go:79", after := #[{ on := 3, ground := Ground.data }, { on := 4, ground := Ground.data }, { on := 3, ground := Ground.chain }], guard := none }) rfl (fun K hK => ?_) AllReadyH.nil
        go_simp
        go_at_call 39; refine (KM.out _).mono ?_; rintro e v5 ⟨rfl, hb5⟩; have hQ5 := hide' (hQ3.out.over hb5); have c1_5 := hQ5.out.qb.c1; (try dsimp only)
        refine hK.out _ _ ?_ (fun hHeld => ?_)
        · exact hSS.out _ hQ5.out
        clear hK K
        try simp only [Act.put, List.setIfInBounds_toArray, List.set_cons_zero, List.set_cons_succ]
        refine wpAnyH_ready (rs := [1, 6]) (by kernel_rfl) (by simp) ?_
        refine AllReadyH.cons (o := { dst := some 24, op := Op.load 22 (Operand.tmp 23), type := 22, pos := "hardy.go:79", after := #[{ on := 0, ground := Ground.data }], guard := none }) rfl (fun K hK => ?_) ?_
        · skip
          go_simp
          refine hK.out _ _ ?_ (fun hHeld => ?_)
          · exact hSS.out _ hQ5.out
          clear hK K
          try simp only [Act.put, List.setIfInBounds_toArray, List.set_cons_zero, List.set_cons_succ]
          refine wpAnyH_ready (rs := [6]) (by kernel_rfl) (by simp) ?_
          refine AllReadyH.cons (o := { dst := some 29, op := Op.call { callee := Callee.value (Operand.func 32), args := #[Operand.tmp 28], argTypes := #[50] }, type := 27, pos := "hardy.go:79", after := #[{ on := 5, ground := Ground.data }, { on := 5, ground := Ground.chain }], guard := none }) rfl (fun K hK => ?_) AllReadyH.nil
          go_simp
          go_at_call 32; refine (KWd.out _).mono ?_; rintro e v6 ⟨rfl, hb6⟩; have hQ6 := hide' (hQ5.out.over hb6); have c1_6 := hQ6.out.qb.c1; (try dsimp only)
          refine hK.out _ _ ?_ (fun hHeld => ?_)
          · exact hSS.out _ hQ6.out
          clear hK K
          try simp only [Act.put, List.setIfInBounds_toArray, List.set_cons_zero, List.set_cons_succ]
          refine wpAnyH_ready (rs := [7]) (by kernel_rfl) (by simp) ?_
          refine AllReadyH.cons (o := { dst := some 30, op := Op.buildSlice 22 1 #[(0, Operand.tmp 29)], type := 22, pos := "hardy.go:79", after := #[{ on := 6, ground := Ground.data }], guard := none }) rfl (fun K hK => ?_) AllReadyH.nil
          go_simp
          have c1_7 := (hQ6.out.over ((Below.refl _ v6).alloc (Nat.le_refl _) (.cells #[.int .u64 (z : Int)] 27))).qb.c1; (try dsimp only)
          refine hK.out _ _ ?_ (fun hHeld => ?_)
          · exact hSS.out _ (hQ6.out.over ((Below.refl _ v6).alloc (Nat.le_refl _) _))
          clear hK K
          try simp only [Act.put, List.setIfInBounds_toArray, List.set_cons_zero, List.set_cons_succ]
          refine wpAnyH_ready (rs := [8]) (by kernel_rfl) (by simp) ?_
          refine AllReadyH.cons (o := { dst := some 31, op := Op.call { callee := Callee.builtin Builtin.append, args := #[Operand.tmp 24, Operand.tmp 30], argTypes := #[22, 22] }, type := 22, pos := "hardy.go:79", after := #[{ on := 1, ground := Ground.data }, { on := 7, ground := Ground.data }, { on := 6, ground := Ground.chain }], guard := none }) rfl (fun K hK => ?_) AllReadyH.nil
          rw [if_pos (by rfl)]
          refine Lq.wapp1 _ _ hQ6.out z rfl rfl rfl hTl ?_; intro oD nD cD wD hD; have hD' := hide' hD; have fD := hD.qb.frz 1; have dD := hD.qb.c1; clear hD; have hE9 := hide' (hD'.out.put (hD'.out.qb.s1 (.slice oD nD cD))); (try dsimp only)
          refine hK.out _ _ ?_ (fun hHeld => ?_)
          · exact hD'.out.bl.c
          clear hK K
          try simp only [Act.put, List.setIfInBounds_toArray, List.set_cons_zero, List.set_cons_succ]
          refine wpAnyH_take (i := 9) (oi := { dst := some 32, op := Op.fieldAddr 26 (Operand.tmp 5) 1, type := 0, pos := "hardy.go:79", after := #[{ on := 0, ground := Ground.phase }, { on := 1, ground := Ground.phase }, { on := 2, ground := Ground.phase }, { on := 3, ground := Ground.phase }, { on := 4, ground := Ground.phase }, { on := 5, ground := Ground.phase }, { on := 6, ground := Ground.phase }, { on := 7, ground := Ground.phase }, { on := 8, ground := Ground.phase }], guard := none }) (v := ?_) rfl (by kernel_rfl) (by kernel_rfl) (by kernel_rfl) (fun _ _ _ h => h) (Or.inl ⟨by rfl, ?_⟩) (by assumption) ?_
          rotate_left
          · intro w hSw; (try dsimp only at hSw); go_simp <;> with_reducible rfl
          simp only [Act.put, List.setIfInBounds_toArray, List.set_cons_zero, List.set_cons_succ]
          refine wpAnyH_ready (rs := [10]) (by kernel_rfl) (by simp) ?_
          refine AllReadyH.cons (o := { dst := none, op := Op.store 22 (Operand.tmp 32) (Operand.tmp 31), type := 0, pos := "hardy.go:79", after := #[{ on := 9, ground := Ground.data }, { on := 8, ground := Ground.data }, { on := 8, ground := Ground.chain }, { on := 0, ground := Ground.phase }, { on := 1, ground := Ground.phase }, { on := 2, ground := Ground.phase }, { on := 3, ground := Ground.phase }, { on := 4, ground := Ground.phase }, { on := 5, ground := Ground.phase }, { on := 6, ground := Ground.phase }, { on := 7, ground := Ground.phase }, { on := 8, ground := Ground.phase }], guard := none }) rfl (fun K hK => ?_) AllReadyH.nil
          go_simp
          refine hK.out _ _ ?_ (fun hHeld => ?_)
          · exact hE9.out.bl.c
          clear hK K
          try simp only [Act.put, List.setIfInBounds_toArray, List.set_cons_zero, List.set_cons_succ]
          refine wpAnyH_done (by kernel_rfl) ?_ _
          skip
          clear hD' fD dD
          go_wp2
          exact ⟨⟨j + 1, oD, nD, cD, by omega, by go_num, by rw [hT.out]; exact hE9⟩, by simp [intOf]; omega⟩
        refine AllReadyH.cons (o := { dst := some 29, op := Op.call { callee := Callee.value (Operand.func 32), args := #[Operand.tmp 28], argTypes := #[50] }, type := 27, pos := "hardy.go:79", after := #[{ on := 5, ground := Ground.data }, { on := 5, ground := Ground.chain }], guard := none }) rfl (fun K hK => ?_) AllReadyH.nil
        go_simp
        go_at_call 32; refine (KWd.out _).mono ?_; rintro e v6 ⟨rfl, hb6⟩; have hQ6 := hide' (hQ5.out.over hb6); have c1_6 := hQ6.out.qb.c1; (try dsimp only)
        refine hK.out _ _ ?_ (fun hHeld => ?_)
        · exact hSS.out _ hQ6.out
        clear hK K
        try simp only [Act.put, List.setIfInBounds_toArray, List.set_cons_zero, List.set_cons_succ]
        refine wpAnyH_ready (rs := [1, 7]) (by kernel_rfl) (by simp) ?_
        refine AllReadyH.cons (o := { dst := some 24, op := Op.load 22 (Operand.tmp 23), type := 22, pos := "hardy.go:79", after := #[{ on := 0, ground := Ground.data }], guard := none }) rfl (fun K hK => ?_) ?_
        · skip
          go_simp
          refine hK.out _ _ ?_ (fun hHeld => ?_)
          · exact hSS.out _ hQ6.out
          clear hK K
          try simp only [Act.put, List.setIfInBounds_toArray, List.set_cons_zero, List.set_cons_succ]
          refine wpAnyH_ready (rs := [7]) (by kernel_rfl) (by simp) ?_
          refine AllReadyH.cons (o := { dst := some 30, op := Op.buildSlice 22 1 #[(0, Operand.tmp 29)], type := 22, pos := "hardy.go:79", after := #[{ on := 6, ground := Ground.data }], guard := none }) rfl (fun K hK => ?_) AllReadyH.nil
          go_simp
          have c1_7 := (hQ6.out.over ((Below.refl _ v6).alloc (Nat.le_refl _) (.cells #[.int .u64 (z : Int)] 27))).qb.c1; (try dsimp only)
          refine hK.out _ _ ?_ (fun hHeld => ?_)
          · exact hSS.out _ (hQ6.out.over ((Below.refl _ v6).alloc (Nat.le_refl _) _))
          clear hK K
          try simp only [Act.put, List.setIfInBounds_toArray, List.set_cons_zero, List.set_cons_succ]
          refine wpAnyH_ready (rs := [8]) (by kernel_rfl) (by simp) ?_
          refine AllReadyH.cons (o := { dst := some 31, op := Op.call { callee := Callee.builtin Builtin.append, args := #[Operand.tmp 24, Operand.tmp 30], argTypes := #[22, 22] }, type := 22, pos := "hardy.go:79", after := #[{ on := 1, ground := Ground.data }, { on := 7, ground := Ground.data }, { on := 6, ground := Ground.chain }], guard := none }) rfl (fun K hK => ?_) AllReadyH.nil
          rw [if_pos (by rfl)]
          refine Lq.wapp1 _ _ hQ6.out z rfl rfl rfl hTl ?_; intro oD nD cD wD hD; have hD' := hide' hD; have fD := hD.qb.frz 1; have dD := hD.qb.c1; clear hD; have hE9 := hide' (hD'.out.put (hD'.out.qb.s1 (.slice oD nD cD))); (try dsimp only)
          refine hK.out _ _ ?_ (fun hHeld => ?_)
          · exact hD'.out.bl.c
          clear hK K
          try simp only [Act.put, List.setIfInBounds_toArray, List.set_cons_zero, List.set_cons_succ]
          refine wpAnyH_take (i := 9) (oi := { dst := some 32, op := Op.fieldAddr 26 (Operand.tmp 5) 1, type := 0, pos := "hardy.go:79", after := #[{ on := 0, ground := Ground.phase }, { on := 1, ground := Ground.phase }, { on := 2, ground := Ground.phase }, { on := 3, ground := Ground.phase }, { on := 4, ground := Ground.phase }, { on := 5, ground := Ground.phase }, { on := 6, ground := Ground.phase }, { on := 7, ground := Ground.phase }, { on := 8, ground := Ground.phase }], guard := none }) (v := ?_) rfl (by kernel_rfl) (by kernel_rfl) (by kernel_rfl) (fun _ _ _ h => h) (Or.inl ⟨by rfl, ?_⟩) (by assumption) ?_
          rotate_left
          · intro w hSw; (try dsimp only at hSw); go_simp <;> with_reducible rfl
          simp only [Act.put, List.setIfInBounds_toArray, List.set_cons_zero, List.set_cons_succ]
          refine wpAnyH_ready (rs := [10]) (by kernel_rfl) (by simp) ?_
          refine AllReadyH.cons (o := { dst := none, op := Op.store 22 (Operand.tmp 32) (Operand.tmp 31), type := 0, pos := "hardy.go:79", after := #[{ on := 9, ground := Ground.data }, { on := 8, ground := Ground.data }, { on := 8, ground := Ground.chain }, { on := 0, ground := Ground.phase }, { on := 1, ground := Ground.phase }, { on := 2, ground := Ground.phase }, { on := 3, ground := Ground.phase }, { on := 4, ground := Ground.phase }, { on := 5, ground := Ground.phase }, { on := 6, ground := Ground.phase }, { on := 7, ground := Ground.phase }, { on := 8, ground := Ground.phase }], guard := none }) rfl (fun K hK => ?_) AllReadyH.nil
          go_simp
          refine hK.out _ _ ?_ (fun hHeld => ?_)
          · exact hE9.out.bl.c
          clear hK K
          try simp only [Act.put, List.setIfInBounds_toArray, List.set_cons_zero, List.set_cons_succ]
          refine wpAnyH_done (by kernel_rfl) ?_ _
          skip
          clear hD' fD dD
          go_wp2
          exact ⟨⟨j + 1, oD, nD, cD, by omega, by go_num, by rw [hT.out]; exact hE9⟩, by simp [intOf]; omega⟩
        refine AllReadyH.cons (o := { dst := some 30, op := Op.buildSlice 22 1 #[(0, Operand.tmp 29)], type := 22, pos := "hardy.go:79", after := #[{ on := 6, ground := Ground.data }], guard := none }) rfl (fun K hK => ?_) AllReadyH.nil
        go_simp
        have c1_7 := (hQ6.out.over ((Below.refl _ v6).alloc (Nat.le_refl _) (.cells #[.int .u64 (z : Int)] 27))).qb.c1; (try dsimp only)
        refine hK.out _ _ ?_ (fun hHeld => ?_)
        · exact hSS.out _ (hQ6.out.over ((Below.refl _ v6).alloc (Nat.le_refl _) _))
        clear hK K
        try simp only [Act.put, List.setIfInBounds_toArray, List.set_cons_zero, List.set_cons_succ]
        refine wpAnyH_ready (rs := [1]) (by kernel_rfl) (by simp) ?_
        refine AllReadyH.cons (o := { dst := some 24, op := Op.load 22 (Operand.tmp 23), type := 22, pos := "hardy.go:79", after := #[{ on := 0, ground := Ground.data }], guard := none }) rfl (fun K hK => ?_) AllReadyH.nil
        go_simp
        refine hK.out _ _ ?_ (fun hHeld => ?_)
        · exact hSS.out _ (hQ6.out.over ((Below.refl _ v6).alloc (Nat.le_refl _) _))
        clear hK K
        try simp only [Act.put, List.setIfInBounds_toArray, List.set_cons_zero, List.set_cons_succ]
        refine wpAnyH_ready (rs := [8]) (by kernel_rfl) (by simp) ?_
        refine AllReadyH.cons (o := { dst := some 31, op := Op.call { callee := Callee.builtin Builtin.append, args := #[Operand.tmp 24, Operand.tmp 30], argTypes := #[22, 22] }, type := 22, pos := "hardy.go:79", after := #[{ on := 1, ground := Ground.data }, { on := 7, ground := Ground.data }, { on := 6, ground := Ground.chain }], guard := none }) rfl (fun K hK => ?_) AllReadyH.nil
        rw [if_pos (by rfl)]
        refine Lq.wapp1 _ _ hQ6.out z rfl rfl rfl hTl ?_; intro oD nD cD wD hD; have hD' := hide' hD; have fD := hD.qb.frz 1; have dD := hD.qb.c1; clear hD; have hE9 := hide' (hD'.out.put (hD'.out.qb.s1 (.slice oD nD cD))); (try dsimp only)
        refine hK.out _ _ ?_ (fun hHeld => ?_)
        · exact hD'.out.bl.c
        clear hK K
        try simp only [Act.put, List.setIfInBounds_toArray, List.set_cons_zero, List.set_cons_succ]
        refine wpAnyH_take (i := 9) (oi := { dst := some 32, op := Op.fieldAddr 26 (Operand.tmp 5) 1, type := 0, pos := "hardy.go:79", after := #[{ on := 0, ground := Ground.phase }, { on := 1, ground := Ground.phase }, { on := 2, ground := Ground.phase }, { on := 3, ground := Ground.phase }, { on := 4, ground := Ground.phase }, { on := 5, ground := Ground.phase }, { on := 6, ground := Ground.phase }, { on := 7, ground := Ground.phase }, { on := 8, ground := Ground.phase }], guard := none }) (v := ?_) rfl (by kernel_rfl) (by kernel_rfl) (by kernel_rfl) (fun _ _ _ h => h) (Or.inl ⟨by rfl, ?_⟩) (by assumption) ?_
        rotate_left
        · intro w hSw; (try dsimp only at hSw); go_simp <;> with_reducible rfl
        simp only [Act.put, List.setIfInBounds_toArray, List.set_cons_zero, List.set_cons_succ]
        refine wpAnyH_ready (rs := [10]) (by kernel_rfl) (by simp) ?_
        refine AllReadyH.cons (o := { dst := none, op := Op.store 22 (Operand.tmp 32) (Operand.tmp 31), type := 0, pos := "hardy.go:79", after := #[{ on := 9, ground := Ground.data }, { on := 8, ground := Ground.data }, { on := 8, ground := Ground.chain }, { on := 0, ground := Ground.phase }, { on := 1, ground := Ground.phase }, { on := 2, ground := Ground.phase }, { on := 3, ground := Ground.phase }, { on := 4, ground := Ground.phase }, { on := 5, ground := Ground.phase }, { on := 6, ground := Ground.phase }, { on := 7, ground := Ground.phase }, { on := 8, ground := Ground.phase }], guard := none }) rfl (fun K hK => ?_) AllReadyH.nil
        go_simp
        refine hK.out _ _ ?_ (fun hHeld => ?_)
        · exact hE9.out.bl.c
        clear hK K
        try simp only [Act.put, List.setIfInBounds_toArray, List.set_cons_zero, List.set_cons_succ]
        refine wpAnyH_done (by kernel_rfl) ?_ _
        skip
        clear hD' fD dD
        go_wp2
        exact ⟨⟨j + 1, oD, nD, cD, by omega, by go_num, by rw [hT.out]; exact hE9⟩, by simp [intOf]; omega⟩
      · as_aux_lemma =>
        obtain rfl : j = P.who.length := by omega
        have hT : (lesP P x).who.take P.who.length = (lesP P x).who := List.take_of_length_le (by show (P.who.map _).length ≤ _; rw [List.length_map]; exact Nat.le_refl _)
        rw [hT] at hQ
        go_wp2
        go_meet
        exact ⟨oa, na, ca, hQ⟩
  case rest =>
  clear hQ
  obtain ⟨oa, na, ca, hQ⟩ := hcut
  have hw1 := hide' h'.out.rules
  generalize hWs : (lesP P x).who = Ws at *
  have hWs' := hide' hWs
  clear hWs
  have q3 := hQ.out.pb.c3
  go_upto_block 2 with fail
  clear q3
  go_cut [37, 9] from 38 to 52 (fun _ _ wx => ∃ oc nc cc E, Hid (E.map Prod.fst = P.rules) ∧ Hid (Lq w P (.slice ow P.who.length cw) (.slice of P.fixed.length cf) (.slice or P.rules.length cr) x gq wx P.users (.slice oa na ca) (.slice ob nb cb) (.slice oc nc cc) (.slice oa na ca) (.slice ob nb cb) (.slice oc nc cc) Ws P.fixed E))
  case first =>
    as_aux_lemma =>
    go_wp2
    go_loopw [37, 9] (fun kv _ wr => ∃ (j : Nat) (oc : Option Addr) (nc cc : Nat) (E : List (Rl × Value)), j ≤ P.rules.length ∧ kv = .int .i64 (j : Int) ∧ Hid (E.map Prod.fst = P.rules.take j) ∧ Hid (Lq w P (.slice ow P.who.length cw) (.slice of P.fixed.length cf) (.slice or P.rules.length cr) x gq wr P.users (.slice oa na ca) (.slice ob nb cb) (.slice oc nc cc) (.slice oa na ca) (.slice ob nb cb) (.slice oc nc cc) Ws P.fixed E)) (fun kv _ _ => ((P.rules.length : Int) - intOf kv).toNat)
    case atStart => exact ⟨0, none, 0, 0, [], Nat.zero_le _, rfl, rfl, hQ⟩
    case round =>
      clear hQ
      obtain ⟨j, oc, nc, cc, E, hj, rfl, hE, hQ⟩ := hrel
      by_cases hlt : j < P.rules.length
      · as_aux_lemma =>
        have hlt' : (j : Int) < (P.rules.length : Int) := by omega
        obtain ⟨r, hr⟩ : ∃ r, P.rules[j]? = some r := ⟨_, List.getElem?_eq_getElem hlt⟩
        obtain ⟨oa3, ca3, e3, _, hcr⟩ := hw1.out
        obtain ⟨g, o, sv, r3, d1, d2, d3, d4⟩ := hcr j r hr
        injection e3 with e3a e3b e3c
        subst e3a
        subst r3
        have a1 := M.cell_over d1 hQ.out.be
        have a2 := M.cell_over d2 hQ.out.be
        have a3 := M.cell_over d3 hQ.out.be
        have hst := hsr.out r (List.mem_of_getElem? hr)
        obtain ⟨Wg, rfl⟩ : ∃ W, W = wr := ⟨_, rfl⟩
        have d4' := hide' (d4.below hQ.out.be (Nat.le_refl _))
        obtain ⟨os, cs, rfl, _, _⟩ := d4
        have hE2 : Hid (P.rules.take (j + 1) = P.rules.take j ++ [r]) := by show _ = _; rw [List.take_add_one, hr]; rfl
        have hEl : Hid (E.length ≤ 1000000) := by
          have := congrArg List.length hE.out
          rw [List.length_map, List.length_take] at this
          show E.length ≤ 1000000
          omega
        have hbA : Hid (Below Wg.heap.size Wg (Wg.alloc (.cells #[.int .i64 r.kind, .int .i64 r.k, .slice os r.steps.length cs] 46))) := (Below.refl _ Wg).alloc (Nat.le_refl _) _
        have hbx : Hid ((Wg.alloc (.cells #[.int .i64 r.kind, .int .i64 r.k, .slice os r.steps.length cs] 46)).rowIs Wg.heap.size 46 3 (ruW r.kind r.k (.slice os r.steps.length cs))) := World.rowIs_alloc Wg #[.int .i64 r.kind, .int .i64 r.k, .slice os r.steps.length cs] _ _ fun i hi => by
          have hi : i < 3 := hi
          rcases (show i = 0 ∨ i = 1 ∨ i = 2 by omega) with rfl | rfl | rfl <;> rfl
        clear d1 d2 d3 hr hcr e3b e3c
        go_upto_region 10 with fail
        clear a1 a2 a3
        have hs5 := hide' (World.rowIs.lt hbx.out)
        have KR := hide' (clone r.steps (.slice os r.steps.length cs) (Wg.alloc (.cells #[.int .i64 r.kind, .int .i64 r.k, .slice os r.steps.length cs] 46)) (d4'.out.below hbA.out (Nat.le_refl _)) hst)
        generalize Wg.alloc (.cells #[.int .i64 r.kind, .int .i64 r.k, .slice os r.steps.length cs] 46) = w5 at *
        have x2' := World.rowIs.cell hbx.out (i := 2) (by decide)
        simp [ruW] at x2'
        go_wp2_with fail
        clear x2'
        refine KR.out.mono ?_
        rintro e w7 ⟨v7, rfl, hO7, hb7⟩
        obtain ⟨o7, c7, rfl⟩ := own_shp hO7
        have hb7' : Hid (Below Wg.heap.size Wg w7) := hbA.out.trans (hb7.mono hbA.out.size)
        have hbx7 := hide' (World.rowIs.of_block hbx.out (hb7.block _ hs5.out))
        have f2 := World.rowIs.frozen hbx7.out 2
        have y2 := World.rowIs.cell hbx7.out (i := 2) (by decide)
        have hbx8 := World.rowIs.set hbx7.out 2 (.slice o7 r.steps.length c7)
        have x0 := World.rowIs.cell hbx8 (i := 0) (by decide)
        have x1 := World.rowIs.cell hbx8 (i := 1) (by decide)
        have x2 := World.rowIs.cell hbx8 (i := 2) (by decide)
        simp [ruW] at y2 x0 x1 x2
        have hb8 : Hid (Below Wg.heap.size Wg (w7.setCell ⟨Wg.heap.size, 2, none⟩ (.slice o7 r.steps.length c7))) := hb7'.out.setCell (p := ⟨Wg.heap.size, 2, none⟩) (Nat.le_refl _) _
        have hQ8 := hide' (hQ.out.over hb8.out)
        have hq3 := hQ8.out.qb.c3
        have hO8 : Hid ((w7.setCell ⟨Wg.heap.size, 2, none⟩ (.slice o7 r.steps.length c7)).ownsRow w5.heap.size 3 1 (.slice o7 r.steps.length c7) r.steps.length (cellsI r.steps)) := own_same hO7 fun g hg e => Below.heap_setCell _ _ _ _ (by have := own_ge' hO7 e; have := hs5.out; show g ≠ Wg.heap.size; omega)
        have hp8 : Hid ((w7.setCell ⟨Wg.heap.size, 2, none⟩ (.slice o7 r.steps.length c7)).ownsRow (w.heap.size + 3) 3 1 (.slice o7 r.steps.length c7) r.steps.length (cellsI r.steps)) := own_down hO8.out (by have := hQ.out.sz; have := hs5.out; omega)
        clear hO7 hb7 hb7' hbx7 hbx8 hbx hs5 KR hQ hb8 hO8 d4' hbA
        go_upto_region 11 with fail
        clear f2 y2
        generalize w7.setCell ⟨Wg.heap.size, 2, none⟩ (.slice o7 r.steps.length c7) = W8 at *
        go_wp2_with (at_builtin; refine wpList_plain rfl fun _ hK => Lq.wapp3 (.tmp 46) (.tmp 48) hQ8.out (r, .slice o7 r.steps.length c7) hp8.out rfl rfl rfl hEl.out fun oD nD cD wD hD => hK _ _ ?_; have hD' := hide' hD; have fD := hD.qb.frz 3; have dD := hD.qb.c3; clear hD)
        have hE9 := hide' (hD'.out.put (hD'.out.qb.s3 (.slice oD nD cD)))
        exact ⟨⟨j + 1, oD, nD, cD, _, by omega, by go_num, by rw [List.map_append, hE.out, hE2.out]; rfl, hE9⟩, by simp [intOf]; omega⟩
      · as_aux_lemma =>
        obtain rfl : j = P.rules.length := by omega
        rw [List.take_length] at hE
        go_wp2
        go_meet
        exact ⟨oc, nc, cc, E, hE, hQ⟩
  case rest =>
  clear hQ hw1
  obtain ⟨oc, nc, cc, E, hE, hQ⟩ := hcut
  have p0 := hQ.out.qb.c0
  have p1 := hQ.out.qb.c1
  have p2 := hQ.out.qb.c2
  have p3 := hQ.out.qb.c3
  have f0 := hQ.out.z.frz 0
  have y0 := hQ.out.z.c0
  have f1 := (hQ.out.z.s0C P.users).frz 1
  have y1 := (hQ.out.z.s0C P.users).c1
  have f2 := ((hQ.out.z.s0C P.users).s1 (.slice oa na ca)).frz 2
  have y2 := ((hQ.out.z.s0C P.users).s1 (.slice oa na ca)).c2
  have f3 := (((hQ.out.z.s0C P.users).s1 (.slice oa na ca)).s2 (.slice ob nb cb)).frz 3
  have y3 := (((hQ.out.z.s0C P.users).s1 (.slice oa na ca)).s2 (.slice ob nb cb)).c3
  have x0 := ((((hQ.out.z.s0C P.users).s1 (.slice oa na ca)).s2 (.slice ob nb cb)).s3 (.slice oc nc cc)).c0
  have x1 := ((((hQ.out.z.s0C P.users).s1 (.slice oa na ca)).s2 (.slice ob nb cb)).s3 (.slice oc nc cc)).c1
  have x2 := ((((hQ.out.z.s0C P.users).s1 (.slice oa na ca)).s2 (.slice ob nb cb)).s3 (.slice oc nc cc)).c2
  have x3 := ((((hQ.out.z.s0C P.users).s1 (.slice oa na ca)).s2 (.slice ob nb cb)).s3 (.slice oc nc cc)).c3
  have hF := hide' (hQ.out.fin (.int .i64 P.users) (.slice oa na ca) (.slice ob nb cb) (.slice oc nc cc))
  rw [hE.out] at hF
  have hXe : LsX P x Ws := ⟨by rw [← hWs'.out]; rfl⟩
  clear hQ hWs'
  go_wp2
  refine bodyPost_ret (v := .agg #[.int .i64 P.users, .slice oa na ca, .slice ob nb cb, .slice oc nc cc]) (by simp [results, Tryz.results20, go_sem, x0, x1, x2, x3]) rfl ?_
  unfold RsP
  rw [hXe.x]
  exact ⟨_, _, _, _, _, _, _, _, _, rfl, hF.out.1, hF.out.2.1, hF.out.2.2⟩
end Go.Proofs.YtmbdnhgmpmnhmaaGreatDoor.S
