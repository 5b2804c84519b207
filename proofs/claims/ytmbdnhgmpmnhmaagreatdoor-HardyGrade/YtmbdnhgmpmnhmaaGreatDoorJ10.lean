/- The document's Size and Full. -/
import Derived.Test.YtmbdnhgmpmnhmaaGreatDoorJ02
import Derived.Test.YtmbdnhgmpmnhmaaGreatDoorJ03
import Derived.Test.YtmbdnhgmpmnhmaaGreatDoorJ07
import Derived.Test.YtmbdnhgmpmnhmaaGreatDoorJ09
namespace Go.Proofs.YtmbdnhgmpmnhmaaGreatDoor.M
open Go.RowKit Go.Shelf
/-- The places of the first rows. -/
def plL (pl : Nat → Nat) (n : Nat) : List Int := (List.range n).map fun r => (pl r : Int)
theorem plL_len (pl : Nat → Nat) (n : Nat) : (plL pl n).length = n := by simp [plL]
theorem plL_at {pl : Nat → Nat} {n i : Nat} {z : Int} (h : (plL pl n)[i]? = some z) : i < n ∧ z = (pl i : Int) := by
  have hi := (List.getElem?_eq_some_iff.1 h).1
  rw [plL_len] at hi
  simp only [plL, List.getElem?_map, List.getElem?_range hi, Option.map_some, Option.some.injEq] at h
  exact ⟨hi, h.symm⟩
theorem KAt.mkV {W : World} {g : Nat} {S : Nat → Bool} (h : KAt W g S) : ∃ A, W.heap[g]? = some (.cells A 128 (0, 0)) ∧ MkV A S := by
  obtain ⟨c, h1, h2, h3⟩ := h
  exact ⟨c, h1, h2, h3⟩
theorem owns_lowM {W : World} {B B' : Nat} {e : TypeId} {size : Nat} {v : Value} {n : Nat} {xs : List Value} (h : W.ownsRow B e size v n xs) (hB : B' ≤ B) : W.ownsRow B' e size v n xs := by
  refine ⟨h.1, ?_⟩
  rcases h.2 with hn | ⟨g, cap, cur, rfl, hb0, rest⟩
  · exact .inl hn
  · exact .inr ⟨g, cap, cur, rfl, Nat.le_trans hB hb0, rest⟩
theorem slice12 (gm c : Nat) (hc : c ≤ 12) (w : World) : (Instr.sliceAt 130 (.pointer (some ⟨gm, 1, none⟩)) none (some (.int .i64 (c : Int))) none).run Tryz.prog w = .ok (.slice (some ⟨gm, 1, none⟩) c 12) w := by
  have h1 : (c : Int) ≤ 12 := by omega
  unfold Instr.sliceAt
  go_simp
/-- What Least answers. -/
def LeaP (w : World) (n : Nat) (R : Nat → Nat) (e : Ending) (w' : World) : Prop :=
  Hid (Below w.heap.size w w') ∧ ((n ≤ 12 ∧ ∃ pl v, e = .returned (.tuple #[v, .bool true]) ∧ Hid (Lex n R pl n) ∧ Hid (w'.ownsRow w.heap.size 3 1 v n (I.cellsI (plL pl n)))) ∨
    (e = .returned (.tuple #[.slice none 0 0, .bool false]) ∧ Hid (n ≤ 12 → ¬ Ind R (fun r => r < n))))
/-- What stands between the rows. -/
structure LeI (w : World) (gm gs : Nat) (rv : Value) (n : Nat) (R : Nat → Nat) (k : Nat) (S : Nat → Bool) (ow : Nat → Option Nat) (pl : Nat → Nat) (V : World) : Prop where
  mst : MSt w V gm rv n R ow pl (fun r => r < n)
  mks : KAt V gs S
  set : ∀ v, S v = true ↔ ∃ j, j < k ∧ pl j = v
  lex : Lex n R pl k
  new : w.heap.size ≤ gs
  ne : gs ≠ gm
section
variable {n : Nat} {R : Nat → Nat} {w : World} {oa : Option Addr} {cap : Nat}
set_option maxRecDepth 100000 in
set_option maxHeartbeats 2000000 in
theorem leastF (hA : RwA w (.slice oa n cap) n R) : Calls Tryz.prog 80 #[.slice oa n cap] w (LeaP w n R) := by
  have KF := hide' (fullF hA)
  have hA' := hide' hA
  clear hA
  go_enter Tryz.func80, Tryz.ntmps80
  go_wp2_with fail
  refine KF.out.mono ?_
  rintro e w1 (⟨hn, gm, ow, pl, rfl, hM⟩ | ⟨rfl, hb, hno⟩)
  · have h0 : Hid (LeI w gm w1.heap.size (.slice oa n cap) n R 0 (fun _ => false) ow pl (w1.alloc (.cells (List.replicate 64 (Value.bool false)).toArray 128))) := by
      have hb1 : Below w1.heap.size w1 (w1.alloc (.cells (List.replicate 64 (Value.bool false)).toArray 128)) := (Below.refl _ _).alloc (Nat.le_refl _) _
      have := hM.out.mat.lt
      exact ⟨hM.out.below hb1, mks0 w1, fun v => ⟨fun h => absurd h (by decide), fun ⟨_, h, _⟩ => absurd h (Nat.not_lt_zero _)⟩, ⟨hM.out.st.full, fun j hj => absurd hj (Nat.not_lt_zero _)⟩, hM.out.old.size, by omega⟩
    clear KF hM
    go_wp2
    go_loopw [7, 17] (fun _ p wr => ∃ (c : Nat) (S : Nat → Bool) (ow : Nat → Option Nat) (pl : Nat → Nat), c ≤ n ∧ p = .int .i64 (c : Int) ∧ Hid (LeI w gm w1.heap.size (.slice oa n cap) n R c S ow pl wr)) (fun _ p _ => ((n : Int) - intOf p).toNat)
    case atStart => exact ⟨0, _, ow, pl, Nat.zero_le _, rfl, h0⟩
    case round =>
      clear h0
      obtain ⟨c, S, ow, pl, hc, rfl, hI⟩ := hrel
      by_cases hlt : c < n
      · have hlt' : (c : Int) < (n : Int) := by omega
        obtain ⟨A, hAb, hV⟩ := hI.out.mks.mkV
        have hSr : S (pl c) = false := by
          cases e : S (pl c)
          · rfl
          · obtain ⟨j, hj, hp⟩ := (hI.out.set _).1 e
            have := hI.out.mst.st.full.inj j c (by omega) hlt hp
            omega
        have KS := hide' (settleF w wr gm (.slice oa n cap) n R ow pl S c A hV hA'.out hI.out.mst hn hlt (fun v hv => by
          obtain ⟨j, hj, hp⟩ := (hI.out.set v).1 hv
          exact ⟨j, by omega, hp⟩) hSr)
        have hinf : (Tryz.prog.info? 128).map (·.size) = some A.size := by rw [hV.1]; exact infoMk
        go_wp2_with (refine wpList_load_row rfl 128 _ rfl w1.heap.size rfl _ A _ _ hAb Tryz.underlying128 rfl hinf ?_)
        refine KS.out.mono ?_
        rintro e w3 ⟨ow', pl', rfl, hM3, hP3, hF3⟩
        have hp64 : pl' c < 64 := (hM3.out.st.own _ c id (hM3.out.st.has c hlt).2).1
        have hKs : Hid (KAt w3 w1.heap.size S) := hI.out.mks.of (hF3.out.block _ hI.out.mks.lt hI.out.ne hI.out.ne)
        have hst := settle_step hI.out.mst.st hM3.out.st hlt hI.out.set hI.out.lex hP3.out.1 hP3.out.2
        have hI2 : Hid (LeI w gm w1.heap.size (.slice oa n cap) n R (c + 1) (upd S (pl' c) true) ow' pl' (w3.setCell ⟨w1.heap.size, pl' c, none⟩ (.bool true))) :=
          ⟨⟨hM3.out.old.setCell hI.out.new _, hM3.out.new, hM3.out.mat.setOther hI.out.ne.symm _, hM3.out.st⟩, hKs.out.set _ _, hst.1, hst.2, hI.out.new, hI.out.ne⟩
        have ck := hKs.out.cell hp64
        have fk := hKs.out.frz (pl' c)
        have hp64' : ((pl' c : Nat) : Int) < 64 := by omega
        clear KS hI hM3 hP3 hF3 hKs hst hAb hV
        generalize pl' c = pp at *
        go_wp2
        exact ⟨⟨c + 1, _, _, _, by omega, by go_num, hI2⟩, by simp [intOf]; omega⟩
      · obtain rfl : c = n := by omega
        have hsl := slice12 gm c hn wr
        have hRI : I.RowI wr (.slice (some ⟨gm, 1, none⟩) c 12) (plL pl c) := by
          refine ⟨some ⟨gm, 1, none⟩, 12, by rw [plL_len], ⟨by rw [plL_len]; exact hn, fun e => by cases e⟩, fun i z hz => ?_⟩
          obtain ⟨hi, rfl⟩ := plL_at hz
          exact ⟨gm, 1, rfl, hI.out.mst.mat.cellP (by omega)⟩
        have KC := hide' (I.clone (plL pl c) _ wr hRI (by rw [plL_len]; omega))
        have hold := hide' hI.out.mst.old
        have hlex := hide' hI.out.lex
        clear hI hRI
        go_wp2_with fail
        refine KC.out.mono ?_
        rintro e w3 ⟨v', rfl, hown, hb3⟩
        have hown' := hide' hown
        have hB : Hid (Below w.heap.size w w3) := hold.out.trans (hb3.mono hold.out.size)
        have hs := hold.out.size
        clear KC hown hb3 hold hsl
        go_wp2
        go_ret2
        refine ⟨hB, .inl ⟨hn, pl, v', rfl, hlex, ?_⟩⟩
        have := hown'.out
        rw [plL_len] at this
        exact owns_lowM this hs
  · go_wp2
    go_ret2
    exact ⟨hb, .inr ⟨rfl, hno⟩⟩
end
end Go.Proofs.YtmbdnhgmpmnhmaaGreatDoor.M
namespace Go.Proofs.YtmbdnhgmpmnhmaaGreatDoor.M
open Go.RowKit Go.Shelf
attribute [local go_sem] Oper.semAt_some
theorem shlc (i : Nat) (hi : i < 64) : IntKind.u64.wrap (2 ^ i) = ((2 ^ i : Nat) : Int) := by
  have h := shl64 i hi
  rwa [show IntKind.u64.wrap 1 = 1 by decide, Int.one_mul] at h
theorem mkV0 : MkV (List.replicate 64 (Value.bool false)).toArray (fun _ => false) :=
  ⟨by simp, fun i hi => by
    simp only [List.getElem?_toArray]
    rw [List.getElem?_replicate, if_pos hi]⟩
/-- Which word Free tells. -/
def FreS (n : Nat) (R : Nat → Nat) (i : Int) (F : Nat) : Prop := ∀ u, F.testBit u = true ↔ (n ≤ 12 ∧ 0 ≤ i ∧ i < (n : Int) ∧ ∃ g, FullM n R g ∧ g i.toNat = u)
theorem FreS.one {n : Nat} {R : Nat → Nat} {i : Int} {F G : Nat} (h1 : FreS n R i F) (h2 : FreS n R i G) : F = G :=
  Nat.eq_of_testBit_eq fun u => by
    have a := h1 u
    have b := h2 u
    exact Bool.eq_iff_iff.2 (a.trans b.symm)
theorem FreS.zero {n : Nat} {R : Nat → Nat} {i : Int} (h : ¬ (n ≤ 12 ∧ 0 ≤ i ∧ i < (n : Int) ∧ ∃ g, FullM n R g)) : FreS n R i 0 := fun u =>
  ⟨fun x => by simp at x, fun ⟨h1, h2, h3, g, h4, _⟩ => absurd ⟨h1, h2, h3, g, h4⟩ h⟩
theorem Fr2.own2 {W1 W W' : World} {a b : Nat} {row : Option Nat} (h : Fr2 W1 W a b) (hg : W.grownBy W' row) (hr : ∀ r, row = some r → W1.heap.size ≤ r) : Fr2 W1 W' a b :=
  ⟨hg.os.trans h.os, hg.tape.trans h.tape, hg.output.trans h.output, Nat.le_trans h.size hg.size, fun k hk h1 h2 => (hg.block k (Nat.lt_of_lt_of_le hk h.size) (fun e => by have := hr k e.symm; omega)).trans (h.block k hk h1 h2)⟩
theorem Fr2.wide {W W' : World} {a b : Nat} (h : Fr2 W W' a a) : Fr2 W W' a b := ⟨h.os, h.tape, h.output, h.size, fun k hk h1 _ => h.block k hk h1 h1⟩
theorem Fr2.cell2 {W W' : World} {a b c o : Nat} {v : Value} (h : Fr2 W W' a b) (hc : W.cell? ⟨c, o, none⟩ = some v) (h1 : c ≠ a) (h2 : c ≠ b) : W'.cell? ⟨c, o, none⟩ = some v := by
  rw [← hc]
  have := h.block c (cell_lt hc) h1 h2
  simp only [World.cell?, this]
theorem Fr2.keeps2 {W W' : World} {gm b : Nat} {rv : Value} {pl : Nat → Nat} {ow : Nat → Option Nat} {t : TypeId} {v : Value} (h : Fr2 W W' gm b) (hm : MAt W gm rv pl ow) (hb : Boxed W b t v) : KeepsOthers W W' :=
  ⟨h.size, fun k o hk ho => by
    obtain ⟨c, hc, _⟩ := hm
    have hne : k ≠ gm := fun e => by
      subst e
      rw [hc] at hk
      cases hk
      simp [Obj.isCells] at ho
    have hnb : k ≠ b := fun e => by
      subst e
      have hb' : W.heap[k]? = some (.cells #[v] t) := hb
      rw [hb'] at hk
      cases hk
      simp [Obj.isCells] at ho
    exact (h.block k (Array.getElem?_eq_some_iff.1 hk).1 hne hnb).trans hk⟩
/-- What stands between the tries of Free. -/
structure FrI (W1 : World) (gm b7 : Nat) (rv : Value) (n : Nat) (R : Nat → Nat) (ow : Nat → Option Nat) (pl : Nat → Nat) (F : Nat) (V : World) : Prop where
  fr : Fr2 W1 V gm b7
  mat : MAt V gm rv pl ow
  st : Wst n R ow pl (fun r => r < n) No
  box : Boxed V b7 50 (.int .u64 (F : Int))
theorem FrI.own {W1 : World} {gm b7 : Nat} {rv : Value} {n : Nat} {R : Nat → Nat} {ow : Nat → Option Nat} {pl : Nat → Nat} {F : Nat} (hl : gm < W1.heap.size) (hb : b7 < W1.heap.size) {W W' : World} {row : Option Nat} (h : FrI W1 gm b7 rv n R ow pl F W) (hg : W.grownBy W' row) (hr : ∀ r, row = some r → W1.heap.size ≤ r ∧ ∃ o : Obj, W.heap[r]? = some o ∧ o.isCells = false) : FrI W1 gm b7 rv n R ow pl F W' :=
  ⟨h.fr.own2 hg fun r e => (hr r e).1, h.mat.own hl hg fun r e => (hr r e).1, h.st, (hg.block b7 h.box.lt (fun e => by have := (hr b7 e.symm).1; omega)).trans h.box⟩
section
variable {n : Nat} {R : Nat → Nat} {w : World} {oa : Option Addr} {cap : Nat}
end
end Go.Proofs.YtmbdnhgmpmnhmaaGreatDoor.M
namespace Go.Proofs.YtmbdnhgmpmnhmaaGreatDoor.M
open Go.RowKit Go.Shelf
/-- A row of words, wherever it lies. -/
def RowU (w : World) (v : Value) (L : List Nat) : Prop := ∃ oa cap, v = .slice oa L.length cap ∧ (L.length ≤ cap ∧ (oa = none → cap = 0)) ∧ ∀ (i : Nat) (z : Nat), L[i]? = some z → ∃ g o, oa = some ⟨g, o, none⟩ ∧ w.cell? ⟨g, o + i, none⟩ = some (.int .u64 (z : Int))
theorem RowU.below {w w' : World} {v : Value} {L : List Nat} {n : Nat} (h : RowU w v L) (hb : Below n w w') (hn : w.heap.size ≤ n) : RowU w' v L := by
  obtain ⟨oa, cap, e, e0, h⟩ := h
  refine ⟨oa, cap, e, e0, fun i z hz => ?_⟩
  obtain ⟨g, o, e1, e2⟩ := h i z hz
  exact ⟨g, o, e1, (hb.cell (p := ⟨g, o + i, none⟩) (Nat.lt_of_lt_of_le (cell_lt e2) hn)).trans e2⟩
def cellsU (L : List Nat) : List Value := L.map fun z : Nat => Value.int .u64 (z : Int)
theorem cellsU_at {L : List Nat} {j : Nat} {u : Value} (h : (cellsU L)[j]? = some u) : ∃ z, L[j]? = some z ∧ u = .int .u64 (z : Int) := by
  unfold cellsU at h
  rw [List.getElem?_map] at h
  cases hz : L[j]? with
  | none => rw [hz] at h; cases h
  | some z => rw [hz] at h; cases h; exact ⟨z, rfl, rfl⟩
theorem one_cellsU (L : List Nat) : ∀ u ∈ cellsU L, u.oneCell' = true := fun u hu => by
  obtain ⟨z, _, rfl⟩ := List.mem_map.1 hu
  rfl
theorem infoU : (Tryz.prog.info? 27).map (fun i => (i.zero, i.size, i.bytes)) = some (some (.int .u64 0), 1, 8) := by kernel_rfl
/-- The words of a row as a function. -/
def fn (L : List Nat) : Nat → Nat := fun r => L.getD r 0
theorem fn_at {L : List Nat} {r z : Nat} (h : L[r]? = some z) : fn L r = z := by simp [fn, List.getD_eq_getElem?_getD, h]
theorem fn_get {L : List Nat} {r : Nat} (h : r < L.length) : L[r]? = some (fn L r) := by
  rw [List.getElem?_eq_getElem h]; simp [fn, List.getD_eq_getElem?_getD, List.getElem?_eq_getElem h]
theorem fn_lt {L : List Nat} (h : ∀ z ∈ L, z < 18446744073709551616) (r : Nat) : fn L r < 18446744073709551616 := by
  cases e : L[r]? with
  | none => simp [fn, List.getD_eq_getElem?_getD, e]
  | some z => rw [fn_at e]; exact h z (List.mem_of_getElem? e)
theorem RowU.rwa {w : World} {v : Value} {L : List Nat} (h : RowU w v L) (ht : Tab w) (hw : ∀ z ∈ L, z < 18446744073709551616) : RwA w v L.length (fn L) := by
  obtain ⟨oa, cap, e, _, hc⟩ := h
  exact ⟨⟨oa, cap, e, fun r hr => hc r _ (fn_get hr)⟩, ht, fn_lt hw⟩
theorem RowU.shape {w : World} {v : Value} {L : List Nat} (h : RowU w v L) : ∃ oa cap, v = .slice oa L.length cap := by
  obtain ⟨oa, cap, e, _⟩ := h
  exact ⟨oa, cap, e⟩
theorem RowU.of_owns {w : World} {n₀ e : Nat} {v : Value} {n : Nat} {L : List Nat} (h : w.ownsRow n₀ e 1 v n (cellsU L)) : RowU w v L := by
  have hl : n = L.length := by have := h.1; simp [cellsU] at this; omega
  subst hl
  rcases h.2 with ⟨rfl, h0⟩ | ⟨g, cap, cur, rfl, _, hb, hcap, _, _, hcur⟩
  · refine ⟨none, 0, by rw [h0], ⟨by omega, fun _ => rfl⟩, fun i z hz => ?_⟩
    have := (List.getElem?_eq_some_iff.1 hz).1
    omega
  · refine ⟨_, cap, rfl, ⟨hcap, fun e => by cases e⟩, fun i z hz => ⟨g, 0, rfl, ?_⟩⟩
    have hi := (List.getElem?_eq_some_iff.1 hz).1
    have hcu : (cellsU L)[i]? = some (Value.int .u64 (z : Int)) := by simp [cellsU, hz]
    rw [Nat.zero_add, h.cellAt i (by simp; omega)]
    exact hcu
theorem owns_zeroU (w : World) : (w.alloc (.cells #[] 27)).ownsRow w.heap.size 27 1 (.slice (some ⟨w.heap.size, 0, none⟩) 0 0) 0 (cellsU []) := I.owns_zero w _
theorem RowU.cut {w : World} {oa : Option Addr} {cap : Nat} {L : List Nat} (h : RowU w (.slice oa L.length cap) L) (m : Nat) (hm : m ≤ L.length) : RowU w (.slice oa m cap) (L.take m) := by
  obtain ⟨oa', cap', e, e0, hc⟩ := h
  cases e
  refine ⟨oa, cap, by rw [List.length_take]; congr 1; omega, ⟨by rw [List.length_take]; omega, e0.2⟩, fun i z hz => ?_⟩
  have hi := (List.getElem?_eq_some_iff.1 hz).1
  rw [List.length_take] at hi
  rw [List.getElem?_take_of_lt (by omega)] at hz
  exact hc i z hz
end Go.Proofs.YtmbdnhgmpmnhmaaGreatDoor.M
namespace Go.Proofs.YtmbdnhgmpmnhmaaGreatDoor.M
open Go.RowKit Go.Shelf
def HAt (W : World) (g n : Nat) (hs : Nat → Int) : Prop := W.rowIs g 3 n (fun k => .int .i64 (hs k))
section
variable {W W' : World} {g n : Nat} {hs : Nat → Int}
theorem HAt.cell (h : HAt W g n hs) {k : Nat} (hk : k < n) : W.cell? ⟨g, k, none⟩ = some (.int .i64 (hs k)) := World.rowIs.cell h hk
theorem HAt.frz (h : HAt W g n hs) (k : Nat) : W.frozen? ⟨g, k, none⟩ = false := World.rowIs.frozen h k
theorem HAt.lt (h : HAt W g n hs) : g < W.heap.size := World.rowIs.lt h
theorem HAt.of (h : HAt W g n hs) (e : W'.heap[g]? = W.heap[g]?) : HAt W' g n hs := World.rowIs.of_block h e
theorem HAt.below (h : HAt W g n hs) (hb : Below W.heap.size W W') : HAt W' g n hs := h.of (hb.block g h.lt)
theorem HAt.set (h : HAt W g n hs) (k : Nat) (z : Int) : HAt (W.setCell ⟨g, k, none⟩ (.int .i64 z)) g n (upd hs k z) :=
  World.rowIs.congr (World.rowIs.set h k _) fun i hi => by
    by_cases e : i = k
    · subst e; rw [if_pos rfl, upd_same]
    · rw [if_neg e, upd_ne _ _ e]
theorem HAt.setOther (h : HAt W g n hs) {a o : Nat} (ha : g ≠ a) (v : Value) : HAt (W.setCell ⟨a, o, none⟩ v) g n hs := World.rowIs.setOther h ha v
end
/-- What turn answers. -/
def TurP (W : World) (gh gb n : Nat) (R : Nat → Nat) (hs : Nat → Int) (mt : Nat) (E D : Nat → Prop) (i : Nat) (e : Ending) (w' : World) : Prop :=
  Fr2 W w' gh gb ∧ ((e = .returned (.bool true) ∧ ∃ hs' mt', HAt w' gh n hs' ∧ Boxed w' gb 27 (.int .u64 ((mt' : Nat) : Int)) ∧ mt' < 18446744073709551616 ∧ Trn n R hs mt.testBit E D i hs' mt'.testBit) ∨
    (e = .returned (.bool false) ∧ ∃ mt', HAt w' gh n hs ∧ Boxed w' gb 27 (.int .u64 ((mt' : Nat) : Int)) ∧ mt' < 18446744073709551616 ∧ NoW R (Oh hs E) mt.testBit mt'.testBit i 64))
/-- What stands in the round of turn. -/
structure TuI (W : World) (gh gb n : Nat) (R : Nat → Nat) (hs : Nat → Int) (mt : Nat) (E : Nat → Prop) (i c mt1 : Nat) (wr : World) : Prop where
  hat : HAt wr gh n hs
  box : Boxed wr gb 27 (.int .u64 (mt1 : Int))
  lt : mt1 < 18446744073709551616
  fr : Fr2 W wr gh gb
  now : NoW R (Oh hs E) mt.testBit mt1.testBit i c
set_option maxRecDepth 100000 in
set_option maxHeartbeats 2000000 in
theorem turnF (m : Nat) : ∀ (W : World) (gh gb : Nat) (oa : Option Addr) (cap n : Nat) (R : Nat → Nat) (hs : Nat → Int) (mt : Nat) (E D : Nat → Prop) (i : Nat), unm mt.testBit < m → Cxt W gh gb (.slice oa n cap) n R → HAt W gh n hs → Boxed W gb 27 (.int .u64 (mt : Int)) → mt < 18446744073709551616 → Hst n R hs E D → (∀ u, D u → mt.testBit u = true) → i < n → ¬ E i →
    Calls Tryz.prog 125 #[.slice oa n cap, .slice (some ⟨gh, 0, none⟩) n n, .pointer (some ⟨gb, 0, none⟩), .int .i64 (i : Int)] W (TurP W gh gb n R hs mt E D i) := by
  induction m with
  | zero => exact fun _ _ _ _ _ _ _ _ _ _ _ _ h => absurd h (Nat.not_lt_zero _)
  | succ m ih =>
  intro W gh gb oa cap n R hs mt E D i hm hC hH hB hmt hS hD hi hiE
  obtain ⟨oa', cap', e9, hrw⟩ := hC.rw
  cases e9
  obtain ⟨g, o, rfl, hg1, hg2, hcr⟩ := hrw i hi
  have hx := hC.word i
  have hbt := hide' hC.bit
  have hI0 : Hid (TuI W gh gb n R hs mt E i 0 mt W) := ⟨hH, hB, hmt, Fr2.refl _ _ _, NoW.start _⟩
  have hne := hC.nek
  have hn12 := hC.few
  have hC' := hide' hC
  have hS' := hide' hS
  have hD' := hide' hD
  have hm' := hide' hm
  have hiE' := hide' hiE
  have ih' := hide' ih
  have hcr' := hide' hcr
  have hin : (i : Int) < (n : Int) := by omega
  clear hC hS hD hH hB hrw hm hiE ih hcr
  go_enter Tryz.func125, Tryz.ntmps125
  go_wp2
  go_loopw [9, 10] (fun p _ wr => ∃ (c mt1 : Nat), c ≤ 64 ∧ p = .int .i64 (c : Int) ∧ Hid (TuI W gh gb n R hs mt E i c mt1 wr)) (fun p _ _ => (64 - intOf p).toNat)
  case atStart => exact ⟨0, mt, by omega, rfl, hI0⟩
  case round =>
    clear hI0
    obtain ⟨c, mt1, hc, rfl, hI⟩ := hrel
    by_cases hlt : c < 64
    · have hlt' : (c : Int) < 64 := by omega
      have cx : wr.cell? ⟨g, o + i, none⟩ = some (.int .u64 (R i : Int)) := by
        have hl := cell_lt hcr'.out
        have := hI.out.fr.block g hl hg1 hg2
        rw [← hcr'.out]
        simp only [World.cell?, this]
      have cb := hI.out.box.cell
      have fb := hI.out.box.frozen
      by_cases hbit : (R i).testBit c = true
      · have hs1 := shr_bitT hx hbit
        by_cases hmet : mt1.testBit c = true
        · have hs2 := shr_bitT hI.out.lt hmet
          have hI2 : Hid (TuI W gh gb n R hs mt E i (c + 1) mt1 wr) := by
            obtain ⟨a, b, d, e, f⟩ := hI.out
            exact ⟨a, b, d, e, f.skip (u := c) (fun v h1 h2 => by omega) hmet⟩
          clear hI
          go_wp2
          exact ⟨⟨c + 1, mt1, by omega, by go_num, hI2⟩, by simp [intOf]; omega⟩
        · have hmet0 : mt1.testBit c = false := by simpa using hmet
          have hs2 := shr_bitF hI.out.lt hmet0
          have hDu : ¬ D c := fun h => hmet (hI.out.now.grow c (hD'.out c h))
          have hsh := shlc c hlt
          have hp64 : 2 ^ c < 18446744073709551616 := Nat.pow_lt_pow_right (a := 2) (m := c) (n := 64) (by decide) hlt
          have hor := u64_or_nat mt1 (2 ^ c) hI.out.lt hp64
          have hml : mt1 ||| 2 ^ c < 18446744073709551616 := Nat.or_lt_two_pow (n := 64) hI.out.lt hp64
          have hup : Hid ((mt1 ||| 2 ^ c).testBit = upd mt1.testBit c true) := or_upd mt1 c
          generalize mt1 ||| 2 ^ c = mt2 at *
          generalize 2 ^ c = pc at *
          have hHm : Hid (HAt (wr.setCell ⟨gb, 0, none⟩ (.int .u64 (mt2 : Int))).drew gh n hs) := World.rowIs.drew (hI.out.hat.setOther hne _)
          have hBm : Hid (Boxed (wr.setCell ⟨gb, 0, none⟩ (.int .u64 (mt2 : Int))).drew gb 27 (.int .u64 (mt2 : Int))) := hI.out.box.set _
          have hFm : Hid (Fr2 W (wr.setCell ⟨gb, 0, none⟩ (.int .u64 (mt2 : Int))).drew gh gb) := hI.out.fr.trans ((Fr2.setB ..).trans (Fr2.below (Below.refl _ _).drew))
          go_wp2
          go_region
          go_wp2
          obtain ⟨V, hV⟩ : ∃ V, V = (wr.setCell ⟨gb, 0, none⟩ (.int .u64 (mt2 : Int))).drew := ⟨_, rfl⟩
          rw [← hV] at hHm hBm hFm
          rw [← hV]
          have hnow := hide' hI.out.now
          clear hV hI cx cb fb hs1 hs2 hor hsh
          as_aux_lemma =>
          go_loopw [10] (fun p wx => ∃ kk : Nat, kk ≤ n ∧ p = .int .i64 (kk : Int) ∧ V = wx ∧ Hid (∀ r, r < kk → hs r ≠ (c : Int))) (fun p _ => ((n : Int) - intOf p).toNat)
          case atStart => exact ⟨0, Nat.zero_le _, rfl, rfl, fun r h => absurd h (Nat.not_lt_zero _)⟩
          case round =>
            obtain ⟨kk, hkk, rfl, rfl, hno⟩ := hrel
            by_cases hkn : kk < n
            · have hkn' : (kk : Int) < (n : Int) := by omega
              have ck := hHm.out.cell hkn
              by_cases hku : hs kk = (c : Int)
              · rw [hku] at ck
                have hkn2 : ((kk : Int) == (n : Int)) = false := by simp; omega
                have hpre := hS'.out.leave hDu hkn hku
                have hOw : Oh hs E c kk := ⟨(hS'.out.own kk c hkn hku hDu).1, hku⟩
                have hun : unm mt2.testBit < m := by
                  rw [hup.out]
                  exact Nat.lt_of_lt_of_le (unm_lt hlt hmet0) (by have := hm'.out; have := unm_grow hnow.out.grow; omega)
                have KT := hide' (ih'.out V gh gb (some ⟨g, o, none⟩) cap n R hs mt2 _ _ kk hun (hC'.out.fr hFm.out) hHm.out hBm.out hml hpre (fun v hv => by
                  rw [hup.out]
                  by_cases e : v = c
                  · subst e; exact upd_same ..
                  · rw [upd_ne _ _ e]; exact hnow.out.grow v (hD'.out v (hv.resolve_right e))) hkn (fun x => x.2 rfl))
                clear hHm hBm
                go_wp2_with fail
                refine KT.out.mono ?_
                rintro e w3 ⟨hF3, (⟨rfl, hs', mt', hH3, hB3, hl3, hT3⟩ | ⟨rfl, mt', hH3, hB3, hl3, hN3⟩)⟩
                · have ci := hH3.cell hi
                  have fi := hH3.frz i
                  have hend : Hid (TurP W gh gb n R hs mt E D i (.returned (.bool true)) (w3.setCell ⟨gh, i, none⟩ (.int .i64 (c : Int)))) := by
                    rw [hup.out] at hT3
                    exact ⟨(hFm.out.trans hF3).trans (Fr2.setA ..), .inl ⟨rfl, _, mt', hH3.set i _, box_other hB3 hne.symm _, hl3, Trn.moved hS'.out hi hlt hDu hbit hnow.out.grow hmet0 hkn hku hT3⟩⟩
                  clear KT hH3 hB3 hT3 hF3 hFm
                  as_aux_lemma =>
                  go_wp2
                  go_ret
                  exact hend.out
                · have hI2 : Hid (TuI W gh gb n R hs mt E i (c + 1) mt' w3) := by
                    rw [hup.out] at hN3
                    exact ⟨hH3, hB3, hl3, hFm.out.trans hF3, hnow.out.step (u := c) (r := kk) (fun v h1 h2 => by omega) hbt.out hOw hN3 (fun v s hv => ⟨hv.1.1, hv.2⟩)⟩
                  clear KT hH3 hB3 hN3 hF3 hFm
                  as_aux_lemma =>
                  go_wp2
                  exact ⟨⟨c + 1, mt', by omega, by go_num, hI2⟩, by simp [intOf]; omega⟩
              · have hku' : (hs kk != (c : Int)) = true := by simpa using hku
                go_wp2
                exact ⟨⟨kk + 1, by omega, by go_num, by first | rfl | trivial, fun r hr => by
                  rcases Nat.lt_or_ge r kk with h | h
                  · exact hno.out r h
                  · obtain rfl : r = kk := by omega
                    exact hku⟩, by simp [intOf]; omega⟩
            · obtain rfl : kk = n := by omega
              have ci := hHm.out.cell hi
              have fi := hHm.out.frz i
              have hend : Hid (TurP W gh gb kk R hs mt E D i (.returned (.bool true)) (V.setCell ⟨gh, i, none⟩ (.int .i64 (c : Int)))) := by
                have hT := Trn.take (K := mt.testBit) hS'.out hi hlt hDu hbit hno.out hnow.out.grow hmet0
                rw [← hup.out] at hT
                exact ⟨hFm.out.trans (Fr2.setA ..), .inl ⟨rfl, _, mt2, hHm.out.set i _, box_other hBm.out hne.symm _, hml, hT⟩⟩
              clear hHm hBm hFm
              as_aux_lemma =>
              go_wp2
              go_ret
              exact hend.out
      · have hbit0 : (R i).testBit c = false := by simpa using hbit
        have hs1 := shr_bitF hx hbit0
        have hI2 : Hid (TuI W gh gb n R hs mt E i (c + 1) mt1 wr) := by
          obtain ⟨a, b, d, e, f⟩ := hI.out
          exact ⟨a, b, d, e, f.gap (fun v h1 h2 => (by
            have : v = c := by omega
            rw [this]; exact hbit0))⟩
        clear hI
        go_wp2
        exact ⟨⟨c + 1, mt1, by omega, by go_num, hI2⟩, by simp [intOf]; omega⟩
    · obtain rfl : c = 64 := by omega
      go_wp2
      go_ret
      exact ⟨hI.out.fr, .inr ⟨rfl, mt1, hI.out.hat, hI.out.box, hI.out.lt, hI.out.now⟩⟩
end Go.Proofs.YtmbdnhgmpmnhmaaGreatDoor.M
namespace Go.Proofs.YtmbdnhgmpmnhmaaGreatDoor.M
open Go.RowKit Go.Shelf
theorem makeM (m : Nat) (hm : m ≤ 200) (W : World) : (Instr.makeSlice 23 (.int .i64 (m : Int)) (.int .i64 (m : Int))).run Tryz.prog W = .ok (.slice (some ⟨W.heap.size, 0, none⟩) m m) (W.alloc (.cells (madeCells #[.int .i64 0] m) 3)) := by
  obtain ⟨i, hi, hz, hs, hb⟩ := info_parts I.info3
  have hr := run_make (P := Tryz.prog) W 23 3 i _ Tryz.underlying23 hi hz .i64 .i64 m m (by omega) (Int.le_refl _) (by rw [hb]; omega) (by omega)
  simp only [Int.toNat_natCast, hs, Nat.mul_one] at hr
  exact hr
/-- So many rows have been told that they have none. -/
def neg1 (c : Nat) : Nat → Int := fun r => if r < c then -1 else 0
theorem neg1_set (c r : Nat) : upd (neg1 c) c (-1) r = neg1 (c + 1) r := by
  unfold neg1
  by_cases e : r = c
  · subst e; rw [upd_same, if_pos (by omega)]
  · rw [upd_ne _ _ e]
    by_cases e2 : r < c
    · rw [if_pos e2, if_pos (by omega)]
    · rw [if_neg e2, if_neg (by omega)]
theorem Hst.empty (n : Nat) (R : Nat → Nat) : Hst n R (fun _ => -1) No No :=
  ⟨fun r u _ h => by have h : (-1 : Int) = (u : Int) := h; omega, fun _ h => False.elim h, fun _ _ h => False.elim h⟩
/-- What stands between the rows. -/
structure RzI (w : World) (gh n : Nat) (R : Nat → Nat) (k : Nat) (hs : Nat → Int) (V : World) : Prop where
  old : Below w.heap.size w V
  new : w.heap.size ≤ gh
  hat : HAt V gh n hs
  st : Hst n R hs (grE R k) No
section
variable {n : Nat} {R : Nat → Nat} {w : World} {oa : Option Addr} {cap : Nat}
set_option maxRecDepth 100000 in
set_option maxHeartbeats 1000000 in
theorem rSizeF (hA : RwA w (.slice oa n cap) n R) : Calls Tryz.prog 118 #[.slice oa n cap] w fun e w' => e = .returned (.int .i64 (sizeN R n : Int)) ∧ Below w.heap.size w w' := by
  have hA' := hide' hA
  clear hA
  unfold sizeN
  by_cases hn : n ≤ 12
  · have hn' : ¬ (12 : Int) < (n : Int) := by omega
    rw [if_pos hn]
    go_enter Tryz.func118, Tryz.ntmps118
    have hmk := makeM n (by omega) w
    have hb1 : Below w.heap.size w (w.alloc (.cells (madeCells #[.int .i64 0] n) 3)) := (Below.refl _ _).alloc (Nat.le_refl _) _
    have hr1 : HAt (w.alloc (.cells (madeCells #[.int .i64 0] n) 3)) w.heap.size n (fun _ => 0) := World.rowIs_made w _ n _
    go_wp2
    obtain ⟨gh, hgh⟩ : ∃ g, g = w.heap.size := ⟨_, rfl⟩
    have hgh' := hide' hgh
    rw [← hgh] at hr1
    rw [← hgh]
    clear hgh hmk
    generalize w.alloc (.cells (madeCells #[.int .i64 0] n) 3) = W1 at *
    have hb1' := hide' hb1
    have hr1' := hide' hr1
    clear hb1 hr1
    go_loopw [4] (fun p wr => ∃ c : Nat, c ≤ n ∧ p = .int .i64 (c : Int) ∧ Hid (HAt wr gh n (neg1 c)) ∧ Hid (Below w.heap.size w wr)) (fun p _ => ((n : Int) - intOf p).toNat)
    case atStart => exact ⟨0, Nat.zero_le _, rfl, World.rowIs.congr hr1'.out fun r hr => by simp [neg1], hb1'⟩
    case round =>
      clear hb1' hr1'
      obtain ⟨c, hc, rfl, hH, hB⟩ := hrel
      by_cases hlt : c < n
      · have hlt' : (c : Int) < (n : Int) := by omega
        have ci := hH.out.cell hlt
        have fi := hH.out.frz c
        have hH2 : Hid (HAt (wr.setCell ⟨gh, c, none⟩ (.int .i64 (-1))) gh n (neg1 (c + 1))) := World.rowIs.congr (hH.out.set c (-1)) fun r hr => by rw [neg1_set]
        have hB2 : Hid (Below w.heap.size w (wr.setCell ⟨gh, c, none⟩ (.int .i64 (-1)))) := hB.out.setCell (p := ⟨gh, c, none⟩) (by show w.heap.size ≤ gh; rw [hgh'.out]; exact Nat.le_refl _) _
        clear hH hB
        go_wp2
        exact ⟨⟨c + 1, by omega, by go_num, hH2, hB2⟩, by simp [intOf]; omega⟩
      · obtain rfl : c = n := by omega
        have h0 : Hid (RzI w gh c R 0 (fun _ => -1) wr) := ⟨hB.out, by rw [hgh'.out]; exact Nat.le_refl _, World.rowIs.congr hH.out fun r hr => by simp [neg1, hr], Hst.empty c R⟩
        clear hH hB
        as_aux_lemma =>
        go_wp2
        go_loopw [5, 6, 7] (fun s p _ wr => ∃ (k z : Nat) (hs : Nat → Int), k ≤ c ∧ p = .int .i64 (k : Int) ∧ s = .int .i64 (z : Int) ∧ z ≤ k ∧ Hid (z = grN R k) ∧ Hid (RzI w gh c R k hs wr)) (fun _ p _ _ => ((c : Int) - intOf p).toNat)
        case atStart => exact ⟨0, 0, _, Nat.zero_le _, rfl, rfl, Nat.le_refl _, rfl, h0⟩
        case round =>
          clear h0
          obtain ⟨k, z, hs, hk, rfl, rfl, hzk, hz, hI⟩ := hrel
          by_cases hlt2 : k < c
          · have hlt2' : (k : Int) < (c : Int) := by omega
            have hbx : Below wr.heap.size wr (wr.alloc (.cells #[.int .u64 0] 27)) := (Below.refl _ _).alloc (Nat.le_refl _) _
            have hws := hI.out.old.size
            have hgl := hI.out.hat.lt
            have KT := hide' (turnF 65 (wr.alloc (.cells #[.int .u64 0] 27)) gh wr.heap.size oa cap c R hs 0 (grE R k) No k (Nat.lt_of_le_of_lt (unm_le _) (by decide)) (hA'.out.cxt (hI.out.old.trans (hbx.mono hws)) hI.out.new hws (by omega) hn) (hI.out.hat.below hbx) (Boxed.new wr 27 (.int .u64 0)) (by decide) hI.out.st (fun _ h => False.elim h) hlt2 (fun h => Nat.lt_irrefl k (grE_lt h)))
            have hbx' := hide' hbx
            clear hbx
            go_wp2_with fail
            refine KT.out.mono ?_
            rintro e w3 ⟨hF3, (⟨rfl, hs', mt', hH3, hB3, hl3, hT3⟩ | ⟨rfl, mt', hH3, hB3, hl3, hN3⟩)⟩
            · have hold := hF3.new (hI.out.old.trans (hbx'.out.mono hws)) hI.out.new hws (Nat.le_trans hws hbx'.out.size)
              have hy := grE_yes hT3.st.ind
              have hI2 : Hid (RzI w gh c R (k + 1) hs' w3) := ⟨hold, hI.out.new, hH3, hT3.st.ext hy.1⟩
              have hz2 : Hid (z + 1 = grN R (k + 1)) := by show _ = _; rw [hy.2, hz.out]
              clear KT hH3 hB3 hT3 hF3 hI hold hy hz
              go_wp2
              exact ⟨⟨k + 1, z + 1, _, by omega, by go_num, by go_num, by omega, hz2, hI2⟩, by simp [intOf]; omega⟩
            · have hold := hF3.new (hI.out.old.trans (hbx'.out.mono hws)) hI.out.new hws (Nat.le_trans hws hbx'.out.size)
              have hno := turn_no hA'.out.bit (fun h => Nat.lt_irrefl k (grE_lt h)) (by rw [show (0 : Nat).testBit = fun _ => false from funext Nat.zero_testBit] at hN3; exact hN3)
              have hy := grE_no hno
              have hI2 : Hid (RzI w gh c R (k + 1) hs w3) := ⟨hold, hI.out.new, hH3, hI.out.st.ext hy.1⟩
              have hz2 : Hid (z = grN R (k + 1)) := by show _ = _; rw [hy.2, hz.out]
              clear KT hH3 hB3 hN3 hF3 hI hold hy hz hno
              go_wp2
              exact ⟨⟨k + 1, z, _, by omega, by go_num, rfl, by omega, hz2, hI2⟩, by simp [intOf]; omega⟩
          · obtain rfl : k = c := by omega
            go_wp2
            go_ret
            exact ⟨by rw [hz.out]; rfl, hI.out.old⟩
  · have hn' : (12 : Int) < (n : Int) := by omega
    rw [if_neg hn]
    go_enter Tryz.func118, Tryz.ntmps118
    go_wp2
    go_ret
    exact ⟨rfl, Below.refl _ _⟩
open Classical in
/-- Is there a full matching? -/
noncomputable def fulB (n : Nat) (R : Nat → Nat) : Bool := decide (n ≤ 12 ∧ ∃ g, FullM n R g)
theorem fulB_iff (n : Nat) (R : Nat → Nat) : fulB n R = true ↔ n ≤ 12 ∧ ∃ g, FullM n R g := by simp [fulB]
set_option maxRecDepth 100000 in
set_option maxHeartbeats 1000000 in
theorem rFullF (hA : RwA w (.slice oa n cap) n R) : Calls Tryz.prog 101 #[.slice oa n cap] w fun e w' => e = .returned (.bool (fulB n R)) ∧ Below w.heap.size w w' := by
  have KS := hide' (rSizeF hA)
  clear hA
  by_cases hn : n ≤ 12
  · have hn' : (n : Int) ≤ 12 := by omega
    have hs : sizeN R n = grN R n := by unfold sizeN; rw [if_pos hn]
    rw [hs] at KS
    have hq : Hid (((grN R n : Int) == (n : Int)) = fulB n R) := by
      show _ = _
      apply Bool.eq_iff_iff.2
      rw [fulB_iff, full_iff, ← grN_iff]
      constructor
      · intro h
        exact ⟨hn, by have := eq_of_beq h; omega⟩
      · rintro ⟨_, h⟩
        rw [h]
        simp
    generalize grN R n = z at *
    clear hs
    go_enter Tryz.func101, Tryz.ntmps101
    go_wp2_with fail
    refine KS.out.mono ?_
    rintro e w1 ⟨rfl, hb⟩
    go_wp2
    go_ret
    exact ⟨ret_bool (by rw [← hq.out]), hb⟩
  · have hn' : ¬ (n : Int) ≤ 12 := by omega
    have hq : fulB n R = false := by
      cases e : fulB n R
      · rfl
      · exact absurd ((fulB_iff n R).1 e).1 hn
    rw [hq]
    go_enter Tryz.func101, Tryz.ntmps101
    go_wp2
    go_ret
    exact ⟨rfl, Below.refl _ _⟩
end
end Go.Proofs.YtmbdnhgmpmnhmaaGreatDoor.M
