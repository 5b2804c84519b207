/- move: a row of a full matching goes to another place, if it can. -/
import Derived.Test.YtbbmjfjedonfaaaDoorMSize
namespace Go.Proofs.YtbbmjfjedonfaaaDoor.M
open Go.RowKit Go.Shelf
/-- Marks handed over as a value. -/
def MkV (A : Array Value) (S : Nat → Bool) : Prop := A.size = 64 ∧ ∀ i, i < 64 → A[i]? = some (.bool (S i))
theorem MkV.at {A : Array Value} {S : Nat → Bool} (h : MkV A S) (W : World) : KAt (W.alloc (.cells A 54)) W.heap.size S := by
  have := World.rowIs_alloc W A 54 (fun u => .bool (S u)) (fun i hi => h.2 i (by rw [h.1] at hi; exact hi))
  rw [h.1] at this
  exact this
/-- What move answers. -/
def MovP (W0 W : World) (gm : Nat) (rv : Value) (n : Nat) (R : Nat → Nat) (ow : Nat → Option Nat) (pl : Nat → Nat) (S : Nat → Bool) (row u : Nat) (e : Ending) (w' : World) : Prop :=
  Hid (Fr2 W w' gm gm) ∧ ((e = .returned (.bool true) ∧ ∃ ow' pl', Hid (MSt W0 w' gm rv n R ow' pl' (fun r => r < n)) ∧ Hid (pl' row = u ∧ ∀ v, S v = true → ow' v = ow v)) ∨
  (e = .returned (.bool false) ∧ Hid (MSt W0 w' gm rv n R ow pl (fun r => r < n)) ∧ Hid (NoM n R S pl row u)))
theorem Fr2.drop {W X : World} {o : Obj} {gm : Nat} (h : Fr2 (W.alloc o) X gm W.heap.size) : Fr2 W X gm gm :=
  ⟨h.os, h.tape, h.output, Nat.le_trans (by simp) h.size, fun k hk h1 _ => (h.block k (by simp; omega) h1 (by omega)).trans (Below.heap_alloc _ _ _ hk)⟩
set_option maxRecDepth 100000 in
set_option maxHeartbeats 2000000 in
theorem moveF (W0 W : World) (gm : Nat) (rv : Value) (n : Nat) (R : Nat → Nat) (ow : Nat → Option Nat) (pl : Nat → Nat) (S : Nat → Bool) (row u : Nat) (A : Array Value) (hV : MkV A S) (hA : RwA W0 rv n R) (hM : MSt W0 W gm rv n R ow pl (fun r => r < n)) (hn : n ≤ 12) (hr : row < n) (hu : u < 64) (hb : (R row).testBit u = true)
    (hS : ∀ v, S v = true → ∃ j, j < n ∧ pl j = v) (hSr : S (pl row) = false) :
    Calls Tryd.prog 32 #[.pointer (some ⟨gm, 0, none⟩), .int .i64 (row : Int), .int .i64 (u : Int), .agg A] W (MovP W0 W gm rv n R ow pl S row u) := by
  have hlt := hM.mat.lt
  have hb1 : Below W.heap.size W (W.alloc (.cells A 54)) := (Below.refl _ _).alloc (Nat.le_refl _) _
  have hM1 := hM.below hb1
  have hgk : W0.heap.size ≤ W.heap.size := hM.old.size
  have hK1 := hV.at W
  have hC1 : Cxt (W.alloc (.cells A 54)) gm W.heap.size rv n R := hA.cxt hM1.old hM.new hgk (by omega) hn
  have hpl64 : pl row < 64 := (hM.st.own _ row id (hM.st.has row hr).2).1
  have co := hM1.mat.cellO hu
  have cp := hM1.mat.cellP (r := row) (by omega)
  have ck := hK1.cell hu
  have fk := hK1.frz u
  have hr12 : (row : Int) < 12 := by omega
  have hu64 : (u : Int) < 64 := by omega
  have hp64 : ((pl row : Nat) : Int) < 64 := by omega
  have hM1' := hide' hM1
  have hK1' := hide' hK1
  have hC1' := hide' hC1
  have hM' := hide' hM
  have hA' := hide' hA
  have hS' := hide' hS
  clear hM1 hK1 hC1 hb1 hM hA hS
  generalize hW1 : W.alloc (.cells A 54) = W1 at *
  have hne : gm ≠ W.heap.size := by omega
  have hD : Hid (∀ V, Below W1.heap.size W1 V → MSt W0 V gm rv n R ow pl (fun r => r < n)) := fun V h => hM1'.out.below h
  have hdr : Hid (Below W1.heap.size W1 W1.drew) := (Below.refl _ _).drew
  have hFd : Hid (Fr2 W W1.drew gm gm) := by
    rw [← hW1]
    exact Fr2.below ((Below.refl _ _).alloc (Nat.le_refl _) _).drew
  have hFr : Hid (∀ X, Fr2 W1 X gm W.heap.size → Fr2 W X gm gm) := fun X h => by
    rw [← hW1] at h
    exact h.drop
  by_cases hSu : S u = true
  · rw [hSu] at ck
    have hor : (owZ (ow u) == (row : Int)) = false := by
      cases e : ow u with
      | none => simp only [owZ]; simp <;> omega
      | some o =>
        have : o ≠ row := fun e2 => by
          subst e2
          have := (hM'.out.st.own u o id e).2.2.2.1
          rw [this, hSu] at hSr
          cases hSr
        simp only [owZ]; simp <;> omega
    have hend : Hid (MovP W0 W gm rv n R ow pl S row u (.returned (.bool false)) W1.drew) := ⟨hFd.out, .inr ⟨rfl, hD.out _ hdr.out, move_marked hr hS'.out hSr hSu⟩⟩
    clear hM1' hK1' hC1' hM' hA' hS' hD hdr
    go_enter Tryd.func32, Tryd.ntmps32
    go_wp2
    go_region
    go_wp2
    go_ret
    exact hend.out
  · have hSu0 : S u = false := by simpa using hSu
    rw [hSu0] at ck
    cases hw : ow u with
    | none =>
      rw [hw, show owZ none = -1 from rfl] at co
      have hor : ((-1 : Int) == (row : Int)) = false := by simp <;> omega
      have fo := hM1'.out.mat.frz (13 + pl row)
      have co2 := hM1'.out.mat.cellO hpl64
      go_enter Tryd.func32, Tryd.ntmps32
      go_wp2
      go_region
      go_upto_region 6 with fail
      have hMm : Hid (MAt ((W1.setCell ⟨W.heap.size, u, none⟩ (.bool true)).setCell ⟨gm, 13 + pl row, none⟩ (.int .i64 (-1))).drew gm rv pl (upd ow (pl row) none)) := World.rowIs.drew (MAt.setO (MAt.setOther hM1'.out.mat hne _) (pl row) none)
      have hKm : Hid (KAt ((W1.setCell ⟨W.heap.size, u, none⟩ (.bool true)).setCell ⟨gm, 13 + pl row, none⟩ (.int .i64 (-1))).drew W.heap.size (upd S u true)) := World.rowIs.drew (KAt.setOther (KAt.set hK1'.out u true) hne.symm _)
      have hFm : Hid (Fr2 W1 ((W1.setCell ⟨W.heap.size, u, none⟩ (.bool true)).setCell ⟨gm, 13 + pl row, none⟩ (.int .i64 (-1))).drew gm W.heap.size) := (Fr2.setB W1 gm W.heap.size u (.bool true)).trans ((Fr2.setA _ gm W.heap.size (13 + pl row) (.int .i64 (-1))).trans (Fr2.below (Below.refl _ _).drew))
      clear co cp ck fk fo co2 hD hdr
      generalize ((W1.setCell ⟨W.heap.size, u, none⟩ (.bool true)).setCell ⟨gm, 13 + pl row, none⟩ (.int .i64 (-1))).drew = Wm at *
      have co3 := hMm.out.cellO hu
      have fo3 := hMm.out.frz (13 + u)
      have cp3 := hMm.out.cellP (r := row) (by omega)
      have fp3 := hMm.out.frz (1 + row)
      have hend : Hid (MovP W0 W gm rv n R ow pl S row u (.returned (.bool true)) ((Wm.setCell ⟨gm, 13 + u, none⟩ (.int .i64 (row : Int))).setCell ⟨gm, 1 + row, none⟩ (.int .i64 (u : Int))).drew) := by
        have hF := hFm.out.trans ((Fr2.setA Wm gm W.heap.size (13 + u) (.int .i64 (row : Int))).trans ((Fr2.setA _ gm W.heap.size (1 + row) (.int .i64 (u : Int))).trans (Fr2.below (Below.refl _ _).drew)))
        have hm := move_free (S := S) hM'.out.st hr hb hu hw hSu0 hSr
        exact ⟨hFr.out _ hF, .inl ⟨rfl, _, _, ⟨hF.new hM1'.out.old hM1'.out.new hgk hM1'.out.old.size, hM1'.out.new, World.rowIs.drew ((hMm.out.setO u (some row)).setP (r := row) (by omega) u), hm.st⟩, hm.at_, hm.keep⟩⟩
      clear hM1' hK1' hC1' hM' hA' hS' hMm hKm hFm
      go_wp2
      go_region
      go_wp2
      go_ret
      exact hend.out
    | some o =>
      rw [hw, show owZ (some o) = (o : Int) from rfl] at co
      by_cases hor : o = row
      · subst hor
        have hend : Hid (MovP W0 W gm rv n R ow pl S o u (.returned (.bool true)) W1.drew) := ⟨hFd.out, .inl ⟨rfl, ow, pl, hD.out _ hdr.out, (hM'.out.st.own u o id hw).2.2.2.1, fun _ _ => rfl⟩⟩
        clear hM1' hK1' hC1' hM' hA' hS' hD hdr
        go_enter Tryd.func32, Tryd.ntmps32
        go_wp2
        go_region
        go_wp2
        go_ret
        exact hend.out
      · have hor1 : ((o : Int) == (row : Int)) = false := by simp <;> omega
        have fo := hM1'.out.mat.frz (13 + pl row)
        have co2 := hM1'.out.mat.cellO hpl64
        go_enter Tryd.func32, Tryd.ntmps32
        go_wp2
        go_region
        go_upto_region 6 with fail
        have hMm : Hid (MAt ((W1.setCell ⟨W.heap.size, u, none⟩ (.bool true)).setCell ⟨gm, 13 + pl row, none⟩ (.int .i64 (-1))).drew gm rv pl (upd ow (pl row) none)) := World.rowIs.drew (MAt.setO (MAt.setOther hM1'.out.mat hne _) (pl row) none)
        have hKm : Hid (KAt ((W1.setCell ⟨W.heap.size, u, none⟩ (.bool true)).setCell ⟨gm, 13 + pl row, none⟩ (.int .i64 (-1))).drew W.heap.size (upd S u true)) := World.rowIs.drew (KAt.setOther (KAt.set hK1'.out u true) hne.symm _)
        have hFm : Hid (Fr2 W1 ((W1.setCell ⟨W.heap.size, u, none⟩ (.bool true)).setCell ⟨gm, 13 + pl row, none⟩ (.int .i64 (-1))).drew gm W.heap.size) := (Fr2.setB W1 gm W.heap.size u (.bool true)).trans ((Fr2.setA _ gm W.heap.size (13 + pl row) (.int .i64 (-1))).trans (Fr2.below (Below.refl _ _).drew))
        clear co cp ck fk fo co2 hD hdr
        generalize ((W1.setCell ⟨W.heap.size, u, none⟩ (.bool true)).setCell ⟨gm, 13 + pl row, none⟩ (.int .i64 (-1))).drew = Wm at *
        have hrn : ((o : Int) != -1) = true := by simp <;> omega
        have hpre := move_pre hM'.out.st hr hw hor
        have KW := hide' (wayF 65 Wm gm W.heap.size rv n R _ pl (upd S u true) _ (fun v => No v ∨ v = u) o (Nat.lt_of_le_of_lt (unm_le _) (by decide)) (hC1'.out.fr hFm.out) hMm.out hKm.out hpre.2.2 (fun v hv => by
          have : v = u := hv.resolve_left id
          subst this; exact upd_same ..) hpre.2.1 (fun x => x.2 rfl))
        clear hMm hKm
        go_wp2_with fail
        refine KW.out.mono ?_
        rintro e w3 ⟨hF3, (⟨rfl, ow', pl', K', hM3, hK3, hW3⟩ | ⟨rfl, K', hM3, hK3, hN3⟩)⟩
        · have co3 := hM3.cellO hu
          have fo3 := hM3.frz (13 + u)
          have cp3 := hM3.cellP (r := row) (by omega)
          have fp3 := hM3.frz (1 + row)
          have hend : Hid (MovP W0 W gm rv n R ow pl S row u (.returned (.bool true)) ((w3.setCell ⟨gm, 13 + u, none⟩ (.int .i64 (row : Int))).setCell ⟨gm, 1 + row, none⟩ (.int .i64 (u : Int))).drew) := by
            have hF := (hFm.out.trans hF3).trans ((Fr2.setA w3 gm W.heap.size (13 + u) (.int .i64 (row : Int))).trans ((Fr2.setA _ gm W.heap.size (1 + row) (.int .i64 (u : Int))).trans (Fr2.below (Below.refl _ _).drew)))
            have hm := move_way (S := S) hM'.out.st hr hb hu hw hor hSu0 hSr hW3
            exact ⟨hFr.out _ hF, .inl ⟨rfl, _, _, ⟨hF.new hM1'.out.old hM1'.out.new hgk hM1'.out.old.size, hM1'.out.new, World.rowIs.drew ((hM3.setO u (some row)).setP (r := row) (by omega) u), hm.st⟩, hm.at_, hm.keep⟩⟩
          clear hM1' hK1' hC1' hM' hA' hS' hM3 hK3 hW3 hFm hF3 KW hpre
          go_wp2
          go_region
          go_wp2
          go_ret
          exact hend.out
        · have co3 := hM3.cellO hpl64
          have fo3 := hM3.frz (13 + pl row)
          have hend : Hid (MovP W0 W gm rv n R ow pl S row u (.returned (.bool false)) (w3.setCell ⟨gm, 13 + pl row, none⟩ (.int .i64 (row : Int)))) := by
            have hF := (hFm.out.trans hF3).trans (Fr2.setA w3 gm W.heap.size (13 + pl row) (.int .i64 (row : Int)))
            have hm := hM3.setO (pl row) (some row)
            rw [hM'.out.st.back hr] at hm
            exact ⟨hFr.out _ hF, .inr ⟨rfl, ⟨hF.new hM1'.out.old hM1'.out.new hgk hM1'.out.old.size, hM1'.out.new, hm, hM'.out.st⟩, move_stuck hM'.out.st hA'.out.bit hr hw hor hS'.out hSu0 hN3⟩⟩
          clear hM1' hK1' hC1' hM' hA' hS' hM3 hK3 hN3 hFm hF3 KW hpre
          go_wp2
          go_ret
          exact hend.out
end Go.Proofs.YtbbmjfjedonfaaaDoor.M
