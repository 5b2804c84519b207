/- take, small: the next number. -/
import Derived.Test.YtfajgbdnfphajaaZdM
namespace Go.Proofs.Ytfajgbdnfphajaa.S
open Go.RowKit Go.Shelf
/-- What take leaves. -/
def TkP (B : Nat) (w : World) (gr wd : Nat) (s : RdS) (w' : World) : Prop := ∃ v', Hid (Rd B w' gr v' (tkS wd s)) ∧ Hid (FrG gr w w')
theorem Rd.set0 {B : Nat} {W : World} {gr : Nat} {v : Value} {s : RdS} (h : Rd B W gr v s) (v' : Value) : (W.setCell ⟨gr, 0, none⟩ v').rowIs gr 45 2 (rdF v' s.2) :=
  World.rowIs.congr (World.rowIs.set h.at_ 0 _) fun i hi => by
    match i, hi with
    | 0, _ => rfl
    | 1, _ => rfl
theorem rowIs_set1 {W : World} {gr : Nat} {v : Value} {b : Bool} (h : W.rowIs gr 45 2 (rdF v b)) (b' : Bool) : (W.setCell ⟨gr, 1, none⟩ (.bool b')).rowIs gr 45 2 (rdF v b') :=
  World.rowIs.congr (World.rowIs.set h 1 _) fun i hi => by
    match i, hi with
    | 0, _ => rfl
    | 1, _ => rfl
theorem Rd.short {B : Nat} {W : World} {gr : Nat} {v : Value} {s : RdS} (h : Rd B W gr v s) {wd : Nat} (hl : s.1.length < wd) : TkP B W gr wd s ((W.setCell ⟨gr, 0, none⟩ (.slice none 0 0)).setCell ⟨gr, 1, none⟩ (.bool true)) := by
  refine ⟨.slice none 0 0, ?_, (FrG.set W gr 0 _).trans (FrG.set _ gr 1 _)⟩
  unfold tkS
  rw [if_pos hl]
  exact ⟨rowIs_set1 (h.set0 _) true, ⟨none, 0, rfl, fun i z hz => by cases hz⟩, (fun b hb => by cases hb), (fun oa n c e => by cases e; exact Nat.le_refl _), (fun ad n c e => by cases e), h.lowr⟩
theorem Rd.cut {B : Nat} {W : World} {gr g o cap : Nat} {s : RdS} (h : Rd B W gr (.slice (some ⟨g, o, none⟩) s.1.length cap) s) {wd : Nat} (hl : wd ≤ s.1.length) : TkP B W gr wd s (W.setCell ⟨gr, 0, none⟩ (.slice (some ⟨g, o + wd, none⟩) (s.1.length - wd) (cap - wd))) := by
  have hk := fun (o : Nat) (x : Int) => rd_kind (o := o) (k := .u8) (x := x) h.at_ ⟨_, _, _, rfl⟩
  refine ⟨.slice (some ⟨g, o + wd, none⟩) (s.1.length - wd) (cap - wd), ?_, FrG.set W gr 0 _⟩
  unfold tkS
  rw [if_neg (by omega)]
  exact ⟨h.set0 _, (h.row.drop wd hl g o rfl).frg (FrG.set W gr 0 _) hk, fun b hb => h.byte b (List.mem_of_mem_drop hb), (fun oa n c e => by cases e; have := h.room _ _ _ rfl; omega), (fun ad n c e => by cases e; exact h.low ⟨g, o, none⟩ _ _ rfl), h.lowr⟩
/-- The same where no room is left behind the bytes. -/
theorem Rd.cutE {B : Nat} {W : World} {gr g o cap : Nat} {s : RdS} (h : Rd B W gr (.slice (some ⟨g, o, none⟩) s.1.length cap) s) {wd : Nat} (hl : wd ≤ s.1.length) (hc : cap = wd) : TkP B W gr wd s (W.setCell ⟨gr, 0, none⟩ (.slice (some ⟨g, o, none⟩) (s.1.length - wd) 0)) := by
  have hr := h.room _ _ _ rfl
  have hd : s.1.drop wd = [] := List.drop_eq_nil_of_le (by omega)
  refine ⟨.slice (some ⟨g, o, none⟩) (s.1.length - wd) 0, ?_, FrG.set W gr 0 _⟩
  unfold tkS
  rw [if_neg (by omega)]
  refine ⟨h.set0 _, ⟨_, 0, by rw [hd]; show Value.slice _ _ _ = Value.slice _ 0 _; rw [show s.1.length - wd = 0 by omega], fun i z hz => ?_⟩, fun b hb => h.byte b (List.mem_of_mem_drop hb), (fun oa n c e => by cases e; omega), (fun ad n c e => by cases e; exact h.low ⟨g, o, none⟩ _ _ rfl), h.lowr⟩
  have hz' : (s.1.drop wd)[i]? = some z := hz
  rw [hd] at hz'
  cases hz'
set_option maxRecDepth 100000 in
set_option maxHeartbeats 4000000 in
theorem takeF (B gr wd : Nat) (wi : Int) (hwi : wi = (wd : Int)) (v : Value) (s : RdS) (w : World) (h : Rd B w gr v s) (h0 : 0 < wd) (hw : wd ≤ 8) (_ : s.1.length ≤ 100000) :
    Calls Try.prog 29 #[.pointer (some ⟨gr, 0, none⟩), .int .i64 wi] w fun e w' => e = .returned (.int .u64 (tkN wd s : Int)) ∧ TkP B w gr wd s w' := by
  subst hwi
  obtain ⟨oa, cap, rfl⟩ := h.shp
  have c0 := h.c0
  have f0 := h.fz 0
  have f1 := h.fz 1
  have h' := hide' h
  by_cases hl : s.1.length < wd
  · have hl' : (s.1.length : Int) < (wd : Int) := by omega
    have hT := hide' (h.short hl)
    have c1 := h.c1
    have hE : tkN wd s = 0 := by unfold tkN; rw [if_pos hl]
    rw [hE]
    clear h h' hl hE
    generalize s.1.length = n at *
    go_enter Try.func29, Try.ntmps29
    go_wp2
    go_ret
    exact ⟨rfl, hT.out⟩
  · obtain ⟨g, o, rfl⟩ : ∃ g o, oa = some ⟨g, o, none⟩ := by
      obtain ⟨oa', cap', e, hc⟩ := h.row
      injection e with e1 e2 e3
      subst e1
      obtain ⟨z, hz⟩ : ∃ z, s.1[0]? = some z := ⟨_, List.getElem?_eq_getElem (by omega)⟩
      obtain ⟨g, o, e, _⟩ := hc 0 z hz
      exact ⟨g, o, e⟩
    have hl' : ¬ (s.1.length : Int) < (wd : Int) := by omega
    have hT := hide' (h.cut (wd := wd) (by omega))
    have hTe : Hid (cap = wd → TkP B w gr wd s (w.setCell ⟨gr, 0, none⟩ (.slice (some ⟨g, o, none⟩) (s.1.length - wd) 0))) := fun e => h.cutE (by omega) e
    have hE : Hid (tkN wd s = valB (s.1.take wd)) := by unfold Hid tkN; rw [if_neg hl]
    have hcc : Hid (∀ j, j < wd → ∃ b : Nat, b < 256 ∧ s.1[j]? = some b ∧ w.cell? ⟨g, o + j, none⟩ = some (.int .u8 (b : Int))) := fun j hj => by
      obtain ⟨oa', cap', e, hc⟩ := h.row
      obtain ⟨b, hb⟩ : ∃ z, s.1[j]? = some z := ⟨_, List.getElem?_eq_getElem (by omega)⟩
      obtain ⟨g', o', e', hcell⟩ := hc j b hb
      injection e with e1 e2 e3
      rw [← e1] at e'
      cases e'
      exact ⟨b, h.byte b (List.mem_of_getElem? hb), hb, hcell⟩
    have hvb : Hid (∀ j, j < wd → valB (s.1.take j) < 72057594037927936) := fun j hj => by
      have h1 := valB_lt (s.1.take j) (fun b hb => h.byte b (List.mem_of_mem_take hb))
      have h2 : (256 : Nat) ^ (s.1.take j).length ≤ 256 ^ 7 := Nat.pow_le_pow_right (by decide) (by rw [List.length_take]; omega)
      exact Nat.lt_of_lt_of_le h1 h2
    have hlw : (wd : Int) ≤ (s.1.length : Int) := by omega
    have hlc : (s.1.length : Int) ≤ (cap : Int) := by have := h.room _ _ _ rfl; omega
    have hlc2 : s.1.length ≤ cap := h.room _ _ _ rfl
    have hlc3 : wd ≤ s.1.length := by omega
    clear h h' hl
    generalize hsn : s.1.length = n at *
    clear hsn
    go_enter Try.func29, Try.ntmps29
    go_wp2
    go_loopw [5, 6, 21] (fun q _ p wr => ∃ j : Nat, j ≤ wd ∧ p = .int .i64 (j : Int) ∧ q = .int .u64 (valB (s.1.take j) : Int) ∧ wr = w) (fun _ _ p _ => ((wd : Int) - intOf p).toNat)
    case atStart => exact ⟨0, Nat.zero_le _, rfl, rfl, rfl⟩
    case round =>
      obtain ⟨j, hj, rfl, rfl, rfl⟩ := hrel
      by_cases hlt : j < wd
      · have hlt' : (j : Int) < (wd : Int) := by omega
        have hltn : (j : Int) < (n : Int) := by omega
        obtain ⟨b, hb, hbs, hcell⟩ := hcc.out j hlt
        have hv := hvb.out j hlt
        have hor := or_byte hb hv
        have hsn : Hid (valB (s.1.take (j + 1)) = 256 * valB (s.1.take j) + b) := by unfold Hid; rw [List.take_add_one, hbs]; exact valB_snoc _ _
        generalize valB (s.1.take j) = q at *
        clear hbs hcc hvb hE hT hTe
        go_wp2
        exact ⟨⟨j + 1, by omega, by go_num, by rw [hsn.out]; congr 1, (by first | trivial | rfl)⟩, by simp [intOf]; omega⟩
      · obtain rfl : j = wd := by omega
        rw [← hE.out]
        clear hcc hvb
        go_wp2
        all_goals
          go_ret
          first | exact ⟨rfl, hT.out⟩ | exact ⟨rfl, hTe.out (by omega)⟩
set_option maxRecDepth 100000 in
set_option maxHeartbeats 2000000 in
theorem smallF (B gr : Nat) (v : Value) (s : RdS) (w : World) (h : Rd B w gr v s) (hl : s.1.length ≤ 100000) :
    Calls Try.prog 30 #[.pointer (some ⟨gr, 0, none⟩)] w fun e w' => e = .returned (.int .i64 (tkN 1 s : Int)) ∧ TkP B w gr 1 s w' := by
  have K := hide' (takeF B gr 1 1 rfl v s w h (by decide) (by decide) hl)
  have hb : tkN 1 s < 256 := tkN_lt h.byte
  generalize tkN 1 s = n at *
  clear h
  go_enter Try.func30, Try.ntmps30
  go_wp2_with fail
  refine K.out.mono ?_
  rintro e w1 ⟨rfl, hT⟩
  have hT' := hide' hT
  clear hT K
  go_wp2
  go_ret
  exact ⟨rfl, hT'.out⟩
end Go.Proofs.Ytfajgbdnfphajaa.S
