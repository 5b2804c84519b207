/- A call of both runs: plays. -/
import Derived.Test.YtlipdccfhnnleaaGreatDoorJ37
import Derived.Deep.RegionHeld3
import Derived.Deep.CutRange
import Derived.Laws.StructEq
namespace Go.Proofs.YtlipdccfhnnleaaGreatDoor
open Go.RowKit
def StP (k : SdK) (lv ev : Value) (Rd : Rs) (W : World) (v : Value) (R' : Rs) (e : Ending) (w' : World) : Prop := e = .returned v ∧ ∃ lv', Sd k lv' ev R' Rd w' ∧ Zf (k.wr lv ev) W w' ∧ Nf W.heap.size (k.wr lv ev) (k.wr lv' ev)
def StD (k : SdK) (lv ev : Value) (R : Rs) (W : World) (v : Value) (R' : Rs) (e : Ending) (w' : World) : Prop := e = .returned v ∧ ∃ ev', Sd k lv ev' R R' w' ∧ Zf (k.wr lv ev) W w' ∧ Nf W.heap.size (k.wr lv ev) (k.wr lv ev')
section
variable {k : SdK} {lv ev : Value} {R Rd : Rs} {W : World} {n : Nat}
theorem Sd.n64 (h : Sd k lv ev R Rd W) : R.S.length ≤ 64 := by rw [h.p.len]; exact h.p.wrd.n64
theorem Sd.nd64 (h : Sd k lv ev R Rd W) : Rd.S.length ≤ 64 := by rw [h.d.len]; exact h.p.wrd.n64
theorem Sd.pl (h : Sd k lv ev R Rd W) : ∀ a, a < Rd.S.length → k.Pf a < 18446744073709551616 := fun a ha => h.p.wrd.pre_lt (by rw [← h.d.len]; exact ha)
theorem Sd.prd (h : Sd k lv ev R Rd W) : ∀ a : Nat, a < Rd.S.length → Calls Tryz.prog 96 #[.pointer (some ⟨k.go1, 0, none⟩), .int .i64 (a : Int)] W fun e w' => e = .returned (.int .u64 (k.Pf a : Int)) ∧ w' = W := fun a ha => by
  have := h.d.prd W h.d.win (a : Int)
  rwa [(h.p.wrd.preN (by rw [← h.d.len]; exact ha)).1] at this
theorem claimS (h : Sd k lv ev R Rd W) (hl : R.log.length ≤ 90000) (step user tick : Int) : Calls Tryz.prog 14 #[.pointer (some ⟨k.gr, 0, none⟩), .int .i64 step, .int .i64 user, .int .i64 tick] W (StP k lv ev Rd W (.int .i64 (canC k.Pf R step)) (clmR k.Pf R step user tick)) :=
  (claimF h.p.run h.p.ordW h.n64 (fun a ha => h.p.wrd.pre_lt (by rw [← h.p.len]; exact ha)) (by omega) (Nat.zero_le _) step user tick).mono fun _ _ ho => h.opP ho (clmR_len _ _ _ _ _)
theorem doneS (h : Sd k lv ev R Rd W) (hl : R.log.length ≤ 90000) (step user tick : Int) : Calls Tryz.prog 15 #[.pointer (some ⟨k.gr, 0, none⟩), .int .i64 step, .int .i64 user, .int .i64 tick] W (StP k lv ev Rd W (.int .i64 (canD R step user)) (donR R step user tick)) :=
  (doneF h.p.run h.n64 (by omega) (Nat.zero_le _) step user tick).mono fun _ _ ho => h.opP ho (donR_len _ _ _ _)
theorem abortS (h : Sd k lv ev R Rd W) (hl : R.log.length ≤ 90000) (tick : Int) : Calls Tryz.prog 16 #[.pointer (some ⟨k.gr, 0, none⟩), .int .i64 tick] W (StP k lv ev Rd W (.int .i64 (if endd R = true then 30 else 0)) (aboR R tick)) :=
  (abortF h.p.run h.n64 (by omega) (Nat.zero_le _) tick).mono fun _ _ ho => h.opP ho (aboR_len _ _)
theorem markS (h : Sd k lv ev R Rd W) (hl : R.log.length ≤ 90000) (b : Bool) (tick : Int) : Calls Tryz.prog 37 #[.pointer (some ⟨k.gr, 0, none⟩), .bool b, .int .i64 tick] W (StP k lv ev Rd W (.bool (mrkB R b)) (mrkR R b tick)) :=
  (markF h.p.run h.n64 (by omega) (Nat.zero_le _) b tick).mono fun _ _ ho => h.opP ho (mrkR_len _ _ _)
theorem claimT (h : Sd k lv ev R Rd W) (hl : Rd.log.length ≤ 90000) (step user tick : Int) : Calls Tryz.prog 34 #[.pointer (some ⟨k.gd, 0, none⟩), .int .i64 step, .int .i64 user, .int .i64 tick] W (StD k lv ev R W (.int .i64 (canC k.Pf Rd step)) (clmR k.Pf Rd step user tick)) := by
  obtain ⟨sk, en, h1, h2⟩ := h.d.at'
  exact (claimD h1 h2 h.nd64 h.prd h.pl (by omega) (Nat.zero_le _) step user tick).mono fun _ _ ho => h.opD ho (clmR_len _ _ _ _ _)
theorem doneT (h : Sd k lv ev R Rd W) (ok : RsOk n Rd) (hl : Rd.log.length ≤ 90000) (step user tick : Int) : Calls Tryz.prog 35 #[.pointer (some ⟨k.gd, 0, none⟩), .int .i64 step, .int .i64 user, .int .i64 tick] W (StD k lv ev R W (.int .i64 (canD Rd step user)) (donR Rd step user tick)) := by
  obtain ⟨sk, en, h1, h2⟩ := h.d.at'
  exact (doneD h1 h2 h.nd64 ok.st hl (Nat.zero_le _) step user tick).mono fun _ _ ho => h.opD ho (donR_len _ _ _ _)
theorem abortT (h : Sd k lv ev R Rd W) (hl : Rd.log.length ≤ 90000) (tick : Int) : Calls Tryz.prog 36 #[.pointer (some ⟨k.gd, 0, none⟩), .int .i64 tick] W (StD k lv ev R W (.int .i64 (if endd Rd = true then 30 else 0)) (aboR Rd tick)) := by
  obtain ⟨sk, en, h1, h2⟩ := h.d.at'
  exact (abortD h1 h2 hl (Nat.zero_le _) tick).mono fun _ _ ho => h.opD ho (aboR_len _ _)
theorem markT (h : Sd k lv ev R Rd W) (hl : Rd.log.length ≤ 90000) (b : Bool) (tick : Int) : Calls Tryz.prog 38 #[.pointer (some ⟨k.gd, 0, none⟩), .bool b, .int .i64 tick] W (StD k lv ev R W (.bool (mrkB Rd b)) (mrkR Rd b tick)) := by
  obtain ⟨sk, en, h1, h2⟩ := h.d.at'
  exact (markD h1 h2 hl (Nat.zero_le _) b tick).mono fun _ _ ho => h.opD ho (mrkR_len _ _ _)
theorem stateT (h : Sd k lv ev R Rd W) (step : Int) : Calls Tryz.prog 40 #[.pointer (some ⟨k.gd, 0, none⟩), .int .i64 step] W fun e w' => e = .returned (.tuple #[staT Rd step, .bool (hasS Rd step)]) ∧ Below W.heap.size W w' := by
  obtain ⟨sk, en, h1, h2⟩ := h.d.at'
  exact stateD h1 step
theorem readyS (h : Sd k lv ev R Rd W) (ht : O.Tab W) : Calls Tryz.prog 32 #[.pointer (some ⟨k.gr, 0, none⟩)] W fun e w' => e = .returned (.int .u64 (rdyR R.S.length k.Pf R : Nat)) ∧ Below W.heap.size W w' := readyF h.p.run h.p.ordW h.n64 (fun a ha => h.p.wrd.pre_lt (by rw [← h.p.len]; exact ha)) ht
theorem readyT (h : Sd k lv ev R Rd W) : Calls Tryz.prog 41 #[.pointer (some ⟨k.gd, 0, none⟩)] W fun e w' => e = .returned (.int .u64 (rdyR Rd.S.length k.Pf Rd : Nat)) ∧ w' = W := by
  obtain ⟨sk, en, h1, h2⟩ := h.d.at'
  have hw := h.p.wrd
  rw [← h.d.len] at hw
  exact readyD h1 h2 hw h.prd
theorem statusT (h : Sd k lv ev R Rd W) : Calls Tryz.prog 42 #[.pointer (some ⟨k.gd, 0, none⟩)] W fun e w' => e = .returned (.int .i64 Rd.stat) ∧ w' = W := by
  obtain ⟨sk, en, h1, h2⟩ := h.d.at'
  exact statusD h1 h2
end
theorem st_eqR (a b c d : Int) (w : World) : (Op.equalIn 10000 72 (.agg #[.int .i64 a, .int .i64 b, .int .i64 c, .int .i64 d]) (.agg #[.int .i64 a, .int .i64 b, .int .i64 c, .int .i64 d])).run Tryz.prog w = .ok true w := by
  have u3 := Tryz.underlying3
  have a3 := Tryz.isAgg3
  have z3 := Tryz.sizeOf3
  rw [show (10000 : Nat) = 9999 + 1 from rfl, run_equalIn_struct w 9999 _ _ _ (by simp [Program.fieldsOf, Tryz.underlying72]) (by kernel_rfl)]
  simp only [Program.fieldsOf, Tryz.underlying72]
  go_simp
theorem staT_shp (R : Rs) (step : Int) : ∃ a b c d : Int, staT R step = .agg #[.int .i64 a, .int .i64 b, .int .i64 c, .int .i64 d] := by
  unfold staT stV
  split
  · exact ⟨_, _, _, _, rfl⟩
  · exact ⟨_, _, _, _, rfl⟩
/-- What plays leaves. -/
def PyR (k : SdK) (lv ev : Value) (R' : Rs) (w : World) (e : Ending) (w' : World) : Prop := e = .returned (.bool true) ∧ ∃ lv' ev', Sd k lv' ev' R' R' w' ∧ Zf (k.wr lv ev) w w' ∧ Nf w.heap.size (k.wr lv ev) (k.wr lv' ev')
def oqV (o : Oq) : Value := .agg #[.int .i64 o.on, .int .i64 o.op, .int .i64 o.step, .int .i64 o.user, .int .i64 o.tick, .bool o.stuck]
theorem bx6 {V : World} {b : Nat} {x0 x1 x2 x3 x4 x5 : Value} {t : TypeId} (h : V.heap[b]? = some (.cells #[x0, x1, x2, x3, x4, x5] t (0, 0))) : V.cell? ⟨b, 1, none⟩ = some x1 ∧ V.cell? ⟨b, 2, none⟩ = some x2 ∧ V.cell? ⟨b, 3, none⟩ = some x3 ∧ V.cell? ⟨b, 4, none⟩ = some x4 ∧ V.cell? ⟨b, 5, none⟩ = some x5 := by simp [World.cell?, h]
theorem PyR.of {k : SdK} {lv ev : Value} {R1 R2 : Rs} {w W0 w1 w2 : World} {lv1 ev2 : Value} (h0 : Below w.heap.size w W0) (z1 : Zf (k.wr lv ev) W0 w1) (n1 : Nf W0.heap.size (k.wr lv ev) (k.wr lv1 ev)) (h2 : Sd k lv1 ev2 R1 R2 w2) (z2 : Zf (k.wr lv1 ev) w1 w2) (n2 : Nf w1.heap.size (k.wr lv1 ev) (k.wr lv1 ev2)) (e : R1 = R2) : PyR k lv ev R1 w (.returned (.bool true)) w2 := by
  subst e
  refine ⟨rfl, lv1, ev2, h2, (Zf.of_below h0).trans (z1.trans z2 n1) (Nf.refl _ _), ?_⟩
  exact (Nf.trans (Nf.refl _ _) n1 h0.size).trans n2 (Nat.le_trans h0.size z1.size)
set_option maxRecDepth 100000 in
set_option maxHeartbeats 8000000 in
theorem playsF {k : SdK} {lv ev : Value} {R : Rs} {w : World} {n : Nat} (o : Oq) (h : Sd k lv ev R R w) (ok : RsOk n R) (hl : R.log.length ≤ 80000) (ht : O.Tab w) :
    Calls Tryz.prog 10 #[.pointer (some ⟨k.gr, 0, none⟩), .pointer (some ⟨k.gd, 0, none⟩), oqV o] w (PyR k lv ev (plyR true k.Pf R o) w) := by
  obtain ⟨on, op, step, user, tick, stuck⟩ := o
  have hB0 : Hid (Below w.heap.size w (w.alloc (.cells #[.int .i64 on, .int .i64 op, .int .i64 step, .int .i64 user, .int .i64 tick, .bool stuck] 37))) := (Below.refl _ w).alloc (Nat.le_refl _) _
  have D0 := heap_alloc_new w (.cells #[.int .i64 on, .int .i64 op, .int .i64 step, .int .i64 user, .int .i64 tick, .bool stuck] 37)
  have hS : Hid (∀ V, Zf (k.wr lv ev) (w.alloc (.cells #[.int .i64 on, .int .i64 op, .int .i64 step, .int .i64 user, .int .i64 tick, .bool stuck] 37)) V → V.cell? ⟨w.heap.size, 1, none⟩ = some (.int .i64 op) ∧ V.cell? ⟨w.heap.size, 2, none⟩ = some (.int .i64 step) ∧ V.cell? ⟨w.heap.size, 3, none⟩ = some (.int .i64 user) ∧ V.cell? ⟨w.heap.size, 4, none⟩ = some (.int .i64 tick) ∧ V.cell? ⟨w.heap.size, 5, none⟩ = some (.bool stuck)) := fun V hV => bx6 ((hV.blk w.heap.size (by simp) fun e => absurd (h.lt _ (wr_ft e)) (Nat.lt_irrefl _)).trans D0)
  have h0 := hide' (h.over hB0.out)
  have ht0 := ht.over hB0.out
  clear D0 h
  unfold oqV
  have hQ : Hid (∀ lv1 ev2 w1 w2 R2, plyR true k.Pf R ⟨on, op, step, user, tick, stuck⟩ = R2 → Zf (k.wr lv ev) (w.alloc (.cells #[.int .i64 on, .int .i64 op, .int .i64 step, .int .i64 user, .int .i64 tick, .bool stuck] 37)) w1 → Nf (w.alloc (.cells #[.int .i64 on, .int .i64 op, .int .i64 step, .int .i64 user, .int .i64 tick, .bool stuck] 37)).heap.size (k.wr lv ev) (k.wr lv1 ev) → Sd k lv1 ev2 R2 R2 w2 → Zf (k.wr lv1 ev) w1 w2 → Nf w1.heap.size (k.wr lv1 ev) (k.wr lv1 ev2) → PyR k lv ev (plyR true k.Pf R ⟨on, op, step, user, tick, stuck⟩) w (.returned (.bool true)) w2) := fun lv1 ev2 w1 w2 R2 e z1 n1 h2 z2 n2 => by
    rw [e]
    exact PyR.of hB0.out z1 n1 h2 z2 n2 rfl
  have hQ0 : Hid (∀ V, Below w.heap.size w V → Sd k lv ev R R V → plyR true k.Pf R ⟨on, op, step, user, tick, stuck⟩ = R → PyR k lv ev (plyR true k.Pf R ⟨on, op, step, user, tick, stuck⟩) w (.returned (.bool true)) V) := fun V hV hs e => by
    rw [e]
    exact ⟨rfl, lv, ev, hs, Zf.of_below hV, Nf.refl _ _⟩
  generalize hPy : PyR k lv ev (plyR true k.Pf R ⟨on, op, step, user, tick, stuck⟩) w = QQ at *
  clear hPy
  have hply : Hid (plyR true k.Pf R ⟨on, op, step, user, tick, stuck⟩ = if op = 1 then clmR k.Pf R step user tick else if op = 2 then donR R step user tick else if op = 3 then aboR R tick else if op = 4 then mrkR R stuck tick else R) := by show _ = _; unfold plyR; simp
  by_cases o1 : op = 1
  · subst o1
    have hr := hply.out
    rw [if_pos rfl] at hr
    have K1 := hide' (fun V (z : Below (w.alloc (.cells #[.int .i64 on, .int .i64 1, .int .i64 step, .int .i64 user, .int .i64 tick, .bool stuck] 37)).heap.size (w.alloc (.cells #[.int .i64 on, .int .i64 1, .int .i64 step, .int .i64 user, .int .i64 tick, .bool stuck] 37)) V) => claimS (h0.out.over z) (by omega) step user tick)
    have K2 : Hid (∀ lv1 V, Sd k lv1 ev (clmR k.Pf R step user tick) R V → Calls Tryz.prog 34 #[.pointer (some ⟨k.gd, 0, none⟩), .int .i64 step, .int .i64 user, .int .i64 tick] V (StD k lv1 ev (clmR k.Pf R step user tick) V (.int .i64 (canC k.Pf R step)) (clmR k.Pf R step user tick))) := fun lv1 V h => claimT h (by omega) step user tick
    have hQ1 : Hid (∀ lv1 ev2 w1 w2, _ → _ → Sd k lv1 ev2 (clmR k.Pf R step user tick) (clmR k.Pf R step user tick) w2 → _ → _ → QQ (.returned (.bool true)) w2) := fun lv1 ev2 w1 w2 a b c d e => hQ.out lv1 ev2 w1 w2 _ hr a b c d e
    clear hQ hQ0 hply hr ht0 ht
    generalize clmR k.Pf R step user tick = R2 at *
    generalize canC k.Pf R step = z at *
    go_enter Tryz.func10, Tryz.ntmps10
    go_wp2_with fail
    generalize hW0 : (w.alloc (.cells #[.int .i64 on, .int .i64 1, .int .i64 step, .int .i64 user, .int .i64 tick, .bool stuck] 37)) = W0 at *
    have c1 := (hS.out W0 (Zf.refl _ _)).1
    have hd0 : Hid (Below W0.heap.size W0 W0.drew) := (Below.refl _ _).drew
    have hz0 : Hid (Zf (k.wr lv ev) W0 W0.drew) := Zf.of_below hd0.out
    clear hW0
    go_wp2_with fail
    go_region_held3 (fun V => V.cell? ⟨w.heap.size, 1, none⟩ = some (.int .i64 1) ∧ V.cell? ⟨w.heap.size, 2, none⟩ = some (.int .i64 step) ∧ V.cell? ⟨w.heap.size, 3, none⟩ = some (.int .i64 user) ∧ V.cell? ⟨w.heap.size, 4, none⟩ = some (.int .i64 tick) ∧ V.cell? ⟨w.heap.size, 5, none⟩ = some (.bool stuck)) (first | (exact hS.out _ Z2.out) | (exact hS.out _ Z1.out) | (exact hS.out _ hz0.out)) (first | (go_at_call 34; refine (K2.out _ _ H1.out).mono ?_; rintro e w2 ⟨rfl, ev2, h2, z2, n2⟩; have Z2 := hide' (Z1.out.trans z2 N1.out); have H2 := hide' h2; have X2 := hide' z2; have N2 := hide' n2; clear h2 z2 n2) | (go_at_call 14; refine (K1.out _ hd0.out).mono ?_; rintro e w1 ⟨rfl, lv1, h1, z1, n1⟩; have Z1 := hide' (hz0.out.trans z1 (Nf.refl _ _)); have H1 := hide' h1; have N1 := hide' n1; clear h1 z1 n1))
    have hF := hide' (hQ1.out lv1 ev2 w1 w2 Z1.out N1.out H2.out X2.out N2.out)
    clear hQ1 K1 K2 hS H1 H2 N1 N2 Z1 Z2 X2
    go_wp2
    exact hF.out
  by_cases o2 : op = 2
  · subst o2
    have hr := hply.out
    rw [if_neg (by decide), if_pos rfl] at hr
    have K1 := hide' (fun V (z : Below (w.alloc (.cells #[.int .i64 on, .int .i64 2, .int .i64 step, .int .i64 user, .int .i64 tick, .bool stuck] 37)).heap.size (w.alloc (.cells #[.int .i64 on, .int .i64 2, .int .i64 step, .int .i64 user, .int .i64 tick, .bool stuck] 37)) V) => doneS (h0.out.over z) (by omega) step user tick)
    have K2 : Hid (∀ lv1 V, Sd k lv1 ev (donR R step user tick) R V → Calls Tryz.prog 35 #[.pointer (some ⟨k.gd, 0, none⟩), .int .i64 step, .int .i64 user, .int .i64 tick] V (StD k lv1 ev (donR R step user tick) V (.int .i64 (canD R step user)) (donR R step user tick))) := fun lv1 V h => doneT h ok (by omega) step user tick
    have hQ1 : Hid (∀ lv1 ev2 w1 w2, _ → _ → Sd k lv1 ev2 (donR R step user tick) (donR R step user tick) w2 → _ → _ → QQ (.returned (.bool true)) w2) := fun lv1 ev2 w1 w2 a b c d e => hQ.out lv1 ev2 w1 w2 _ hr a b c d e
    clear hQ hQ0 hply hr ht0 ht
    generalize donR R step user tick = R2 at *
    generalize canD R step user = z at *
    go_enter Tryz.func10, Tryz.ntmps10
    go_wp2_with fail
    generalize hW0 : (w.alloc (.cells #[.int .i64 on, .int .i64 2, .int .i64 step, .int .i64 user, .int .i64 tick, .bool stuck] 37)) = W0 at *
    have c1 := (hS.out W0 (Zf.refl _ _)).1
    have hd0 : Hid (Below W0.heap.size W0 W0.drew) := (Below.refl _ _).drew
    have hz0 : Hid (Zf (k.wr lv ev) W0 W0.drew) := Zf.of_below hd0.out
    clear hW0
    go_wp2_with fail
    go_region_held3 (fun V => V.cell? ⟨w.heap.size, 1, none⟩ = some (.int .i64 2) ∧ V.cell? ⟨w.heap.size, 2, none⟩ = some (.int .i64 step) ∧ V.cell? ⟨w.heap.size, 3, none⟩ = some (.int .i64 user) ∧ V.cell? ⟨w.heap.size, 4, none⟩ = some (.int .i64 tick) ∧ V.cell? ⟨w.heap.size, 5, none⟩ = some (.bool stuck)) (first | (exact hS.out _ Z2.out) | (exact hS.out _ Z1.out) | (exact hS.out _ hz0.out)) (first | (go_at_call 35; refine (K2.out _ _ H1.out).mono ?_; rintro e w2 ⟨rfl, ev2, h2, z2, n2⟩; have Z2 := hide' (Z1.out.trans z2 N1.out); have H2 := hide' h2; have X2 := hide' z2; have N2 := hide' n2; clear h2 z2 n2) | (go_at_call 15; refine (K1.out _ hd0.out).mono ?_; rintro e w1 ⟨rfl, lv1, h1, z1, n1⟩; have Z1 := hide' (hz0.out.trans z1 (Nf.refl _ _)); have H1 := hide' h1; have N1 := hide' n1; clear h1 z1 n1))
    have hF := hide' (hQ1.out lv1 ev2 w1 w2 Z1.out N1.out H2.out X2.out N2.out)
    clear hQ1 K1 K2 hS H1 H2 N1 N2 Z1 Z2 X2
    go_wp2
    exact hF.out
  by_cases o3 : op = 3
  · subst o3
    have hr := hply.out
    rw [if_neg (by decide), if_neg (by decide), if_pos rfl] at hr
    have K1 := hide' (fun V (z : Below (w.alloc (.cells #[.int .i64 on, .int .i64 3, .int .i64 step, .int .i64 user, .int .i64 tick, .bool stuck] 37)).heap.size (w.alloc (.cells #[.int .i64 on, .int .i64 3, .int .i64 step, .int .i64 user, .int .i64 tick, .bool stuck] 37)) V) => abortS (h0.out.over z) (by omega) tick)
    have K2 : Hid (∀ lv1 V, Sd k lv1 ev (aboR R tick) R V → Calls Tryz.prog 36 #[.pointer (some ⟨k.gd, 0, none⟩), .int .i64 tick] V (StD k lv1 ev (aboR R tick) V (.int .i64 (if endd R = true then 30 else 0)) (aboR R tick))) := fun lv1 V h => abortT h (by omega) tick
    have hQ1 : Hid (∀ lv1 ev2 w1 w2, _ → _ → Sd k lv1 ev2 (aboR R tick) (aboR R tick) w2 → _ → _ → QQ (.returned (.bool true)) w2) := fun lv1 ev2 w1 w2 a b c d e => hQ.out lv1 ev2 w1 w2 _ hr a b c d e
    clear hQ hQ0 hply hr ht0 ht
    generalize aboR R tick = R2 at *
    generalize (if endd R = true then (30 : Int) else 0) = z at *
    go_enter Tryz.func10, Tryz.ntmps10
    go_wp2_with fail
    generalize hW0 : (w.alloc (.cells #[.int .i64 on, .int .i64 3, .int .i64 step, .int .i64 user, .int .i64 tick, .bool stuck] 37)) = W0 at *
    have c1 := (hS.out W0 (Zf.refl _ _)).1
    have hd0 : Hid (Below W0.heap.size W0 W0.drew) := (Below.refl _ _).drew
    have hz0 : Hid (Zf (k.wr lv ev) W0 W0.drew) := Zf.of_below hd0.out
    clear hW0
    go_wp2_with fail
    go_region_held3 (fun V => V.cell? ⟨w.heap.size, 1, none⟩ = some (.int .i64 3) ∧ V.cell? ⟨w.heap.size, 2, none⟩ = some (.int .i64 step) ∧ V.cell? ⟨w.heap.size, 3, none⟩ = some (.int .i64 user) ∧ V.cell? ⟨w.heap.size, 4, none⟩ = some (.int .i64 tick) ∧ V.cell? ⟨w.heap.size, 5, none⟩ = some (.bool stuck)) (first | (exact hS.out _ Z2.out) | (exact hS.out _ Z1.out) | (exact hS.out _ hz0.out)) (first | (go_at_call 36; refine (K2.out _ _ H1.out).mono ?_; rintro e w2 ⟨rfl, ev2, h2, z2, n2⟩; have Z2 := hide' (Z1.out.trans z2 N1.out); have H2 := hide' h2; have X2 := hide' z2; have N2 := hide' n2; clear h2 z2 n2) | (go_at_call 16; refine (K1.out _ hd0.out).mono ?_; rintro e w1 ⟨rfl, lv1, h1, z1, n1⟩; have Z1 := hide' (hz0.out.trans z1 (Nf.refl _ _)); have H1 := hide' h1; have N1 := hide' n1; clear h1 z1 n1))
    have hF := hide' (hQ1.out lv1 ev2 w1 w2 Z1.out N1.out H2.out X2.out N2.out)
    clear hQ1 K1 K2 hS H1 H2 N1 N2 Z1 Z2 X2
    go_wp2
    exact hF.out
  by_cases o4 : op = 4
  · subst o4
    have hr := hply.out
    rw [if_neg (by decide), if_neg (by decide), if_neg (by decide), if_pos rfl] at hr
    have K1 := hide' (fun V (z : Below (w.alloc (.cells #[.int .i64 on, .int .i64 4, .int .i64 step, .int .i64 user, .int .i64 tick, .bool stuck] 37)).heap.size (w.alloc (.cells #[.int .i64 on, .int .i64 4, .int .i64 step, .int .i64 user, .int .i64 tick, .bool stuck] 37)) V) => markS (h0.out.over z) (by omega) stuck tick)
    have K2 : Hid (∀ lv1 V, Sd k lv1 ev (mrkR R stuck tick) R V → Calls Tryz.prog 38 #[.pointer (some ⟨k.gd, 0, none⟩), .bool stuck, .int .i64 tick] V (StD k lv1 ev (mrkR R stuck tick) V (.bool (mrkB R stuck)) (mrkR R stuck tick))) := fun lv1 V h => markT h (by omega) stuck tick
    have hQ1 : Hid (∀ lv1 ev2 w1 w2, _ → _ → Sd k lv1 ev2 (mrkR R stuck tick) (mrkR R stuck tick) w2 → _ → _ → QQ (.returned (.bool true)) w2) := fun lv1 ev2 w1 w2 a b c d e => hQ.out lv1 ev2 w1 w2 _ hr a b c d e
    clear hQ hQ0 hply hr ht0 ht
    generalize mrkR R stuck tick = R2 at *
    generalize mrkB R stuck = z at *
    go_enter Tryz.func10, Tryz.ntmps10
    go_wp2_with fail
    generalize hW0 : (w.alloc (.cells #[.int .i64 on, .int .i64 4, .int .i64 step, .int .i64 user, .int .i64 tick, .bool stuck] 37)) = W0 at *
    have c1 := (hS.out W0 (Zf.refl _ _)).1
    have hd0 : Hid (Below W0.heap.size W0 W0.drew) := (Below.refl _ _).drew
    have hz0 : Hid (Zf (k.wr lv ev) W0 W0.drew) := Zf.of_below hd0.out
    clear hW0
    go_wp2_with fail
    go_region_held3 (fun V => V.cell? ⟨w.heap.size, 1, none⟩ = some (.int .i64 4) ∧ V.cell? ⟨w.heap.size, 2, none⟩ = some (.int .i64 step) ∧ V.cell? ⟨w.heap.size, 3, none⟩ = some (.int .i64 user) ∧ V.cell? ⟨w.heap.size, 4, none⟩ = some (.int .i64 tick) ∧ V.cell? ⟨w.heap.size, 5, none⟩ = some (.bool stuck)) (first | (exact hS.out _ Z2.out) | (exact hS.out _ Z1.out) | (exact hS.out _ hz0.out)) (first | (go_at_call 38; refine (K2.out _ _ H1.out).mono ?_; rintro e w2 ⟨rfl, ev2, h2, z2, n2⟩; have Z2 := hide' (Z1.out.trans z2 N1.out); have H2 := hide' h2; have X2 := hide' z2; have N2 := hide' n2; clear h2 z2 n2) | (go_at_call 37; refine (K1.out _ hd0.out).mono ?_; rintro e w1 ⟨rfl, lv1, h1, z1, n1⟩; have Z1 := hide' (hz0.out.trans z1 (Nf.refl _ _)); have H1 := hide' h1; have N1 := hide' n1; clear h1 z1 n1))
    have hF := hide' (hQ1.out lv1 ev2 w1 w2 Z1.out N1.out H2.out X2.out N2.out)
    clear hQ1 K1 K2 hS H1 H2 N1 N2 Z1 Z2 X2
    go_wp2
    exact hF.out
  have hr := hply.out
  rw [if_neg o1, if_neg o2, if_neg o3, if_neg o4] at hr
  have o1' : (op == 1) = false := by rw [beq_eq_false_iff_ne]; exact o1
  have o2' : (op == 2) = false := by rw [beq_eq_false_iff_ne]; exact o2
  have o3' : (op == 3) = false := by rw [beq_eq_false_iff_ne]; exact o3
  have o4' : (op == 4) = false := by rw [beq_eq_false_iff_ne]; exact o4
  obtain ⟨a, b, c, d, hst⟩ := staT_shp R step
  have KS1 : Hid (∀ V, Below (w.alloc (.cells #[.int .i64 on, .int .i64 op, .int .i64 step, .int .i64 user, .int .i64 tick, .bool stuck] 37)).heap.size (w.alloc (.cells #[.int .i64 on, .int .i64 op, .int .i64 step, .int .i64 user, .int .i64 tick, .bool stuck] 37)) V → Calls Tryz.prog 39 #[.pointer (some ⟨k.gr, 0, none⟩), .int .i64 step] V fun e w' => e = .returned (.tuple #[.agg #[.int .i64 a, .int .i64 b, .int .i64 c, .int .i64 d], .bool (hasS R step)]) ∧ Below V.heap.size V w') := fun V z => by rw [← hst]; exact stateF (h0.out.over z).p.run step
  have KS2 : Hid (∀ V, Below (w.alloc (.cells #[.int .i64 on, .int .i64 op, .int .i64 step, .int .i64 user, .int .i64 tick, .bool stuck] 37)).heap.size (w.alloc (.cells #[.int .i64 on, .int .i64 op, .int .i64 step, .int .i64 user, .int .i64 tick, .bool stuck] 37)) V → Calls Tryz.prog 40 #[.pointer (some ⟨k.gd, 0, none⟩), .int .i64 step] V fun e w' => e = .returned (.tuple #[.agg #[.int .i64 a, .int .i64 b, .int .i64 c, .int .i64 d], .bool (hasS R step)]) ∧ Below V.heap.size V w') := fun V z => by rw [← hst]; exact stateT (h0.out.over z) step
  have KR1 := hide' (fun V (z : Below (w.alloc (.cells #[.int .i64 on, .int .i64 op, .int .i64 step, .int .i64 user, .int .i64 tick, .bool stuck] 37)).heap.size (w.alloc (.cells #[.int .i64 on, .int .i64 op, .int .i64 step, .int .i64 user, .int .i64 tick, .bool stuck] 37)) V) => readyS (h0.out.over z) (ht0.over z))
  have KR2 := hide' (fun V (z : Below (w.alloc (.cells #[.int .i64 on, .int .i64 op, .int .i64 step, .int .i64 user, .int .i64 tick, .bool stuck] 37)).heap.size (w.alloc (.cells #[.int .i64 on, .int .i64 op, .int .i64 step, .int .i64 user, .int .i64 tick, .bool stuck] 37)) V) => readyT (h0.out.over z))
  have KT1 := hide' (fun V (z : Below (w.alloc (.cells #[.int .i64 on, .int .i64 op, .int .i64 step, .int .i64 user, .int .i64 tick, .bool stuck] 37)).heap.size (w.alloc (.cells #[.int .i64 on, .int .i64 op, .int .i64 step, .int .i64 user, .int .i64 tick, .bool stuck] 37)) V) => statusF (h0.out.over z).p.run)
  have KT2 := hide' (fun V (z : Below (w.alloc (.cells #[.int .i64 on, .int .i64 op, .int .i64 step, .int .i64 user, .int .i64 tick, .bool stuck] 37)).heap.size (w.alloc (.cells #[.int .i64 on, .int .i64 op, .int .i64 step, .int .i64 user, .int .i64 tick, .bool stuck] 37)) V) => statusT (h0.out.over z))
  have hQ1 : Hid (∀ V, Below (w.alloc (.cells #[.int .i64 on, .int .i64 op, .int .i64 step, .int .i64 user, .int .i64 tick, .bool stuck] 37)).heap.size (w.alloc (.cells #[.int .i64 on, .int .i64 op, .int .i64 step, .int .i64 user, .int .i64 tick, .bool stuck] 37)) V → QQ (.returned (.bool true)) V) := fun V hV => hQ0.out V (hB0.out.trans (hV.mono hB0.out.size)) (h0.out.over hV) hr
  clear hQ hQ0 hply hr ht0 ht hst h0 hB0
  generalize rdyR R.S.length k.Pf R = rd at *
  generalize hasS R step = hb at *
  generalize R.stat = st at *
  go_enter Tryz.func10, Tryz.ntmps10
  go_wp2_with fail
  generalize hW0 : (w.alloc (.cells #[.int .i64 on, .int .i64 op, .int .i64 step, .int .i64 user, .int .i64 tick, .bool stuck] 37)) = W0 at *
  have cW : Hid (∀ V, Below W0.heap.size W0 V → V.cell? ⟨w.heap.size, 2, none⟩ = some (.int .i64 step)) := fun V hV => (hS.out V (Zf.of_below hV)).2.1
  have c1 := (hS.out W0 (Zf.refl _ _)).1
  have c2 := (hS.out W0 (Zf.refl _ _)).2.1
  clear hW0 hS
  go_wp2_with fail
  refine (KS1.out W0 (Below.refl _ _)).mono ?_
  rintro e w1 ⟨rfl, hb1⟩
  have B1 := hide' (hb1.alloc hb1.size (.cells #[.int .i64 a, .int .i64 b, .int .i64 c, .int .i64 d] 72))
  have X1 := hide' (heap_alloc_new w1 (.cells #[.int .i64 a, .int .i64 b, .int .i64 c, .int .i64 d] 72))
  have c3 := cW.out _ B1.out
  clear hb1 KS1 c1 c2
  go_wp2_with fail
  generalize hx : w1.heap.size = gx at *
  generalize hW1 : w1.alloc (.cells #[.int .i64 a, .int .i64 b, .int .i64 c, .int .i64 d] 72) = W1 at *
  clear hx hW1
  refine (KS2.out W1 B1.out).mono ?_
  rintro e w2 ⟨rfl, hb2⟩
  have hgx : gx < w2.heap.size := Nat.lt_of_lt_of_le (Array.getElem?_eq_some_iff.1 X1.out).1 hb2.size
  have X2 := hide' ((((Below.refl _ w2).alloc (Nat.le_refl _) (.cells #[.int .i64 a, .int .i64 b, .int .i64 c, .int .i64 d] 72)).block gx hgx).trans ((hb2.block gx (Array.getElem?_eq_some_iff.1 X1.out).1).trans X1.out))
  have Y2 := hide' (heap_alloc_new w2 (.cells #[.int .i64 a, .int .i64 b, .int .i64 c, .int .i64 d] 72))
  have B2 := hide' ((B1.out.trans (hb2.mono B1.out.size)).alloc (Nat.le_trans B1.out.size hb2.size) (.cells #[.int .i64 a, .int .i64 b, .int .i64 c, .int .i64 d] 72))
  clear hb2 KS2 B1 X1 c3 cW hgx
  go_upto_region 12 with fail
  generalize hy : w2.heap.size = gy at *
  generalize hW2 : w2.alloc (.cells #[.int .i64 a, .int .i64 b, .int .i64 c, .int .i64 d] 72) = W2 at *
  clear hy hW2
  obtain ⟨x0, x1, x2, x3⟩ := bx4 X2.out
  obtain ⟨y0, y1, y2, y3⟩ := bx4 Y2.out
  have he : ∀ W : World, (Op.equalIn 10000 72 (.agg #[.int .i64 a, .int .i64 b, .int .i64 c, .int .i64 d]) (.agg #[.int .i64 a, .int .i64 b, .int .i64 c, .int .i64 d])).run Tryz.prog W = .ok true W := fun W => st_eqR _ _ _ _ W
  clear X2 Y2
  go_wp2_with (first | (go_at_call 42; refine (KT2.out _ B3.out).mono ?_; rintro e w5 ⟨rfl, hw⟩; obtain rfl : w3 = w5 := hw.symm) | (go_at_call 33; refine (KT1.out _ B3.out).mono ?_; rintro e w5 ⟨rfl, hw⟩; obtain rfl : w3 = w5 := hw.symm) | (go_at_call 41; refine (KR2.out _ B3.out).mono ?_; rintro e w5 ⟨rfl, hw⟩; obtain rfl : w3 = w5 := hw.symm) | (go_at_call 32; refine (KR1.out _ B2.out).mono ?_; rintro e w3 ⟨rfl, hb3⟩; have B3 := hide' (B2.out.trans (hb3.mono B2.out.size)); clear hb3))
  exact hQ1.out _ B3.out
end Go.Proofs.YtlipdccfhnnleaaGreatDoor
