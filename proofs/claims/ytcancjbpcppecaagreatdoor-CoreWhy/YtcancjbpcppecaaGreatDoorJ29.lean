/- core: the document's run: wakes. -/
import Derived.Test.YtcancjbpcppecaaGreatDoorJ22
import Derived.Test.YtcancjbpcppecaaGreatDoorJ24
import Derived.Test.YtcancjbpcppecaaGreatDoorJ26
import Derived.Test.YtcancjbpcppecaaGreatDoorJ28
namespace Go.Proofs.YtcancjbpcppecaaGreatDoor.S
open Go.RowKit Go.Shelf
/-- What stands between the calls: a problem's box and rows, a solver and its box. -/
structure Wy (w : World) (P : Pb) (wv fv rv : Value) (gp gb gs a b c : Nat) (V : World) : Prop where
  pb : PbB V gp P wv fv rv
  pv : PbV V P wv fv rv
  bx : V.cell? ⟨gb, 0, none⟩ = some (.pointer (some ⟨gs, 0, none⟩))
  gg : GgAt V gs a b c
  tab : M.Tab V
  be : Below w.heap.size w V
  nep : gp ≠ gs
  neb : gb ≠ gs
  new : ∀ ad n c, wv = .slice (some ad) n c → ad.block ≠ gs
  hG : 1 ≤ gs
  le : w.heap.size ≤ gs
section
variable {w : World} {P : Pb} {wv fv rv : Value} {gp gb gs a b c a' b' c' : Nat} {V V' : World}
theorem Wy.over (h : Wy w P wv fv rv gp gb gs a b c V) (hb : Below V.heap.size V V') : Wy w P wv fv rv gp gb gs a b c V' :=
  ⟨h.pb.below hb, h.pv.below hb, M.cell_over h.bx hb, h.gg.below hb, h.tab.over hb, h.be.trans (hb.mono h.be.size), h.nep, h.neb, h.new, h.hG, h.le⟩
theorem Wy.fr (h : Wy w P wv fv rv gp gb gs a b c V) (hf : M.Fr2 V V' gs gs) (hg : GgAt V' gs a' b' c') : Wy w P wv fv rv gp gb gs a' b' c' V' := by
  refine ⟨(hf.block gp (Array.getElem?_eq_some_iff.1 h.pb).1 h.nep h.nep).trans h.pb, pbV_frame h.pv h.gg h.new hf, ?_, hg, tab_frame h.tab h.hG hf, hf.new h.be h.le h.le h.be.size, h.nep, h.neb, h.new, h.hG, h.le⟩
  have hl := cell_lt h.bx
  have hb := hf.block gb hl h.neb h.neb
  have := h.bx
  simp only [World.cell?] at this ⊢
  rw [hb]; exact this
end
/-- What a closure of Why's answers. -/
def WyP (w : World) (P : Pb) (wv fv rv : Value) (gp gb gs a b c : Nat) (s : Bool) (V : World) (e : Ending) (w' : World) : Prop :=
  e = .returned (.bool s) ∧ ∃ a' b' c', Hid (Wy w P wv fv rv gp gb gs a' b' c' w') ∧ Hid (a' ≤ a + 2000000000000 ∧ b' ≤ b + 2000000000000 ∧ c' ≤ c + 2000000000000) ∧ Hid (M.Fr2 V w' gs gs)
set_option maxRecDepth 100000 in
set_option maxHeartbeats 4000000 in
theorem why1F (w : World) (P : Pb) (wv fv rv : Value) (gp gb gs a b c : Nat) (fk : Nat) (cs : Array Value) (f : Nat → Bool) (V : World) (h : Wy w P wv fv rv gp gb gs a b c V) (hk : Pok P) (hC : chkN P = 0) (hf : Chs V fk cs f) (ha : a ≤ 1152921504606846976) (hb : b ≤ 1152921504606846976) (hc : c ≤ 1152921504606846976) :
    Calls Tryz.prog 13 #[.func (.func fk) #[] cs, .pointer (some ⟨gb, 0, none⟩), .pointer (some ⟨gp, 0, none⟩)] V (WyP w P wv fv rv gp gb gs a b c (stk P f (fun _ => false)) V) := by
  obtain ⟨g12, g0, g64, g32, gF, gW, gR⟩ := chkN_zero hC
  have hfl := (fixB_of gF g64).1
  have h' := hide' h
  have KR := hide' (restF P wv fv rv fk 15 cs #[] f (fun _ => false) V.drew (h.pv.below (Below.refl _ V).drew) hk g0 g64 hfl (hf.over (Below.refl _ V).drew) (nothing_chs _))
  have hXok := hide' (spP_ok hk g64 f (fun _ => false))
  have hbd : Hid (a ≤ 1152921504606846976 ∧ b ≤ 1152921504606846976 ∧ c ≤ 1152921504606846976) := ⟨ha, hb, hc⟩
  have hst : Hid (stk P f (fun _ => false) = !canB (spP P f (fun _ => false))) := rfl
  obtain ⟨ow, cw, of, cf, or, cr, rfl, rfl, rfl⟩ := h.pv.shape
  unfold RsP pbV at KR
  have hWd := hide' (h.over (Below.refl _ V).drew)
  rw [hst.out]
  clear h hk hC hf ha hb hc g12 g0 g64 g32 gF gW gR hfl hst
  generalize spP P f (fun _ => false) = X at *
  have hcl : Hid (∀ W a b c, Wy w P (.slice ow P.who.length cw) (.slice of P.fixed.length cf) (.slice or P.rules.length cr) gp gb gs a b c W → W.cell? ⟨gb, 0, none⟩ = some (.pointer (some ⟨gs, 0, none⟩)) ∧ W.cell? ⟨gp, 0, none⟩ = some (.int .i64 P.users) ∧ W.cell? ⟨gp, 1, none⟩ = some (.slice ow P.who.length cw) ∧ W.cell? ⟨gp, 2, none⟩ = some (.slice of P.fixed.length cf) ∧ W.cell? ⟨gp, 3, none⟩ = some (.slice or P.rules.length cr)) := fun W _ _ _ hW => ⟨hW.bx, hW.pb.c0, hW.pb.c1, hW.pb.c2, hW.pb.c3⟩
  have KCn : Hid (∀ W (x1 x2 x3 : Value), Wy w P (.slice ow P.who.length cw) (.slice of P.fixed.length cf) (.slice or P.rules.length cr) gp gb gs a b c W → PbV W X x1 x2 x3 → Calls Tryz.prog 11 #[.pointer (some ⟨gs, 0, none⟩), .agg #[.int .i64 X.users, x1, x2, x3]] W (CaP W X gs a b c)) := fun W x1 x2 x3 hW hX => canF X x1 x2 x3 gs a b c W hX hXok.out hW.gg hW.hG hW.tab (by have := hbd.out; omega) (by have := hbd.out; omega) (by have := hbd.out; omega)
  unfold CaP at KCn
  unfold WyP
  obtain ⟨bb, hbb⟩ : ∃ q, q = canB X := ⟨_, rfl⟩
  rw [← hbb] at KCn ⊢
  clear hbb
  go_enter Tryz.func13, Tryz.ntmps13
  go_upto_region 1 with fail
  go_region_held3 (fun W => W.cell? ⟨gb, 0, none⟩ = some (.pointer (some ⟨gs, 0, none⟩)) ∧ W.cell? ⟨gp, 0, none⟩ = some (.int .i64 P.users) ∧ W.cell? ⟨gp, 1, none⟩ = some (.slice ow P.who.length cw) ∧ W.cell? ⟨gp, 2, none⟩ = some (.slice of P.fixed.length cf) ∧ W.cell? ⟨gp, 3, none⟩ = some (.slice or P.rules.length cr)) (first | (exact hcl.out _ _ _ _ hWd.out) | (exact hcl.out _ _ _ _ hW1.out) | (exact hcl.out _ _ _ _ hW2.out)) (first | (go_at_call 14; refine KR.out.mono ?_; rintro e w1 ⟨o1, n1, c1, o2, n2, c2, o3, n3, c3, rfl, hV1, hb1, _⟩; have hW1 := hide' (hWd.out.over hb1.out)) | (go_at_call 11; refine (KCn.out _ _ _ _ hW1.out hV1.out).mono ?_; rintro e w2 ⟨rfl, a2, b2, c2', hg2, hgc2, hf2⟩; have hW2 := hide' (hW1.out.fr hf2.out hg2.out)))
  all_goals
    go_wp2
    go_ret
    have hle := hgc2.out.le (by decide)
    refine ⟨rfl, a2, b2, c2', hW2, ⟨by omega, by omega, by omega⟩, ?_⟩
    exact ⟨hf2.out.os.trans (hb1.out.os), hf2.out.tape.trans hb1.out.tape, hf2.out.output.trans hb1.out.output, Nat.le_trans hb1.out.size hf2.out.size, fun k hk h1 h2 => (hf2.out.block k (Nat.lt_of_lt_of_le hk hb1.out.size) h1 h2).trans (hb1.out.block k hk)⟩
set_option maxRecDepth 100000 in
set_option maxHeartbeats 4000000 in
theorem why2F (w : World) (P : Pb) (wv fv rv : Value) (gp gb gs a b c gr : Nat) (K : List Nat) (kv : Value) (fk : Nat) (cs : Array Value) (f : Nat → Bool) (V : World) (h : Wy w P wv fv rv gp gb gs a b c V) (hk : Pok P) (hC : chkN P = 0) (hf : Chs V fk cs f) (hr : V.cell? ⟨gr, 0, none⟩ = some kv) (hK : RowI V kv (ints K)) (hKl : K.length ≤ 1000) (hne : gr ≠ gs) (ha : a ≤ 1152921504606846976) (hb : b ≤ 1152921504606846976) (hc : c ≤ 1152921504606846976) :
    Calls Tryz.prog 16 #[.func (.func fk) #[] cs, .pointer (some ⟨gb, 0, none⟩), .pointer (some ⟨gp, 0, none⟩), .pointer (some ⟨gr, 0, none⟩)] V (WyP w P wv fv rv gp gb gs a b c (stk P (fun i => !K.contains i) f) V) := by
  obtain ⟨g12, g0, g64, g32, gF, gW, gR⟩ := chkN_zero hC
  have hfl := (fixB_of gF g64).1
  have hrd : V.drew.cell? ⟨gr, 0, none⟩ = some kv := hr
  have KB := hide' (besideF K kv V.drew (hK.below (Below.refl _ V).drew (Nat.le_refl _)) hKl)
  have hpv := h.pv
  have KR : Hid (∀ W g, Below V.drew.heap.size V.drew W → Chs W 33 #[.pointer (some ⟨g, 0, none⟩)] (fun i => !K.contains i) → Calls Tryz.prog 14 #[pbV P wv fv rv, .func (.func 33) #[] #[.pointer (some ⟨g, 0, none⟩)], .func (.func fk) #[] cs] W (RsP W (spP P (fun i => !K.contains i) f))) := fun W g hW hc2 => restF P wv fv rv 33 fk #[.pointer (some ⟨g, 0, none⟩)] cs (fun i => !K.contains i) f W ((hpv.below (Below.refl _ V).drew).below hW) hk g0 g64 hfl hc2 ((hf.over (Below.refl _ V).drew).over hW)
  have hXok := hide' (spP_ok hk g64 (fun i => !K.contains i) f)
  have hbd : Hid (a ≤ 1152921504606846976 ∧ b ≤ 1152921504606846976 ∧ c ≤ 1152921504606846976) := ⟨ha, hb, hc⟩
  have hst : Hid (stk P (fun i => !K.contains i) f = !canB (spP P (fun i => !K.contains i) f)) := rfl
  obtain ⟨ow, cw, of, cf, or, cr, rfl, rfl, rfl⟩ := h.pv.shape
  obtain ⟨ok, ck, rfl, _, _⟩ := hK
  unfold RsP pbV at KR
  have hWd := hide' (h.over (Below.refl _ V).drew)
  have hrl : Hid (∀ W : World, (∀ k, k < V.heap.size → k ≠ gs → W.heap[k]? = V.heap[k]?) → W.cell? ⟨gr, 0, none⟩ = some (.slice ok (ints K).length ck)) := fun W hW => by
    have hl := cell_lt hr
    have := hr
    simp only [World.cell?] at this ⊢
    rw [hW gr hl hne]; exact this
  rw [hst.out]
  clear h hk hC hf ha hb hc g12 g0 g64 g32 gF gW gR hfl hst hpv hr
  generalize spP P (fun i => !K.contains i) f = X at *
  have hcl : Hid (∀ W a b c, Wy w P (.slice ow P.who.length cw) (.slice of P.fixed.length cf) (.slice or P.rules.length cr) gp gb gs a b c W → (∀ k, k < V.heap.size → k ≠ gs → W.heap[k]? = V.heap[k]?) → W.cell? ⟨gb, 0, none⟩ = some (.pointer (some ⟨gs, 0, none⟩)) ∧ W.cell? ⟨gp, 0, none⟩ = some (.int .i64 P.users) ∧ W.cell? ⟨gp, 1, none⟩ = some (.slice ow P.who.length cw) ∧ W.cell? ⟨gp, 2, none⟩ = some (.slice of P.fixed.length cf) ∧ W.cell? ⟨gp, 3, none⟩ = some (.slice or P.rules.length cr) ∧ W.cell? ⟨gr, 0, none⟩ = some (.slice ok (ints K).length ck)) := fun W _ _ _ hW h2 => ⟨hW.bx, hW.pb.c0, hW.pb.c1, hW.pb.c2, hW.pb.c3, hrl.out W h2⟩
  have KCn : Hid (∀ W (x1 x2 x3 : Value), Wy w P (.slice ow P.who.length cw) (.slice of P.fixed.length cf) (.slice or P.rules.length cr) gp gb gs a b c W → PbV W X x1 x2 x3 → Calls Tryz.prog 11 #[.pointer (some ⟨gs, 0, none⟩), .agg #[.int .i64 X.users, x1, x2, x3]] W (CaP W X gs a b c)) := fun W x1 x2 x3 hW hX => canF X x1 x2 x3 gs a b c W hX hXok.out hW.gg hW.hG hW.tab (by have := hbd.out; omega) (by have := hbd.out; omega) (by have := hbd.out; omega)
  unfold CaP at KCn
  unfold WyP
  obtain ⟨bb, hbb⟩ : ∃ q, q = canB X := ⟨_, rfl⟩
  rw [← hbb] at KCn ⊢
  clear hbb hrl
  generalize (ints K).length = nk at *
  go_enter Tryz.func16, Tryz.ntmps16
  go_upto_region 1 with fail
  go_region_held3 (fun W => W.cell? ⟨gb, 0, none⟩ = some (.pointer (some ⟨gs, 0, none⟩)) ∧ W.cell? ⟨gp, 0, none⟩ = some (.int .i64 P.users) ∧ W.cell? ⟨gp, 1, none⟩ = some (.slice ow P.who.length cw) ∧ W.cell? ⟨gp, 2, none⟩ = some (.slice of P.fixed.length cf) ∧ W.cell? ⟨gp, 3, none⟩ = some (.slice or P.rules.length cr) ∧ W.cell? ⟨gr, 0, none⟩ = some (.slice ok nk ck)) (first | (exact hcl.out _ _ _ _ hWd.out (fun _ _ _ => rfl)) | (exact hcl.out _ _ _ _ hW0.out (fun k hk _ => hB0.out.block k hk)) | (exact hcl.out _ _ _ _ hW1.out (fun k hk _ => hB1.out.block k hk)) | (exact hcl.out _ _ _ _ hW2.out (fun k hk h1 => (hf2.out.block k (Nat.lt_of_lt_of_le hk hB1.out.size) h1 h1).trans (hB1.out.block k hk)))) (first | (go_at_call 17; refine KB.out.mono ?_; rintro e w0 ⟨g, rfl, hch, hB0⟩; have hW0 := hide' (hWd.out.over hB0.out)) | (go_at_call 14; refine (KR.out _ _ hB0.out hch.out).mono ?_; rintro e w1 ⟨o1, n1, c1, o2, n2, c2, o3, n3, c3, rfl, hV1, hb1, _⟩; have hW1 := hide' (hW0.out.over hb1.out); have hB1 : Hid (Below V.drew.heap.size V.drew w1) := hB0.out.trans (hb1.out.mono hB0.out.size)) | (go_at_call 11; refine (KCn.out _ _ _ _ hW1.out hV1.out).mono ?_; rintro e w2 ⟨rfl, a2, b2, c2', hg2, hgc2, hf2⟩; have hW2 := hide' (hW1.out.fr hf2.out hg2.out)))
  all_goals
    go_wp2
    go_ret
    have hle := hgc2.out.le (by decide)
    refine ⟨rfl, a2, b2, c2', hW2, ⟨by omega, by omega, by omega⟩, ?_⟩
    exact ⟨hf2.out.os.trans (hB1.out.os), hf2.out.tape.trans hB1.out.tape, hf2.out.output.trans hB1.out.output, Nat.le_trans hB1.out.size hf2.out.size, fun k hk h1 h2 => (hf2.out.block k (Nat.lt_of_lt_of_le hk hB1.out.size) h1 h2).trans (hB1.out.block k hk)⟩
end Go.Proofs.YtcancjbpcppecaaGreatDoor.S
namespace Go.Proofs.YtcancjbpcppecaaGreatDoor.S
open Go.RowKit Go.Shelf
/-- A box of one value. -/
def Bo (W : World) (g : Nat) (v : Value) : Prop := ∃ T, W.heap[g]? = some (.cells #[v] T (0, 0))
section
variable {W W' : World} {g : Nat} {v : Value}
theorem Bo.lt (h : Bo W g v) : g < W.heap.size := by obtain ⟨T, h⟩ := h; exact (Array.getElem?_eq_some_iff.1 h).1
theorem Bo.c (h : Bo W g v) : W.cell? ⟨g, 0, none⟩ = some v := by obtain ⟨T, h⟩ := h; simp [World.cell?, h]
theorem Bo.fz (h : Bo W g v) : W.frozen? ⟨g, 0, none⟩ = false := by obtain ⟨T, h⟩ := h; simp [World.frozen?, h]
theorem Bo.of (h : Bo W g v) (e : W'.heap[g]? = W.heap[g]?) : Bo W' g v := by obtain ⟨T, h⟩ := h; exact ⟨T, e.trans h⟩
theorem Bo.over (h : Bo W g v) (hb : Below W.heap.size W W') : Bo W' g v := h.of (hb.block g h.lt)
theorem Bo.new (W : World) (v : Value) (T : TypeId) : Bo (W.alloc (.cells #[v] T)) W.heap.size v := ⟨T, World.alloc_heap_new W _⟩
theorem Bo.set (h : Bo W g v) (u : Value) : Bo (W.setCell ⟨g, 0, none⟩ u) g u := by
  obtain ⟨T, h⟩ := h
  exact ⟨T, heap_setCell_same W g 0 #[v] T u h⟩
end
/-- try, as it is called. -/
def leftV (B : Nat) : Value := .func (.func 27) #[] #[.pointer (some ⟨B + 1, 0, none⟩), .pointer (some ⟨B, 0, none⟩), .pointer (some ⟨B + 1 + 1, 0, none⟩)]
/-- What is asked of stuck. -/
def StkC (V0 : World) (gs : Nat) (fk : Nat) (cs : Array Value) (F : (Nat → Bool) → Bool) : Prop :=
  ∀ (V : World) (a b c fk' : Nat) (cs' : Array Value) (f : Nat → Bool), M.Fr2 V0 V gs gs → GgAt V gs a b c → a ≤ 1152921504606846976 → b ≤ 1152921504606846976 → c ≤ 1152921504606846976 → Chs V fk' cs' f →
    Calls Tryz.prog fk (#[.func (.func fk') #[] cs'] ++ cs) V fun e w' => e = .returned (.bool (F f)) ∧ ∃ a' b' c', Hid (GgAt w' gs a' b' c') ∧ Hid (a' ≤ a + 2000000000000 ∧ b' ≤ b + 2000000000000 ∧ c' ≤ c + 2000000000000) ∧ Hid (M.Fr2 V w' gs gs)
/-- What stands while left tries. -/
structure Lf (V0 : World) (gs : Nat) (fk : Nat) (cs : Array Value) (K : List Nat) (kv : Value) (a b c : Nat) (W : World) : Prop where
  fr : M.Fr2 V0 W gs gs
  gg : GgAt W gs a b c
  bu : Bo W V0.heap.size (.func (.func fk) #[] cs)
  bk : Bo W (V0.heap.size + 1) kv
  bt : Bo W (V0.heap.size + 1 + 1) (leftV V0.heap.size)
  row : W.ownsRow (V0.heap.size + 3) 3 1 kv K.length (cellsI (ints K))
  gl : gs < V0.heap.size
section
variable {V0 W W' : World} {gs fk : Nat} {cs : Array Value} {K : List Nat} {kv : Value} {a b c a' b' c' : Nat}
theorem Lf.sz (h : Lf V0 gs fk cs K kv a b c W) : V0.heap.size + 3 ≤ W.heap.size := h.bt.lt
theorem Lf.frame (h : Lf V0 gs fk cs K kv a b c W) (hf : M.Fr2 W W' gs gs) (hg : GgAt W' gs a' b' c') : Lf V0 gs fk cs K kv a' b' c' W' := by
  have hl := h.gl
  have k : ∀ g, g < W.heap.size → g ≠ gs → W'.heap[g]? = W.heap[g]? := fun g h1 h2 => hf.block g h1 h2 h2
  refine ⟨h.fr.trans hf, hg, h.bu.of (k _ h.bu.lt (by omega)), h.bk.of (k _ h.bk.lt (by omega)), h.bt.of (k _ h.bt.lt (by omega)), ?_, hl⟩
  exact own_same h.row fun g hg1 hg2 => k g hg1 (by have := own_ge' h.row hg2; omega)
theorem Lf.over (h : Lf V0 gs fk cs K kv a b c W) (hb : Below W.heap.size W W') : Lf V0 gs fk cs K kv a b c W' := h.frame (.below hb) (h.gg.below hb)
end
/-- What a call of try leaves as it was, and where the row lies behind it. -/
def Lk (V0 : World) (gs : Nat) (W w' : World) (kv kv' : Value) : Prop :=
  (∀ g, g < W.heap.size → g ≠ gs → g ≠ V0.heap.size + 1 → kv.ownBlock ≠ some g → w'.heap[g]? = W.heap[g]?) ∧ (∀ g, kv'.ownBlock = some g → kv.ownBlock = some g ∨ W.heap.size ≤ g) ∧ W.heap.size ≤ w'.heap.size
theorem Lk.of_fr {V0 W W' : World} {gs : Nat} {kv : Value} (h : M.Fr2 W W' gs gs) : Lk V0 gs W W' kv kv := ⟨fun g h1 h2 _ _ => h.block g h1 h2 h2, fun _ h => .inl h, h.size⟩
theorem Lk.trans {V0 W W1 W2 : World} {gs : Nat} {k0 k1 k2 : Value} (h : Lk V0 gs W W1 k0 k1) (k : Lk V0 gs W1 W2 k1 k2) : Lk V0 gs W W2 k0 k2 := by
  refine ⟨fun g h1 h2 h3 h4 => ?_, fun g hg => ?_, Nat.le_trans h.2.2 k.2.2⟩
  · rw [k.1 g (Nat.lt_of_lt_of_le h1 h.2.2) h2 h3 (fun e => ?_), h.1 g h1 h2 h3 h4]
    rcases h.2.1 g e with q | q
    · exact h4 q
    · omega
  · rcases k.2.1 g hg with q | q
    · exact h.2.1 g q
    · exact .inr (Nat.le_trans h.2.2 q)
/-- What a call of try answers. -/
def LfP (V0 : World) (gs : Nat) (fk : Nat) (cs : Array Value) (K' : List Nat) (kv : Value) (a b c d : Nat) (W : World) (e : Ending) (w' : World) : Prop :=
  e = .returned (.tuple #[]) ∧ ∃ kv' a' b' c', Hid (Lf V0 gs fk cs K' kv' a' b' c' w') ∧ Hid (a' ≤ a + 2000000000000 * (2 * d - 1) ∧ b' ≤ b + 2000000000000 * (2 * d - 1) ∧ c' ≤ c + 2000000000000 * (2 * d - 1)) ∧ Hid (Lk V0 gs W w' kv kv')
theorem grd_len (F : (Nat → Bool) → Bool) : ∀ (d : Nat) (K : List Nat) (f : Nat), (grd F K f d).length ≤ K.length + d
  | 0, K, _ => Nat.le_refl _
  | d + 1, K, f => by
    have := grd_len F d (if F (sprd K (f + 1)) = true then K else K ++ [f]) (f + 1)
    show (grd F (if F (sprd K (f + 1)) = true then K else K ++ [f]) (f + 1) d).length ≤ _
    split at this
    · rename_i h; rw [if_pos h]; omega
    · rename_i h; rw [if_neg h]; simp at this; omega
theorem ints_snoc1 (K : List Nat) (x : Nat) : cellsI (ints (K ++ [x])) = cellsI (ints K) ++ [.int .i64 (x : Int)] := by
  unfold cellsI ints
  simp
theorem Lf.app {V0 W w1 : World} {gs fk : Nat} {cs : Array Value} {K : List Nat} {kv : Value} {a b c x g cap : Nat} (h : Lf V0 gs fk cs K kv a b c W)
    (hown : w1.ownsRow (V0.heap.size + 3) 3 1 (.slice (some ⟨g, 0, none⟩) (K.length + 1) cap) (K.length + 1) (cellsI (ints K) ++ [.int .i64 (x : Int)])) (hgr : (W.alloc (.cells #[.int .i64 (x : Int)] 3)).grownBy w1 kv.ownBlock) (hat : kv.ownBlock = some g ∨ g = W.heap.size + 1) :
    Bo w1 (V0.heap.size + 1) kv ∧ Lf V0 gs fk cs (K ++ [x]) (.slice (some ⟨g, 0, none⟩) (K.length + 1) cap) a b c (w1.setCell ⟨V0.heap.size + 1, 0, none⟩ (.slice (some ⟨g, 0, none⟩) (K.length + 1) cap)) ∧ Lk V0 gs W (w1.setCell ⟨V0.heap.size + 1, 0, none⟩ (.slice (some ⟨g, 0, none⟩) (K.length + 1) cap)) kv (.slice (some ⟨g, 0, none⟩) (K.length + 1) cap) := by
  have hA : Below W.heap.size W (W.alloc (.cells #[.int .i64 (x : Int)] 3)) := (Below.refl _ W).alloc (Nat.le_refl _) _
  have h1 := h.over hA
  have hg0 : ∀ k, kv.ownBlock = some k → V0.heap.size + 3 ≤ k := fun k e => own_ge' h.row e
  have hl := h.gl
  have hs := h.sz
  have hsz : (W.alloc (.cells #[.int .i64 (x : Int)] 3)).heap.size = W.heap.size + 1 := World.size_alloc _ _
  have hz := hgr.size
  rw [hsz] at hz
  have hk : ∀ k, k < W.heap.size → kv.ownBlock ≠ some k → w1.heap[k]? = W.heap[k]? := fun k h2 h3 => by
    rw [hgr.block k (by rw [hsz]; omega) (fun e => h3 e.symm), hA.block k h2]
  have hlo : ∀ k, k < V0.heap.size + 3 → w1.heap[k]? = W.heap[k]? := fun k h2 => hk k (by omega) (fun e => by have := hg0 k e; omega)
  have bk : Bo w1 (V0.heap.size + 1) kv := h.bk.of (hlo _ (by omega))
  have hset : ∀ (u : Value) k, k ≠ V0.heap.size + 1 → (w1.setCell ⟨V0.heap.size + 1, 0, none⟩ u).heap[k]? = w1.heap[k]? := fun u k hk => Below.heap_setCell _ _ _ _ hk
  have hss : ∀ u : Value, (w1.setCell ⟨V0.heap.size + 1, 0, none⟩ u).heap.size = w1.heap.size := fun u => by simp [World.setCell]
  have hgge : V0.heap.size + 3 ≤ g := by
    rcases hat with e | e
    · exact hg0 g e
    · omega
  refine ⟨bk, ⟨?_, ?_, ?_, bk.set _, ?_, ?_, hl⟩, ⟨fun k h2 h3 h4 h5 => ?_, fun k e => ?_, ?_⟩⟩
  · refine ⟨hgr.os.trans h1.fr.os, hgr.tape.trans h1.fr.tape, hgr.output.trans h1.fr.output, ?_, fun k h2 h3 h4 => ?_⟩
    · rw [hss]; omega
    · rw [hset _ k (by omega), hlo k (by omega)]
      exact h.fr.block k h2 h3 h4
  · exact World.rowIs.of_block h.gg (by rw [hset _ gs (by omega), hlo gs (by omega)])
  · exact h.bu.of (by rw [hset _ _ (by omega), hlo _ (by omega)])
  · exact h.bt.of (by rw [hset _ _ (by omega), hlo _ (by omega)])
  · rw [List.length_append, ints_snoc1]
    exact own_set hown (by omega) _
  · rw [hset _ k (by omega), hk k h2 h5]
  · have e' : g = k := by simpa [Value.ownBlock] using e
    subst e'
    rcases hat with q | q
    · exact .inl q
    · exact .inr (by omega)
  · rw [hss]; omega
end Go.Proofs.YtcancjbpcppecaaGreatDoor.S
namespace Go.Proofs.YtcancjbpcppecaaGreatDoor.S
open Go.RowKit Go.Shelf
theorem news1 (w : World) (x : Value) (t : TypeId) : ∀ j u, ([x] : List Value)[j]? = some u → (w.alloc (.cells #[x] t)).cell? ((⟨w.heap.size, 0, none⟩ : Addr).add j) = some u := World.news_of_block (cs := #[x]) (B := w.heap.size) (w := w.alloc (.cells #[x] t)) (World.alloc_heap_new w _)
theorem ent_left : ∀ args w, (callFunc 27 args).run Tryz.prog w = .ok (.enter 27 args) w := enters_of Tryz.func27 (by kernel_rfl) rfl
set_option maxRecDepth 100000 in
set_option maxHeartbeats 4000000 in
theorem leftF1 (V0 : World) (gs fk : Nat) (cs : Array Value) (F : (Nat → Bool) → Bool) (hS : StkC V0 gs fk cs F) (en : ∀ args w, (callFunc fk args).run Tryz.prog w = .ok (.enter fk args) w) (hA : Anti F) : ∀ (d lo hi : Nat), lo + d = hi → hi ≤ 100 → ∀ (K : List Nat) (kv : Value) (a b c : Nat) (W : World), K.length ≤ lo → Lf V0 gs fk cs K kv a b c W → a + 2000000000000 * (2 * d) ≤ 1152921504606846976 → b + 2000000000000 * (2 * d) ≤ 1152921504606846976 → c + 2000000000000 * (2 * d) ≤ 1152921504606846976 →
    Calls Tryz.prog 27 #[.int .i64 (lo : Int), .int .i64 (hi : Int), .pointer (some ⟨V0.heap.size + 1, 0, none⟩), .pointer (some ⟨V0.heap.size, 0, none⟩), .pointer (some ⟨V0.heap.size + 1 + 1, 0, none⟩)] W (LfP V0 gs fk cs (grd F K lo d) kv a b c d W) := by
  intro d
  induction d using Nat.strongRecOn with
  | ind d ih =>
  intro lo hi hhi h100 K kv a b c W hKl hW ha hb hc
  have hB1 : Hid (Below W.heap.size W (W.alloc (.cells #[.int .i64 (hi : Int)] 3))) := (Below.refl _ W).alloc (Nat.le_refl _) _
  have hW' := hide' hW
  unfold LfP
  by_cases hd : d = 0
  · obtain rfl : lo = hi := by omega
    subst hd
    clear ih
    have hG : Hid (grd F K lo 0 = K) := rfl
    have hee : ((lo : Int) == (lo : Int)) = true := by simp
    clear hW ha hb hc hhi
    go_enter Tryz.func27, Tryz.ntmps27
    go_wp2
    first | go_end0 | refine bodyPost_ret (results_none rfl _ _ _) rfl ?_
    refine ⟨rfl, kv, a, b, c, ?_, ⟨by omega, by omega, by omega⟩, Lk.of_fr (.below hB1.out)⟩
    rw [hG.out]
    exact hW'.out.over hB1.out
  have hne : ((lo : Int) == (hi : Int)) = false := by simp; omega
  have hlo : lo ≤ 100 := by omega
  have hW1 := hide' (hW.over hB1.out)
  have hC1 := spared_chs (K := K) (v := kv) (gt := W.heap.size) (gk := V0.heap.size + 1) (hi := hi) (V := W.alloc (.cells #[.int .i64 (hi : Int)] 3)) (Bo.new W _ _).c hW1.out.bk.c (RowI.of_owns hW1.out.row) (by omega)
  have KS := hide' (hS _ a b c _ _ _ hW1.out.fr hW1.out.gg (by omega) (by omega) (by omega) hC1)
  have cu := hW1.out.bu.c
  have ct : (W.alloc (.cells #[.int .i64 (hi : Int)] 3)).cell? ⟨W.heap.size, 0, none⟩ = some (.int .i64 (hi : Int)) := (Bo.new W _ _).c
  have hBt : Hid (Bo (W.alloc (.cells #[.int .i64 (hi : Int)] 3)) W.heap.size (.int .i64 (hi : Int))) := Bo.new W _ _
  have hkvl : Hid (∀ g, kv.ownBlock = some g → g < W.heap.size) := fun g e => (hW.row.lt g e).2
  have hgl := hW.gl
  have hsz := hW.sz
  have hbd : Hid (a + 2000000000000 * (2 * d) ≤ 1152921504606846976 ∧ b + 2000000000000 * (2 * d) ≤ 1152921504606846976 ∧ c + 2000000000000 * (2 * d) ≤ 1152921504606846976) := ⟨ha, hb, hc⟩
  have hLe : Hid (∀ w2, M.Fr2 (W.alloc (.cells #[.int .i64 (hi : Int)] 3)) w2 gs gs → Bo w2 W.heap.size (.int .i64 (hi : Int)) ∧ Lk V0 gs W w2 kv kv) := fun w2 hf => ⟨hBt.out.of (hf.block _ hBt.out.lt (by omega) (by omega)), (Lk.of_fr (.below hB1.out)).trans (Lk.of_fr hf)⟩
  have hA' := hide' hA
  have ih' := hide' ih
  have hhi' := hide' hhi
  clear hW ha hb hc hS hC1 hA ih hBt
  cases hF : F (sprd K hi)
  · rw [hF] at KS
    by_cases hd1 : d = 1
    · subst hd1
      have hG : Hid (grd F K lo 1 = K ++ [lo]) := grd_one F K lo (by rw [hhi'.out]; exact hF)
      have hee : ((lo : Int) + 1 == (hi : Int)) = true := by have := hhi'.out; simp; omega
      clear ih' hF hhi
      obtain ⟨i0, hi0, hz0, hz1, hz2⟩ := info_parts info3
      obtain ⟨ok, ck, rfl⟩ := own_shp hW1.out.row
      go_enter Tryz.func27, Tryz.ntmps27
      go_wp2_with (first | (go_at_fn fk; refine KS.out.mono ?_; rintro e w2 ⟨rfl, a2, b2, c2, hg2, hle2, hf2⟩; have hL2 := hide' (hW1.out.frame hf2.out hg2.out); have hX2 := hide' (hLe.out w2 hf2.out); have ck2 := hL2.out.bk.c; have cf2 := hL2.out.bk.fz; have ct2 := hX2.out.1.c; have hs2 := hL2.out.sz) | (at_builtin; go_loud (refine wpList_append_lies _ rfl _ _ 23 rfl (V0.heap.size + 3) 3 i0 (.int .i64 0) 1 8 Tryz.underlying23 hi0 hz0 hz1 hz2 rfl (by decide) (.slice ok K.length ck) K.length (cellsI (ints K)) rfl (hL2.out.row.alloc _) ⟨w2.heap.size, 0, none⟩ 1 1 [.int .i64 (lo : Int)] rfl rfl (news1 _ _ _) (by simp [Value.oneCell']) (by decide) (by unfold maxLen; omega) (by omega) (by simp; omega) _ rfl ?_); intro g3 cap3 w3 hown3 hgr3 hat3 hlt3; have hX := hide' (hL2.out.app hown3 hgr3 (hat3.imp id (fun e => by simpa using e))); have cX := hX.out.1.c; have fX := hX.out.1.fz))
      first | go_end0 | refine bodyPost_ret (results_none rfl _ _ _) rfl ?_
      refine ⟨rfl, _, a2, b2, c2, ?_, ?_, hX2.out.2.trans hX.out.2.2⟩
      · rw [hG.out]; exact hX.out.2.1
      · have := hle2.out
        exact ⟨by omega, by omega, by omega⟩
    · obtain ⟨m, hm⟩ : ∃ m, m = (lo + hi) / 2 := ⟨_, rfl⟩
      obtain ⟨d1, hd1'⟩ : ∃ d1, lo + d1 = m := ⟨m - lo, by have := hhi'.out; omega⟩
      obtain ⟨d2, hd2⟩ : ∃ d2, m + d2 = hi := ⟨hi - m, by have := hhi'.out; omega⟩
      have hdd : Hid (d1 + d2 = d ∧ 0 < d1 ∧ 0 < d2) := by have := hhi'.out; exact ⟨by omega, by omega, by omega⟩
      have hee : ((lo : Int) + 1 == (hi : Int)) = false := by have := hhi'.out; simp; omega
      have hq : ((lo : Int) + (hi : Int)).tdiv 2 = (m : Int) := by rw [Int.tdiv_eq_ediv_of_nonneg (by omega)]; omega
      have hm100 : m ≤ 100 := by omega
      have hG : Hid (grd F K lo d = grd F (grd F K lo d1) m d2) := by
        show _ = _
        rw [← hdd.out.1, grd_add, hd1']
      have hgl1 := grd_len F d1 K lo
      have KR1 : Hid (∀ V a b c, Lf V0 gs fk cs K kv a b c V → a + 2000000000000 * (2 * d1) ≤ 1152921504606846976 → b + 2000000000000 * (2 * d1) ≤ 1152921504606846976 → c + 2000000000000 * (2 * d1) ≤ 1152921504606846976 → Calls Tryz.prog 27 #[.int .i64 (lo : Int), .int .i64 (m : Int), .pointer (some ⟨V0.heap.size + 1, 0, none⟩), .pointer (some ⟨V0.heap.size, 0, none⟩), .pointer (some ⟨V0.heap.size + 1 + 1, 0, none⟩)] V (LfP V0 gs fk cs (grd F K lo d1) kv a b c d1 V)) := fun V a b c hV q1 q2 q3 => ih'.out d1 (by have := hdd.out; omega) lo m hd1' hm100 K kv a b c V hKl hV q1 q2 q3
      generalize hK1 : grd F K lo d1 = K1 at *
      have KR2 : Hid (∀ V kv1 a b c, Lf V0 gs fk cs K1 kv1 a b c V → a + 2000000000000 * (2 * d2) ≤ 1152921504606846976 → b + 2000000000000 * (2 * d2) ≤ 1152921504606846976 → c + 2000000000000 * (2 * d2) ≤ 1152921504606846976 → Calls Tryz.prog 27 #[.int .i64 (m : Int), .int .i64 (hi : Int), .pointer (some ⟨V0.heap.size + 1, 0, none⟩), .pointer (some ⟨V0.heap.size, 0, none⟩), .pointer (some ⟨V0.heap.size + 1 + 1, 0, none⟩)] V (LfP V0 gs fk cs (grd F K1 m d2) kv1 a b c d2 V)) := fun V kv1 a b c hV q1 q2 q3 => ih'.out d2 (by have := hdd.out; omega) m hi hd2 h100 K1 kv1 a b c V (by omega) hV q1 q2 q3
      unfold LfP at KR1 KR2
      clear ih' hF hm hd1' hd2 hK1 hgl1 hhi
      go_enter Tryz.func27, Tryz.ntmps27
      go_wp2_with (first | (go_at_fn fk; refine KS.out.mono ?_; rintro e w2 ⟨rfl, a2, b2, c2, hg2, hle2, hf2⟩; have hL2 := hide' (hW1.out.frame hf2.out hg2.out); have hX2 := hide' (hLe.out w2 hf2.out); have cb2 := hL2.out.bt.c; unfold leftV at cb2; have ct2 := hX2.out.1.c; have hs2 := hL2.out.sz))
      refine (KR1.out w2 a2 b2 c2 hL2.out (by have := hle2.out; have := hbd.out; have := hdd.out; omega) (by have := hle2.out; have := hbd.out; have := hdd.out; omega) (by have := hle2.out; have := hbd.out; have := hdd.out; omega)).mono ?_
      rintro e w3 ⟨rfl, kv3, a3, b3, c3, hL3, hle3, hk3⟩
      have cb3 := hL3.out.bt.c
      unfold leftV at cb3
      have ct3 := (hX2.out.1.of (hk3.out.1 _ hX2.out.1.lt (by omega) (by omega) (fun e => by have := hkvl.out _ e; omega))).c
      clear cb2 ct2
      go_wp2_with fail
      refine (KR2.out w3 kv3 a3 b3 c3 hL3.out (by have := hle2.out; have := hle3.out; have := hbd.out; have := hdd.out; omega) (by have := hle2.out; have := hle3.out; have := hbd.out; have := hdd.out; omega) (by have := hle2.out; have := hle3.out; have := hbd.out; have := hdd.out; omega)).mono ?_
      rintro e w4 ⟨rfl, kv4, a4, b4, c4, hL4, hle4, hk4⟩
      go_wp2
      first | go_end0 | refine bodyPost_ret (results_none rfl _ _ _) rfl ?_
      refine ⟨rfl, kv4, a4, b4, c4, ?_, ?_, (hX2.out.2.trans hk3.out).trans hk4.out⟩
      · rw [hG.out]; exact hL4
      · have := hle2.out
        have := hle3.out
        have := hle4.out
        have := hdd.out
        exact ⟨by omega, by omega, by omega⟩
  · rw [hF] at KS
    have hG := hide' (grd_all hA'.out d K lo (by rw [hhi'.out]; exact hF))
    clear ih' hF
    go_enter Tryz.func27, Tryz.ntmps27
    go_wp2_with (first | (go_at_fn fk; refine KS.out.mono ?_; rintro e w2 ⟨rfl, a2, b2, c2, hg2, hle2, hf2⟩))
    first | go_end0 | refine bodyPost_ret (results_none rfl _ _ _) rfl ?_
    refine ⟨rfl, kv, a2, b2, c2, ?_, ?_, (hLe.out _ hf2.out).2⟩
    · rw [hG.out]
      exact hW1.out.frame hf2.out hg2.out
    · have := hle2.out
      exact ⟨by omega, by omega, by omega⟩
end Go.Proofs.YtcancjbpcppecaaGreatDoor.S
namespace Go.Proofs.YtcancjbpcppecaaGreatDoor.S
open Go.RowKit Go.Shelf
theorem sprW_none {α : Type} (x : α) (L : List α) : ∀ j, sprW (fun _ => false) x L j = L
  | 0 => rfl
  | j + 1 => by unfold sprW; rw [if_neg (by decide)]; exact sprW_none x L j
theorem sprR_none (R : List Rl) : ∀ k, k ≤ R.length → sprR (fun _ => false) R k = R.take k
  | 0, _ => by simp [sprR]
  | k + 1, h => by
    unfold sprR
    rw [sprR_none R k (by omega), if_neg (by decide), List.take_add_one]
theorem spP_none (P : Pb) : spP P (fun _ => false) (fun _ => false) = P := by
  unfold spP
  rw [sprW_none, sprW_none, sprR_none _ _ (Nat.le_refl _), List.take_length]
/-- The choice of those that are not kept. -/
def ntC (K : List Nat) : Nat → Bool := fun i => !K.contains i
noncomputable def stF1 (P : Pb) (f : Nat → Bool) : Bool := stk P f (fun _ => false)
noncomputable def stF2 (P : Pb) (K : List Nat) (f : Nat → Bool) : Bool := stk P (ntC K) f
theorem stF1_anti {P : Pb} (h : chkN P = 0) : Anti (stF1 P) := fun _ _ hfg hg => stk_mono h (fun i _ e => hfg i e) (fun _ _ e => e) hg
theorem stF2_anti {P : Pb} (h : chkN P = 0) (K : List Nat) : Anti (stF2 P K) := fun _ _ hfg hg => stk_mono h (fun _ _ e => e) (fun i _ e => hfg i e) hg
noncomputable def whyA (P : Pb) : List Nat := grd (stF1 P) [] 0 P.rules.length
noncomputable def whyB (P : Pb) : List Nat := grd (stF2 P (whyA P)) [] 0 P.who.length
theorem sprd_nt (K : List Nat) {n i : Nat} (h : i < n) : sprd K n i = ntC K i := by
  unfold sprd ntC
  rw [decide_eq_true h, Bool.true_and]
structure Need (P : Pb) (a b : List Nat) : Prop where
  ok : stk P (ntC a) (ntC b) = true
  ra : ∀ x ∈ a, x < P.rules.length ∧ stk P (fun i => ntC a i || decide (i = x)) (ntC b) = false
  rb : ∀ x ∈ b, x < P.who.length ∧ stk P (ntC a) (fun i => ntC b i || decide (i = x)) = false
theorem sprd_le_nt {K K0 : List Nat} {x : Nat} (h : ∀ k ∈ K, k < x → k ∈ K0) (i : Nat) (hi : sprd K0 (x + 1) i = true) : (ntC K i || decide (i = x)) = true := by
  unfold sprd at hi
  rw [Bool.and_eq_true] at hi
  have h1 := of_decide_eq_true hi.1
  have h2 : i ∉ K0 := by simpa using hi.2
  by_cases e : i = x
  · rw [decide_eq_true e, Bool.or_true]
  · have h3 : i ∉ K := fun q => h2 (h i q (by omega))
    unfold ntC
    rw [Bool.or_eq_true]
    exact .inl (by simpa using h3)
theorem stk_false_mono {P : Pb} (h : chkN P = 0) {fr fs fr' fs' : Nat → Bool} (hr : ∀ i, i < P.rules.length → fr i = true → fr' i = true) (hs : ∀ t, t < P.who.length → fs t = true → fs' t = true) (hb : stk P fr fs = false) : stk P fr' fs' = false := by
  cases e : stk P fr' fs' with
  | false => rfl
  | true => rw [stk_mono h hr hs e] at hb; cases hb
theorem need_of {P : Pb} (h : chkN P = 0) (hc : canB P = false) : Need P (whyA P) (whyB P) := by
  have k1 : Kpt (stF1 P) (whyA P) (0 + P.rules.length) := Kpt.grd (stF1_anti h) P.rules.length (Kpt.start (by
    show stk P (sprd [] 0) (fun _ => false) = true
    rw [stk_congr h (fr' := fun _ => false) (fs' := fun _ => false) (fun i _ => by unfold sprd; rw [decide_eq_false (by omega)]; rfl) (fun _ _ => rfl)]
    unfold stk
    rw [spP_none, hc]; rfl))
  rw [Nat.zero_add] at k1
  have k2 : Kpt (stF2 P (whyA P)) (whyB P) (0 + P.who.length) := Kpt.grd (stF2_anti h _) P.who.length (Kpt.start (by
    show stk P (ntC (whyA P)) (sprd [] 0) = true
    rw [stk_congr h (fr' := sprd (whyA P) P.rules.length) (fs' := fun _ => false) (fun i hi => (sprd_nt _ hi).symm) (fun i _ => by unfold sprd; rw [decide_eq_false (by omega)]; rfl)]
    exact k1.ok))
  rw [Nat.zero_add] at k2
  refine ⟨?_, fun x hx => ⟨k1.lt x hx, ?_⟩, fun x hx => ⟨k2.lt x hx, ?_⟩⟩
  · have := k2.ok
    unfold stF2 at this
    rw [stk_congr h (fr' := ntC (whyA P)) (fs' := ntC (whyB P)) (fun _ _ => rfl) (fun i hi => sprd_nt _ hi)] at this
    exact this
  · obtain ⟨K0, a1, a2, a3⟩ := k1.need x hx
    exact stk_false_mono h (fun i _ e => sprd_le_nt a2 i e) (fun _ _ e => by cases e) a3
  · obtain ⟨K0, a1, a2, a3⟩ := k2.need x hx
    exact stk_false_mono h (fun _ _ e => e) (fun i _ e => sprd_le_nt a2 i e) a3
/-- The numbers that are left. -/
def rsL (n : Nat) (K : List Nat) : List Nat := (List.range n).filter fun i => ntC K i
theorem mem_rsL {n : Nat} {K : List Nat} {i : Nat} : i ∈ rsL n K ↔ i < n ∧ ntC K i = true := by
  unfold rsL
  rw [List.mem_filter, List.mem_range]
theorem rsL_succ (n : Nat) (K : List Nat) : rsL (n + 1) K = rsL n K ++ (if ntC K n = true then [n] else []) := by
  unfold rsL
  rw [List.range_succ, List.filter_append]
  simp only [List.filter_cons, List.filter_nil]
theorem rsL_len (n : Nat) (K : List Nat) : (rsL n K).length ≤ n := by
  unfold rsL
  have := List.length_filter_le (fun i => ntC K i) (List.range n)
  rw [List.length_range] at this
  exact this
end Go.Proofs.YtcancjbpcppecaaGreatDoor.S
namespace Go.Proofs.YtcancjbpcppecaaGreatDoor.S
open Go.RowKit Go.Shelf
theorem Lf.start {w : World} {gs fk : Nat} {cs : Array Value} {a b c : Nat} (hg : GgAt w gs a b c) (T1 T2 T3 : TypeId) :
    Lf w gs fk cs [] (.slice none 0 0) a b c (((w.alloc (.cells #[.func (.func fk) #[] cs] T1)).alloc (.cells #[.slice none 0 0] T2)).alloc (.cells #[leftV w.heap.size] T3)) := by
  have hl := hg.lt
  have b1 : Below w.heap.size w (w.alloc (.cells #[.func (.func fk) #[] cs] T1)) := (Below.refl _ w).alloc (Nat.le_refl _) _
  have n1 := Bo.new w (.func (.func fk) #[] cs) T1
  have s1 : (w.alloc (.cells #[.func (.func fk) #[] cs] T1)).heap.size = w.heap.size + 1 := World.size_alloc _ _
  generalize w.alloc (.cells #[.func (.func fk) #[] cs] T1) = w1 at *
  have b2 : Below w1.heap.size w1 (w1.alloc (.cells #[.slice none 0 0] T2)) := (Below.refl _ w1).alloc (Nat.le_refl _) _
  have n2 := Bo.new w1 (.slice none 0 0) T2
  have s2 : (w1.alloc (.cells #[.slice none 0 0] T2)).heap.size = w.heap.size + 1 + 1 := by rw [World.size_alloc, s1]
  generalize w1.alloc (.cells #[.slice none 0 0] T2) = w2 at *
  have b3 : Below w2.heap.size w2 (w2.alloc (.cells #[leftV w.heap.size] T3)) := (Below.refl _ w2).alloc (Nat.le_refl _) _
  have n3 := Bo.new w2 (leftV w.heap.size) T3
  generalize w2.alloc (.cells #[leftV w.heap.size] T3) = w3 at *
  rw [s2] at n3
  rw [s1] at n2
  have b12 : Below w.heap.size w w2 := b1.trans (b2.mono b1.size)
  have b13 : Below w.heap.size w w3 := b12.trans (b3.mono b12.size)
  exact ⟨.below b13, hg.below b13, (n1.over b2).over b3, n2.over b3, n3, World.ownsRow_nil _ _ _ _, hl⟩
set_option maxRecDepth 100000 in
set_option maxHeartbeats 2000000 in
theorem leftF (n : Nat) (hn : n ≤ 90) (w : World) (gs fk : Nat) (cs : Array Value) (F : (Nat → Bool) → Bool) (hS : StkC w gs fk cs F) (en : ∀ args w, (callFunc fk args).run Tryz.prog w = .ok (.enter fk args) w) (hA : Anti F) (a b c : Nat) (hg : GgAt w gs a b c) (ha : a + 2000000000000 * (2 * n) ≤ 1152921504606846976) (hb : b + 2000000000000 * (2 * n) ≤ 1152921504606846976) (hc : c + 2000000000000 * (2 * n) ≤ 1152921504606846976) :
    Calls Tryz.prog 12 #[.int .i64 (n : Int), .func (.func fk) #[] cs] w fun e w' => ∃ o k a' b' c', e = .returned (.slice o (grd F [] 0 n).length k) ∧ Hid (w'.ownsRow (w.heap.size + 3) 3 1 (.slice o (grd F [] 0 n).length k) (grd F [] 0 n).length (cellsI (ints (grd F [] 0 n)))) ∧ Hid (GgAt w' gs a' b' c') ∧ Hid (a' ≤ a + 2000000000000 * (2 * n) ∧ b' ≤ b + 2000000000000 * (2 * n) ∧ c' ≤ c + 2000000000000 * (2 * n)) ∧ Hid (M.Fr2 w w' gs gs) := by
  have KL : Hid (∀ W, Lf w gs fk cs [] (.slice none 0 0) a b c W → Calls Tryz.prog 27 #[.int .i64 0, .int .i64 (n : Int), .pointer (some ⟨w.heap.size + 1, 0, none⟩), .pointer (some ⟨w.heap.size, 0, none⟩), .pointer (some ⟨w.heap.size + 1 + 1, 0, none⟩)] W (LfP w gs fk cs (grd F [] 0 n) (.slice none 0 0) a b c n W)) := fun W hW => leftF1 w gs fk cs F hS en hA n 0 n (by omega) (by omega) [] _ a b c W (Nat.le_refl _) hW ha hb hc
  unfold LfP at KL
  have hst : Hid (∀ T1 T2 T3 : TypeId, Lf w gs fk cs [] (.slice none 0 0) a b c (((w.alloc (.cells #[.func (.func fk) #[] cs] T1)).alloc (.cells #[.slice none 0 0] T2)).alloc (.cells #[leftV w.heap.size] T3))) := fun T1 T2 T3 => Lf.start hg T1 T2 T3
  unfold leftV at hst
  clear hS hA hg ha hb hc en
  generalize grd F [] 0 n = K at *
  go_enter Tryz.func12, Tryz.ntmps12
  go_wp2_with fail
  refine (KL.out _ (hst.out _ _ _)).mono ?_
  rintro e w1 ⟨rfl, kv, a1, b1, c1, hL1, hle1, hk1⟩
  have ck := hL1.out.bk.c
  have hR := hide' hL1.out.row
  have hgg := hide' hL1.out.gg
  have hfr := hide' hL1.out.fr
  obtain ⟨ok, kk, rfl⟩ := own_shp hR.out
  clear hL1 hk1 KL hst
  go_wp2
  go_ret
  have := hle1.out
  exact ⟨ok, kk, a1, b1, c1, rfl, hR, hgg, ⟨by omega, by omega, by omega⟩, hfr⟩
theorem stkC1 {w : World} {P : Pb} {wv fv rv : Value} {gp gb gs a b c : Nat} {V0 : World} (h : Wy w P wv fv rv gp gb gs a b c V0) (hk : Pok P) (hC : chkN P = 0) : StkC V0 gs 13 #[.pointer (some ⟨gb, 0, none⟩), .pointer (some ⟨gp, 0, none⟩)] (stF1 P) :=
  fun V a' b' c' fk' cs' f hf hg ha hb hc hch => (why1F w P wv fv rv gp gb gs a' b' c' fk' cs' f V (h.fr hf hg) hk hC hch ha hb hc).mono fun _ _ ⟨h1, a2, b2, c2, h2, h3, h4⟩ => ⟨h1, a2, b2, c2, h2.out.gg, h3, h4⟩
theorem stkC2 {w : World} {P : Pb} {wv fv rv : Value} {gp gb gs a b c gr : Nat} {K : List Nat} {kv : Value} {V0 : World} (h : Wy w P wv fv rv gp gb gs a b c V0) (hk : Pok P) (hC : chkN P = 0) (hr : V0.cell? ⟨gr, 0, none⟩ = some kv) (hK : RowI V0 kv (ints K)) (hKl : K.length ≤ 1000) (hne : gr ≠ gs) : StkC V0 gs 16 #[.pointer (some ⟨gb, 0, none⟩), .pointer (some ⟨gp, 0, none⟩), .pointer (some ⟨gr, 0, none⟩)] (stF2 P K) :=
  fun V a' b' c' fk' cs' f hf hg ha hb hc hch => (why2F w P wv fv rv gp gb gs a' b' c' gr K kv fk' cs' f V (h.fr hf hg) hk hC hch (by
      have hb := hf.block gr (cell_lt hr) hne hne
      simp only [World.cell?] at hr ⊢
      rw [hb]; exact hr) (rowI_frame hK h.gg fun k hk e => hf.block k hk e e) hKl hne ha hb hc).mono fun _ _ ⟨h1, a2, b2, c2, h2, h3, h4⟩ => ⟨h1, a2, b2, c2, h2.out.gg, h3, h4⟩
theorem ent_why1 : ∀ args w, (callFunc 13 args).run Tryz.prog w = .ok (.enter 13 args) w := enters_of Tryz.func13 (by kernel_rfl) rfl
theorem ent_why2 : ∀ args w, (callFunc 16 args).run Tryz.prog w = .ok (.enter 16 args) w := enters_of Tryz.func16 (by kernel_rfl) rfl
/-- What Why tells. -/
structure WhS (P : Pb) (A B : List Nat) (s : Bool) : Prop where
  y : chkN P = 0 → canB P = false → s = true ∧ A = whyA P ∧ B = whyB P
  n : (chkN P ≠ 0 ∨ canB P = true) → s = false ∧ A = [] ∧ B = []
def WhP (w : World) (P : Pb) (e : Ending) (w' : World) : Prop :=
  ∃ o1 k1 o2 k2 A B s, e = .returned (.tuple #[.slice o1 A.length k1, .slice o2 B.length k2, .bool s]) ∧ Hid (RowI w' (.slice o1 A.length k1) (ints A)) ∧ Hid (RowI w' (.slice o2 B.length k2) (ints B)) ∧ Hid (Below w.heap.size w w') ∧ Hid (WhS P A B s)
/-- Besides, the rules' box. -/
structure Wq (w : World) (P : Pb) (wv fv rv : Value) (gb : Nat) (kv : Value) (a b c : Nat) (V : World) : Prop where
  y : Wy w P wv fv rv w.heap.size gb (w.heap.size + 1 + 1) a b c V
  r : Bo V (w.heap.size + 1) kv
  h0 : PbV w P wv fv rv
  t0 : M.Tab w
  nb : gb ≠ w.heap.size + 1
section
variable {w : World} {P : Pb} {wv fv rv : Value} {gb : Nat} {kv : Value} {a b c a' b' c' : Nat} {V V' : World}
theorem Wq.over (h : Wq w P wv fv rv gb kv a b c V) (hb : Below V.heap.size V V') : Wq w P wv fv rv gb kv a b c V' := ⟨h.y.over hb, h.r.over hb, h.h0, h.t0, h.nb⟩
theorem Wq.fr (h : Wq w P wv fv rv gb kv a b c V) (hf : M.Fr2 V V' (w.heap.size + 1 + 1) (w.heap.size + 1 + 1)) (hg : GgAt V' (w.heap.size + 1 + 1) a' b' c') : Wq w P wv fv rv gb kv a' b' c' V' := ⟨h.y.fr hf hg, h.r.of (hf.block _ h.r.lt (by omega) (by omega)), h.h0, h.t0, h.nb⟩
theorem Wq.setR (h : Wq w P wv fv rv gb kv a b c V) (u : Value) : Wq w P wv fv rv gb u a b c (V.setCell ⟨w.heap.size + 1, 0, none⟩ u) := by
  have hk : ∀ k, k ≠ w.heap.size + 1 → (V.setCell ⟨w.heap.size + 1, 0, none⟩ u).heap[k]? = V.heap[k]? := fun k e => Below.heap_setCell _ _ _ _ e
  have hbe : Below w.heap.size w (V.setCell ⟨w.heap.size + 1, 0, none⟩ u) := h.y.be.setCell (p := ⟨w.heap.size + 1, 0, none⟩) (Nat.le_succ _) u
  refine ⟨⟨(hk _ (by omega)).trans h.y.pb, h.h0.below hbe, ?_, World.rowIs.of_block h.y.gg (hk _ (by omega)), h.t0.over hbe, hbe, h.y.nep, h.y.neb, h.y.new, h.y.hG, h.y.le⟩, h.r.set u, h.h0, h.t0, h.nb⟩
  have := h.y.bx
  simp only [World.cell?] at this ⊢
  rw [hk _ h.nb]; exact this
theorem Wq.start {w3 : World} (h : PbV w P wv fv rv) (ht : M.Tab w) (hn : ∀ ad n c, wv = .slice (some ad) n c → ad.block < w.heap.size) (hg : GgAt w3 ((w.alloc (.cells #[.int .i64 P.users, wv, fv, rv] 26)).alloc (.cells #[.slice none 0 0] 23)).heap.size 0 0 0) (hb : Below ((w.alloc (.cells #[.int .i64 P.users, wv, fv, rv] 26)).alloc (.cells #[.slice none 0 0] 23)).heap.size ((w.alloc (.cells #[.int .i64 P.users, wv, fv, rv] 26)).alloc (.cells #[.slice none 0 0] 23)) w3) (T : TypeId) :
    Wq w P wv fv rv w3.heap.size (.slice none 0 0) 0 0 0 (w3.alloc (.cells #[.pointer (some ⟨w.heap.size + 1 + 1, 0, none⟩)] T)) := by
  have b1 : Below w.heap.size w (w.alloc (.cells #[.int .i64 P.users, wv, fv, rv] 26)) := (Below.refl _ w).alloc (Nat.le_refl _) _
  have n1 : PbB (w.alloc (.cells #[.int .i64 P.users, wv, fv, rv] 26)) w.heap.size P wv fv rv := heap_new w _
  have s1 := World.size_alloc w (.cells #[.int .i64 P.users, wv, fv, rv] 26)
  generalize w.alloc (.cells #[.int .i64 P.users, wv, fv, rv] 26) = w1 at *
  have b2 : Below w1.heap.size w1 (w1.alloc (.cells #[.slice none 0 0] 23)) := (Below.refl _ w1).alloc (Nat.le_refl _) _
  have n2 := Bo.new w1 (.slice none 0 0) 23
  have s2 := World.size_alloc w1 (.cells #[.slice none 0 0] 23)
  generalize w1.alloc (.cells #[.slice none 0 0] 23) = w2 at *
  have b4 : Below w3.heap.size w3 (w3.alloc (.cells #[.pointer (some ⟨w.heap.size + 1 + 1, 0, none⟩)] T)) := (Below.refl _ w3).alloc (Nat.le_refl _) _
  have n4 := Bo.new w3 (.pointer (some ⟨w.heap.size + 1 + 1, 0, none⟩)) T
  have s3 := hb.size
  have hgl := hg.lt
  generalize w3.alloc (.cells #[.pointer (some ⟨w.heap.size + 1 + 1, 0, none⟩)] T) = w4 at *
  rw [s2, s1] at hg hgl
  rw [s1] at n2
  have b24 : Below w2.heap.size w2 w4 := hb.trans (b4.mono hb.size)
  have b14 : Below w1.heap.size w1 w4 := b2.trans (b24.mono b2.size)
  have b04 : Below w.heap.size w w4 := b1.trans (b14.mono b1.size)
  refine ⟨⟨n1.below b14, h.below b04, n4.c, hg.below b4, ht.over b04, b04, by omega, by omega, fun ad n c e => by have := hn ad n c e; omega, by have := ht.2; omega, by omega⟩, n2.over b24, h, ht, by omega⟩
end
/-- Besides, the rules that are left. -/
structure Ws (w : World) (P : Pb) (wv fv rv : Value) (gb : Nat) (kv : Value) (B : Nat) (v : Value) (A : List Nat) (a b c : Nat) (V : World) : Prop where
  q : Wq w P wv fv rv gb kv a b c V
  row : V.ownsRow (B + 3) 3 1 v A.length (cellsI (ints A))
  le : B ≤ V.heap.size
  lt : w.heap.size + 1 + 1 < B
section
variable {w : World} {P : Pb} {wv fv rv : Value} {gb : Nat} {kv : Value} {B : Nat} {v : Value} {A : List Nat} {a b c a' b' c' : Nat} {V V' : World}
theorem Ws.fr (h : Ws w P wv fv rv gb kv B v A a b c V) (hf : M.Fr2 V V' (w.heap.size + 1 + 1) (w.heap.size + 1 + 1)) (hg : GgAt V' (w.heap.size + 1 + 1) a' b' c') : Ws w P wv fv rv gb kv B v A a' b' c' V' :=
  ⟨h.q.fr hf hg, own_same h.row fun g h1 h2 => (by have := own_ge' h.row h2; have := h.lt; exact hf.block g h1 (by omega) (by omega)), Nat.le_trans h.le hf.size, h.lt⟩
theorem Ws.setR (h : Ws w P wv fv rv gb kv B v A a b c V) (u : Value) : Ws w P wv fv rv gb u B v A a b c (V.setCell ⟨w.heap.size + 1, 0, none⟩ u) :=
  ⟨h.q.setR u, own_set h.row (by have := h.lt; omega) u, by have := h.le; simpa [World.setCell] using this, h.lt⟩
end
theorem row_nilC (W : World) : RowI W (.slice none 0 0) (ints []) := ⟨none, 0, rfl, ⟨Nat.le_refl _, fun _ => rfl⟩, fun i z hz => by cases hz⟩
set_option maxRecDepth 100000 in
set_option maxHeartbeats 4000000 in
theorem whyF (P : Pb) (wv fv rv : Value) (w : World) (h : PbV w P wv fv rv) (hk : Pok P) (ht : M.Tab w) (hn : ∀ ad n c, wv = .slice (some ad) n c → ad.block < w.heap.size) :
    Calls Tryz.prog 5 #[pbV P wv fv rv] w (WhP w P) := by
  have hk' := hide' hk
  have ht' := hide' ht
  have hG := ht.2
  have h' := hide' h
  have hn' := hide' hn
  obtain ⟨ow, cw, of, cf, or, cr, rfl, rfl, rfl⟩ := h.shape
  unfold pbV
  clear h hk ht hn
  have KN : Hid (∀ V, Calls Tryz.prog 9 #[] V fun e w' => e = .returned (.pointer (some ⟨V.heap.size, 0, none⟩)) ∧ Hid (GgAt w' V.heap.size 0 0 0) ∧ Hid (Below V.heap.size V w')) := fun V => newF V
  have hB3 : Hid (∀ w3 T, GgAt w3 ((w.alloc (.cells #[.int .i64 P.users, .slice ow P.who.length cw, .slice of P.fixed.length cf, .slice or P.rules.length cr] 26)).alloc (.cells #[.slice none 0 0] 23)).heap.size 0 0 0 → Below ((w.alloc (.cells #[.int .i64 P.users, .slice ow P.who.length cw, .slice of P.fixed.length cf, .slice or P.rules.length cr] 26)).alloc (.cells #[.slice none 0 0] 23)).heap.size ((w.alloc (.cells #[.int .i64 P.users, .slice ow P.who.length cw, .slice of P.fixed.length cf, .slice or P.rules.length cr] 26)).alloc (.cells #[.slice none 0 0] 23)) w3 → Wq w P (.slice ow P.who.length cw) (.slice of P.fixed.length cf) (.slice or P.rules.length cr) w3.heap.size (.slice none 0 0) 0 0 0 (w3.alloc (.cells #[.pointer (some ⟨w.heap.size + 1 + 1, 0, none⟩)] T))) := fun w3 T h1 h2 => Wq.start h'.out ht'.out hn'.out h1 h2 T
  go_enter Tryz.func5, Tryz.ntmps5
  go_upto_region 2 with (go_at_call 9; refine (KN.out _).mono ?_; rintro e w3 ⟨rfl, hg3, hb3⟩)
  have hQ := hide' (hB3.out w3 36 hg3.out hb3.out)
  clear hB3 hg3 hb3 KN
  generalize w3.heap.size = gb at *
  generalize w3.alloc (.cells #[.pointer (some ⟨w.heap.size + 1 + 1, 0, none⟩)] 36) = w4 at *
  have KC := hide' (checkPF P _ _ _ w4 hQ.out.y.pv hk'.out.w hk'.out.f hk'.out.r hk'.out.s hk'.out.b)
  unfold pbV at KC
  have q0 := hQ.out.y.pb.c0
  have q1 := hQ.out.y.pb.c1
  have q2 := hQ.out.y.pb.c2
  have q3 := hQ.out.y.pb.c3
  go_wp2_with fail
  refine KC.out.mono ?_
  rintro e w5 ⟨rfl, hb5⟩
  have hQ5 := hide' (hQ.out.over hb5)
  clear hQ q0 q1 q2 q3 KC hb5
  by_cases hC : chkN P = 0
  case neg =>
    as_aux_lemma =>
    have hne : (((chkN P : Nat) : Int) != 0) = true := by rw [bne_iff_ne]; omega
    have hW : Hid (WhS P [] [] false) := ⟨fun e => absurd e hC, fun _ => ⟨rfl, rfl, rfl⟩⟩
    have f0 := hQ5.out.r.fz
    have y0 := hQ5.out.r.c
    have x0 := (hQ5.out.r.set (.slice none 0 0)).c
    have hBe := hide' ((hQ5.out.setR (.slice none 0 0)).y.be)
    generalize chkN P = cc at *
    clear hQ5 hC hk' ht' h' hn'
    go_wp2
    refine bodyPost_ret (v := .tuple #[.slice none 0 0, .slice none 0 0, .bool false]) (by simp [results, Tryz.results5, go_sem, x0]) rfl ?_
    unfold WhP
    exact ⟨none, 0, none, 0, [], [], false, rfl, row_nilC _, row_nilC _, hBe, hW⟩
  have hne : (((chkN P : Nat) : Int) != 0) = false := by rw [hC]; rfl
  have KCn := hide' (canF P _ _ _ (w.heap.size + 1 + 1) 0 0 0 w5 hQ5.out.y.pv hk'.out hQ5.out.y.gg hQ5.out.y.hG hQ5.out.y.tab (by decide) (by decide) (by decide))
  unfold pbV CaP at KCn
  have q0 := hQ5.out.y.pb.c0
  have q1 := hQ5.out.y.pb.c1
  have q2 := hQ5.out.y.pb.c2
  have q3 := hQ5.out.y.pb.c3
  have qb := hQ5.out.y.bx
  cases hcb : canB P
  case true =>
    as_aux_lemma =>
    rw [hcb] at KCn
    have hW : Hid (WhS P [] [] false) := ⟨fun _ e => (by rw [hcb] at e; cases e), fun _ => ⟨rfl, rfl, rfl⟩⟩
    clear hC hk' ht' h' hn' hcb
    generalize ((chkN P : Nat) : Int) = cc at *
    go_wp2_with (go_at_call 11; refine KCn.out.mono ?_; rintro e w6 ⟨rfl, a6, b6, c6, hg6, hgc6, hf6⟩; have hQ6 := hide' (hQ5.out.fr hf6.out hg6.out); have f0 := hQ6.out.r.fz; have y0 := hQ6.out.r.c; have x0 := (hQ6.out.r.set (.slice none 0 0)).c)
    refine bodyPost_ret (v := .tuple #[.slice none 0 0, .slice none 0 0, .bool false]) (by simp [results, Tryz.results5, go_sem, x0]) rfl ?_
    unfold WhP
    exact ⟨none, 0, none, 0, [], [], false, rfl, row_nilC _, row_nilC _, (hQ6.out.setR (.slice none 0 0)).y.be, hW⟩
  rw [hcb] at KCn
  obtain ⟨g12, g0, g64, g32, gF, gW, gR⟩ := chkN_zero hC
  have hW : Hid (WhS P (whyA P) (whyB P) true) := ⟨fun _ _ => ⟨rfl, rfl, rfl⟩, fun e => (by rcases e with e | e; exact absurd hC e; rw [hcb] at e; cases e)⟩
  have hbd : Hid (P.who.length ≤ 12 ∧ P.rules.length ≤ 32) := ⟨g12, by omega⟩
  have hC' := hide' hC
  have hA1 := hide' (stF1_anti hC)
  have hA2 := hide' (stF2_anti hC (whyA P))
  have hA : Hid (grd (stF1 P) [] 0 P.rules.length = whyA P) := rfl
  have hB : Hid (grd (stF2 P (whyA P)) [] 0 P.who.length = whyB P) := rfl
  have hAl : Hid ((whyA P).length ≤ 1000) := by
    have := grd_len (stF1 P) P.rules.length [] 0
    show (grd (stF1 P) [] 0 P.rules.length).length ≤ 1000
    simp at this; omega
  clear hC hcb g12 g0 g64 g32 gF gW gR
  generalize ((chkN P : Nat) : Int) = cc at *
  have KL1 : Hid (∀ V a b c, Wq w P (.slice ow P.who.length cw) (.slice of P.fixed.length cf) (.slice or P.rules.length cr) gb (.slice none 0 0) a b c V → a ≤ 1000000000000000 → b ≤ 1000000000000000 → c ≤ 1000000000000000 → Calls Tryz.prog 12 #[.int .i64 (P.rules.length : Int), .func (.func 13) #[] #[.pointer (some ⟨gb, 0, none⟩), .pointer (some ⟨w.heap.size, 0, none⟩)]] V fun e w' => ∃ o k, e = .returned (.slice o (whyA P).length k) ∧ Hid (∃ a b c, Ws w P (.slice ow P.who.length cw) (.slice of P.fixed.length cf) (.slice or P.rules.length cr) gb (.slice none 0 0) V.heap.size (.slice o (whyA P).length k) (whyA P) a b c w' ∧ a ≤ 1000000000000000 + 1000000000000000 ∧ b ≤ 1000000000000000 + 1000000000000000 ∧ c ≤ 1000000000000000 + 1000000000000000)) := fun V a b c hV ha hb hc => by
    have hbd := hbd.out
    have := leftF P.rules.length (by omega) V (w.heap.size + 1 + 1) _ _ _ (stkC1 hV.y hk'.out hC'.out) ent_why1 hA1.out a b c hV.y.gg (by omega) (by omega) (by omega)
    rw [hA.out] at this
    refine this.mono ?_
    rintro e w' ⟨o, k, a', b', c', rfl, h1, h2, h3, h4⟩
    have h3 := h3.out
    exact ⟨o, k, rfl, a', b', c', ⟨hV.fr h4.out h2.out, h1.out, h4.out.size, hV.y.gg.lt⟩, by omega, by omega, by omega⟩
  have KL2 : Hid (∀ V a b c B o k, Ws w P (.slice ow P.who.length cw) (.slice of P.fixed.length cf) (.slice or P.rules.length cr) gb (.slice o (whyA P).length k) B (.slice o (whyA P).length k) (whyA P) a b c V → a ≤ 1000000000000000 + 1000000000000000 → b ≤ 1000000000000000 + 1000000000000000 → c ≤ 1000000000000000 + 1000000000000000 → Calls Tryz.prog 12 #[.int .i64 (P.who.length : Int), .func (.func 16) #[] #[.pointer (some ⟨gb, 0, none⟩), .pointer (some ⟨w.heap.size, 0, none⟩), .pointer (some ⟨w.heap.size + 1, 0, none⟩)]] V fun e w' => ∃ o2 k2, e = .returned (.slice o2 (whyB P).length k2) ∧ Hid (w'.ownsRow (V.heap.size + 3) 3 1 (.slice o2 (whyB P).length k2) (whyB P).length (cellsI (ints (whyB P)))) ∧ Hid (∃ a b c, Ws w P (.slice ow P.who.length cw) (.slice of P.fixed.length cf) (.slice or P.rules.length cr) gb (.slice o (whyA P).length k) B (.slice o (whyA P).length k) (whyA P) a b c w') ∧ Hid (w.heap.size + 1 < V.heap.size)) := fun V a b c B o k hV ha hb hc => by
    have hbd := hbd.out
    have := leftF P.who.length (by omega) V (w.heap.size + 1 + 1) _ _ _ (stkC2 hV.q.y hk'.out hC'.out hV.q.r.c (RowI.of_owns hV.row) hAl.out (by omega)) ent_why2 hA2.out a b c hV.q.y.gg (by omega) (by omega) (by omega)
    rw [hB.out] at this
    refine this.mono ?_
    rintro e w' ⟨o2, k2, a', b', c', rfl, h1, h2, h3, h4⟩
    exact ⟨o2, k2, rfl, h1, ⟨a', b', c', hV.fr h4.out h2.out⟩, hV.q.r.lt⟩
  generalize whyA P = A at *
  generalize whyB P = B at *
  clear hk' ht' h' hn' hA1 hA2 hA hB hC'
  have hrl : P.rules.length ≤ 32 := hbd.out.2
  have hwl : P.who.length ≤ 12 := hbd.out.1
  go_wp2_with (first | (go_at_call 11; refine KCn.out.mono ?_; rintro e w6 ⟨rfl, a6, b6, c6, hg6, hgc6, hf6⟩; have hQ6 := hide' (hQ5.out.fr hf6.out hg6.out); have hle6 := hide' (hgc6.out.le (by decide)); have p3 := hQ6.out.y.pb.c3))
  refine (KL1.out w6 a6 b6 c6 hQ6.out (by have := hle6.out; omega) (by have := hle6.out; omega) (by have := hle6.out; omega)).mono ?_
  rintro e w7 ⟨o1, k1, rfl, hX7⟩
  obtain ⟨a7, b7, c7, hS7, hl7⟩ := hX7.out
  have f7 := hS7.q.r.fz
  have y7 := hS7.q.r.c
  have hS8 := hide' (hS7.setR (.slice o1 A.length k1))
  have hl7' := hide' hl7
  have p1 := hS8.out.q.y.pb.c1
  clear hS7 hX7 hl7 KL1 KCn hQ5 hQ6 hgc6 hg6 hf6 p3 q0 q1 q2 q3 qb hle6
  go_wp2_with fail
  refine (KL2.out _ a7 b7 c7 _ o1 k1 hS8.out (by have := hl7'.out; omega) (by have := hl7'.out; omega) (by have := hl7'.out; omega)).mono ?_
  rintro e w9 ⟨o2, k2, rfl, hR9, hX9, hz9⟩
  obtain ⟨a9, b9, c9, hS9⟩ := hX9.out
  have f9 := hS9.q.r.fz
  have y9 := hS9.q.r.c
  have x9 := (hS9.q.r.set (.slice o1 A.length k1)).c
  have hS10 := hide' (hS9.setR (.slice o1 A.length k1))
  have hR10 := hide' (RowI.of_owns (own_set (g := w.heap.size + 1) (o := 0) hR9.out (by have := hz9.out; omega) (.slice o1 A.length k1)))
  clear hS9 hX9 KL2 hR9 hz9 hS8 hl7' p1 f7 y7
  go_wp2
  refine bodyPost_ret (v := .tuple #[.slice o1 A.length k1, .slice o2 B.length k2, .bool true]) (by simp [results, Tryz.results5, go_sem, x9]) rfl ?_
  unfold WhP
  exact ⟨o1, k1, o2, k2, A, B, true, rfl, RowI.of_owns hS10.out.row, hR10, hS10.out.q.y.be, hW⟩
end Go.Proofs.YtcancjbpcppecaaGreatDoor.S
namespace Go.Proofs.YtcancjbpcppecaaGreatDoor.S
open Go.RowKit Go.Shelf
set_option maxRecDepth 100000 in
set_option maxHeartbeats 2000000 in
theorem rMayF (P : Pb) (wv fv rv : Value) (t : Nat) (x : Int) (w : World) (h : PbV w P wv fv rv) (hP : chkN P = 0) (ht : t < P.who.length) (hw : ∀ z ∈ P.who, z < 18446744073709551616) :
    Calls Tryz.prog 86 #[pbV P wv fv rv, .int .i64 (t : Int), .int .i64 x] w fun e w' => e = .returned (.bool (okU P t x)) ∧ Below w.heap.size w w' := by
  obtain ⟨h12, hU0, hU, _, hfx, hwo, _⟩ := chkN_zero hP
  obtain ⟨hfl, hx⟩ := fixB_of hfx hU
  obtain ⟨ow, cw, rfl, _, hcw⟩ := h.who
  obtain ⟨of, cf, rfl, _, hcf⟩ := h.fixed
  obtain ⟨z, hz⟩ : ∃ z, P.who[t]? = some z := ⟨_, List.getElem?_eq_getElem ht⟩
  obtain ⟨y, hy⟩ : ∃ y, P.fixed[t]? = some y := ⟨_, List.getElem?_eq_getElem (by omega)⟩
  have hyu : y = -1 ∨ (0 ≤ y ∧ y < P.users) := by
    unfold fixB at hfx
    rw [Bool.and_eq_true, List.all_eq_true] at hfx
    have := hfx.1 y (List.mem_of_getElem? hy)
    unfold isU at this
    simp only [Bool.or_eq_true, Bool.and_eq_true, decide_eq_true_eq] at this
    exact this
  obtain ⟨g1, o1, rfl, c1⟩ := hcw t z hz
  obtain ⟨g2, o2, rfl, c2⟩ := hcf t y hy
  obtain ⟨or, cr, rfl⟩ : ∃ a b, rv = .slice a P.rules.length b := by obtain ⟨a, b, e, _⟩ := h.rules; exact ⟨a, b, e⟩
  have hzl := hw z (List.mem_of_getElem? hz)
  have hB : Hid (Below w.heap.size w (w.alloc (.cells #[.int .i64 P.users, .slice (some ⟨g1, o1, none⟩) P.who.length cw, .slice (some ⟨g2, o2, none⟩) P.fixed.length cf, .slice or P.rules.length cr] 26))) := (Below.refl _ w).alloc (Nat.le_refl _) _
  have d1 := M.cell_over c1 hB.out
  have d2 := M.cell_over c2 hB.out
  have hwI : (t : Int) < (P.who.length : Int) := by omega
  have hfI : (t : Int) < (P.fixed.length : Int) := by omega
  have ht0 : ¬ (t : Int) < 0 := by omega
  have hm : mayP P t = if y = -1 then z else 2 ^ y.toNat := by
    unfold mayP
    simp [List.getD_eq_getElem?_getD, hz, hy]
  unfold pbV
  clear h hx hcw hcf hz hy hw hfl hfx hwo hP
  by_cases he : y = -1
  · subst he
    rw [if_pos rfl] at hm
    by_cases h0 : 0 ≤ x
    · by_cases h1 : x < P.users
      · obtain ⟨u, rfl⟩ : ∃ u : Nat, x = (u : Int) := ⟨x.toNat, by omega⟩
        have hu64 : u < 64 := by omega
        have hans : Hid (okU P t (u : Int) = z.testBit u) := by
          show _ = _
          unfold okU isU
          rw [hm, decide_eq_true h0, decide_eq_true h1, Int.toNat_natCast]; rfl
        rw [hans.out]
        cases hb : z.testBit u with
        | true =>
          have hsh := M.shr_bitT hzl hb
          clear hm hyu hans
          go_enter Tryz.func86, Tryz.ntmps86
          go_wp2
          go_ret
          exact ⟨ret_bool (by simp), hB.out⟩
        | false =>
          have hsh := M.shr_bitF hzl hb
          clear hm hyu hans
          go_enter Tryz.func86, Tryz.ntmps86
          go_wp2
          go_ret
          exact ⟨ret_bool (by simp), hB.out⟩
      · have hans : Hid (okU P t x = false) := by show _ = _; unfold okU isU; rw [decide_eq_false h1]; simp
        rw [hans.out]
        clear hm hyu hans
        go_enter Tryz.func86, Tryz.ntmps86
        go_wp2
        go_ret
        exact ⟨rfl, hB.out⟩
    · have hans : Hid (okU P t x = false) := by show _ = _; unfold okU isU; rw [decide_eq_false h0]; simp
      rw [hans.out]
      clear hm hyu hans
      go_enter Tryz.func86, Tryz.ntmps86
      go_wp2
      go_ret
      exact ⟨rfl, hB.out⟩
  · obtain ⟨yn, rfl⟩ : ∃ u : Nat, y = (u : Int) := ⟨_, (Int.toNat_of_nonneg (by omega)).symm⟩
    have hye : (0 : Int) ≤ (yn : Int) := by omega
    have hyd : decide ((0 : Int) ≤ (yn : Int)) = true := decide_eq_true hye
    rw [if_neg he] at hm
    have hans : Hid (okU P t x = (x == (yn : Int))) := by
      show _ = _
      unfold okU isU
      rw [hm, Int.toNat_natCast, Nat.testBit_two_pow, Bool.eq_iff_iff]
      simp only [Bool.and_eq_true, decide_eq_true_eq, beq_iff_eq]
      omega
    rw [hans.out]
    clear hm hyu hans he
    go_enter Tryz.func86, Tryz.ntmps86
    go_wp2
    go_ret
    exact ⟨rfl, hB.out⟩
end Go.Proofs.YtcancjbpcppecaaGreatDoor.S
namespace Go.Proofs.YtcancjbpcppecaaGreatDoor.S
open Go.RowKit Go.Shelf
def outN (n : Nat) (x : Int) : Bool := decide (x < 0) || decide ((n : Int) ≤ x)
end Go.Proofs.YtcancjbpcppecaaGreatDoor.S
namespace Go.Proofs.YtcancjbpcppecaaGreatDoor.S
open Go.RowKit Go.Shelf
/-- A choice by numbers. -/
def inC (R : List Int) : Nat → Bool := fun i => decide ((i : Int) ∈ R)
/-- The error's number, the problem. -/
def wtN (P : Pb) (R S : List Int) : Nat := if chkN P = 0 then (if (R.any (outN P.rules.length) || S.any (outN P.who.length)) = true then 1 else 0) else chkN P
def wtP (P : Pb) (R S : List Int) : Pb := if wtN P R S = 0 then spP P (inC R) (inC S) else ⟨0, [], [], []⟩
def WtP (w : World) (X : Pb) (N : Nat) (e : Ending) (w' : World) : Prop :=
  ∃ o1 n1 c1 o2 n2 c2 o3 n3 c3, e = .returned (.tuple #[.agg #[.int .i64 X.users, .slice o1 n1 c1, .slice o2 n2 c2, .slice o3 n3 c3], .int .i64 (N : Int)]) ∧ Hid (PbV w' X (.slice o1 n1 c1) (.slice o2 n2 c2) (.slice o3 n3 c3)) ∧ Hid (Below w.heap.size w w') ∧ Hid (∀ ad n c, Value.slice o1 n1 c1 = .slice (some ad) n c → w.heap.size ≤ ad.block) ∧ Hid (∀ W2 : World, (∀ k, w.heap.size ≤ k → k < w'.heap.size → W2.heap[k]? = w'.heap[k]?) → PbV W2 X (.slice o1 n1 c1) (.slice o2 n2 c2) (.slice o3 n3 c3))
theorem nil_pvC (W : World) : PbV W ⟨0, [], [], []⟩ (.slice none 0 0) (.slice none 0 0) (.slice none 0 0) :=
  ⟨⟨none, 0, rfl, ⟨Nat.le_refl _, fun _ => rfl⟩, fun i z hz => by cases hz⟩, ⟨none, 0, rfl, ⟨Nat.le_refl _, fun _ => rfl⟩, fun i z hz => by cases hz⟩, ⟨none, 0, rfl, ⟨Nat.le_refl _, fun _ => rfl⟩, fun i z hz => by cases hz⟩⟩
theorem Fp.resC {w : World} {P : Pb} {wv fv rv : Value} {V : World} {va vb : Value} {L1 : List Nat} {L2 : List Int} (h : Fp w P wv fv rv V va vb L1 L2) (x0 x1 x2 x3 : Value) : Below w.heap.size w ((((V.setCell ⟨w.heap.size + 1, 0, none⟩ x0).setCell ⟨w.heap.size + 1, 1, none⟩ x1).setCell ⟨w.heap.size + 1, 2, none⟩ x2).setCell ⟨w.heap.size + 1, 3, none⟩ x3) :=
  h.be.trans (((((Below.refl _ V).setCell (p := ⟨w.heap.size + 1, 0, none⟩) (Nat.le_succ _) x0).setCell (p := ⟨w.heap.size + 1, 1, none⟩) (Nat.le_succ _) x1).setCell (p := ⟨w.heap.size + 1, 2, none⟩) (Nat.le_succ _) x2).setCell (p := ⟨w.heap.size + 1, 3, none⟩) (Nat.le_succ _) x3)
structure WtE (P : Pb) (R S : List Int) (e : Nat) : Prop where
  n : wtN P R S = e
  p : wtP P R S = ⟨0, [], [], []⟩
structure WtY (P : Pb) (R S : List Int) (X : Pb) : Prop where
  n : wtN P R S = 0
  p : wtP P R S = X
theorem WtE.mk' {P : Pb} {R S : List Int} {e : Nat} (h : wtN P R S = e) (he : e ≠ 0) : WtE P R S e := ⟨h, by unfold wtP; rw [if_neg (by rw [h]; exact he)]⟩
/-- What is held while the rows are chosen: all rows of the answer lie above. -/
structure Wx (w : World) (P : Pb) (wv fv rv vr vs : Value) (R S : List Int) (V : World) : Prop where
  p : Fp w P wv fv rv V (.slice none 0 0) (.slice none 0 0) [] []
  r : RowI V vr R
  s : RowI V vs S
theorem Wx.over {w : World} {P : Pb} {wv fv rv vr vs : Value} {R S : List Int} {V V' : World} (h : Wx w P wv fv rv vr vs R S V) (hb : Below V.heap.size V V') : Wx w P wv fv rv vr vs R S V' := ⟨h.p.over hb, h.r.below hb (Nat.le_refl _), h.s.below hb (Nat.le_refl _)⟩
end Go.Proofs.YtcancjbpcppecaaGreatDoor.S
namespace Go.Proofs.YtcancjbpcppecaaGreatDoor.S
theorem grd_ltW (F : (Nat → Bool) → Bool) : ∀ (d : Nat) (K : List Nat) (f : Nat), (∀ k ∈ K, k < f) → ∀ k ∈ grd F K f d, k < f + d
  | 0, K, f, h => h
  | d + 1, K, f, h => by
    intro k hk
    have := grd_ltW F d _ (f + 1) (fun k hk => by
      split at hk
      · have := h k hk; omega
      · rcases List.mem_append.1 hk with h1 | h1
        · have := h k h1; omega
        · rw [List.mem_singleton] at h1; omega) k hk
    omega
theorem grd_nextW (F : (Nat → Bool) → Bool) (i : Nat) : grd F [] 0 (i + 1) = if F (sprd (grd F [] 0 i) (i + 1)) = true then grd F [] 0 i else grd F [] 0 i ++ [i] := by
  rw [grd_add F i 1]
  show (if F (sprd (grd F [] 0 i) (0 + i + 1)) = true then grd F [] 0 i else grd F [] 0 i ++ [0 + i]) = _
  rw [Nat.zero_add]
theorem grd_lenW (F : (Nat → Bool) → Bool) : ∀ i, (grd F [] 0 i).length ≤ i
  | 0 => Nat.le_refl _
  | i + 1 => by
    have := grd_lenW F i
    rw [grd_nextW]
    split
    · omega
    · rw [List.length_append, List.length_singleton]; omega
theorem rsL_more {i : Nat} {K : List Nat} (h : ∀ k ∈ K, k < i) : rsL (i + 1) K = rsL i K ++ [i] := by
  rw [rsL_succ, if_pos]
  unfold ntC
  simp
  intro hc
  have := h i hc
  omega
theorem rsL_same {i : Nat} {K : List Nat} (_h : ∀ k ∈ K, k < i) : rsL (i + 1) (K ++ [i]) = rsL i K := by
  rw [rsL_succ, if_neg (by unfold ntC; simp), List.append_nil]
  unfold rsL
  refine List.filter_congr fun j hj => ?_
  have := List.mem_range.1 hj
  unfold ntC
  have e : (K ++ [i]).contains j = K.contains j := by
    rw [Bool.eq_iff_iff]
    simp
    intro e; omega
  rw [e]
theorem in_ints (L : List Nat) (j : Nat) : inC (ints L) j = decide (j ∈ L) := by
  unfold inC ints
  rw [decide_eq_decide, List.mem_map]
  constructor
  · rintro ⟨x, hx, e⟩
    have : x = j := by omega
    rw [← this]; exact hx
  · intro h; exact ⟨j, h, rfl⟩
theorem out_ints {L : List Nat} {n : Nat} (h : ∀ x ∈ L, x < n) : (ints L).any (outN n) = false := by
  rw [List.any_eq_false]
  intro x hx
  obtain ⟨y, hy, rfl⟩ := List.mem_map.1 hx
  have := h y hy
  unfold outN
  simp
  omega
/-- The problem without these, told as sparing. -/
theorem stk_in {P : Pb} (hP : chkN P = 0) {RA RB : List Nat} {fr fs : Nat → Bool} (h1 : ∀ x ∈ RA, x < P.rules.length) (h2 : ∀ x ∈ RB, x < P.who.length) (h3 : ∀ j, j < P.rules.length → decide (j ∈ RA) = fr j) (h4 : ∀ j, j < P.who.length → decide (j ∈ RB) = fs j) : wtN P (ints RA) (ints RB) = 0 ∧ wtP P (ints RA) (ints RB) = spP P (inC (ints RA)) (inC (ints RB)) ∧ canB (wtP P (ints RA) (ints RB)) = !stk P fr fs := by
  have e : wtN P (ints RA) (ints RB) = 0 := by
    unfold wtN
    rw [if_pos hP, out_ints h1, out_ints h2]
    rfl
  have e2 : wtP P (ints RA) (ints RB) = spP P (inC (ints RA)) (inC (ints RB)) := by unfold wtP; rw [if_pos e]
  refine ⟨e, e2, ?_⟩
  rw [e2, ← stk_congr hP (fr := inC (ints RA)) (fs := inC (ints RB)) (fun j hj => by rw [in_ints]; exact h3 j hj) (fun j hj => by rw [in_ints]; exact h4 j hj)]
  unfold stk
  rw [Bool.not_not]
theorem mem_more {i : Nat} {K : List Nat} (h : ∀ k ∈ K, k < i) (j : Nat) : decide (j ∈ rsL i K ++ [i]) = sprd K (i + 1) j := by
  unfold sprd
  rw [Bool.eq_iff_iff, decide_eq_true_eq, List.mem_append, mem_rsL, List.mem_singleton, Bool.and_eq_true, decide_eq_true_eq]
  unfold ntC
  constructor
  · rintro (⟨h1, h2⟩ | rfl)
    · exact ⟨by omega, h2⟩
    · refine ⟨by omega, ?_⟩
      simp
      intro hc
      have := h j hc
      omega
  · rintro ⟨h1, h2⟩
    by_cases e : j = i
    · exact .inr e
    · exact .inl ⟨by omega, h2⟩
theorem rs_lt {n i : Nat} {K : List Nat} (hi : i < n) : ∀ x ∈ rsL i K ++ [i], x < n := fun x hx => by
  rcases List.mem_append.1 hx with h | h
  · have := (mem_rsL.1 h).1; omega
  · rw [List.mem_singleton] at h; omega
theorem why_one {P : Pb} (hP : chkN P = 0) {i : Nat} (hi : i < P.rules.length) {K : List Nat} (hK : ∀ k ∈ K, k < i) : wtN P (ints (rsL i K ++ [i])) (ints []) = 0 ∧ wtP P (ints (rsL i K ++ [i])) (ints []) = spP P (inC (ints (rsL i K ++ [i]))) (inC (ints [])) ∧ canB (wtP P (ints (rsL i K ++ [i])) (ints [])) = !stF1 P (sprd K (i + 1)) :=
  stk_in hP (rs_lt hi) (fun x hx => by cases hx) (fun j _ => mem_more hK j) (fun j _ => by simp)
theorem why_two {P : Pb} (hP : chkN P = 0) {i : Nat} (hi : i < P.who.length) {A K : List Nat} (hK : ∀ k ∈ K, k < i) : wtN P (ints (rsL P.rules.length A)) (ints (rsL i K ++ [i])) = 0 ∧ wtP P (ints (rsL P.rules.length A)) (ints (rsL i K ++ [i])) = spP P (inC (ints (rsL P.rules.length A))) (inC (ints (rsL i K ++ [i]))) ∧ canB (wtP P (ints (rsL P.rules.length A)) (ints (rsL i K ++ [i]))) = !stF2 P A (sprd K (i + 1)) :=
  stk_in hP (fun x hx => (mem_rsL.1 hx).1) (rs_lt hi) (fun j hj => by
    rw [Bool.eq_iff_iff, decide_eq_true_eq, mem_rsL]
    exact ⟨fun h => h.2, fun h => ⟨hj, h⟩⟩) (fun j _ => mem_more hK j)
/-- What a problem without these is. -/
structure WyS (P : Pb) (RA RB : List Nat) (z : Bool) : Prop where
  ok : Pok (wtP P (ints RA) (ints RB))
  can : canB (wtP P (ints RA) (ints RB)) = z
theorem wyS1 {P : Pb} (hP : chkN P = 0) (hk : Pok P) {i : Nat} (hi : i < P.rules.length) : WyS P (rsL i (grd (stF1 P) [] 0 i) ++ [i]) [] (!stF1 P (sprd (grd (stF1 P) [] 0 i) (i + 1))) := by
  obtain ⟨_, e2, e3⟩ := why_one hP hi (K := grd (stF1 P) [] 0 i) (fun k hk => by have := grd_ltW (stF1 P) i [] 0 (fun k hk => by cases hk) k hk; omega)
  exact ⟨by rw [e2]; exact spP_ok hk (chkN_zero hP).2.2.1 _ _, e3⟩
theorem wyS2 {P : Pb} (hP : chkN P = 0) (hk : Pok P) {i : Nat} (hi : i < P.who.length) : WyS P (rsL P.rules.length (whyA P)) (rsL i (grd (stF2 P (whyA P)) [] 0 i) ++ [i]) (!stF2 P (whyA P) (sprd (grd (stF2 P (whyA P)) [] 0 i) (i + 1))) := by
  obtain ⟨_, e2, e3⟩ := why_two hP hi (A := whyA P) (K := grd (stF2 P (whyA P)) [] 0 i) (fun k hk => by have := grd_ltW (stF2 P (whyA P)) i [] 0 (fun k hk => by cases hk) k hk; omega)
  exact ⟨by rw [e2]; exact spP_ok hk (chkN_zero hP).2.2.1 _ _, e3⟩
/-- A step of those that are tried one after the other. -/
structure GdS (Kf : Nat → List Nat) (Z : Nat → Bool) (i : Nat) : Prop where
  no : Z i = true → Kf (i + 1) = Kf i ∧ rsL (i + 1) (Kf (i + 1)) = rsL i (Kf i) ++ [i]
  yes : Z i = false → Kf (i + 1) = Kf i ++ [i] ∧ rsL (i + 1) (Kf (i + 1)) = rsL i (Kf i)
theorem gdS (F : (Nat → Bool) → Bool) (i : Nat) : GdS (grd F [] 0) (fun i => F (sprd (grd F [] 0 i) (i + 1))) i := by
  have hlt : ∀ k ∈ grd F [] 0 i, k < i := fun k hk => by have := grd_ltW F i [] 0 (fun k hk => by cases hk) k hk; omega
  refine ⟨fun h => ?_, fun h => ?_⟩
  · have e : grd F [] 0 (i + 1) = grd F [] 0 i := by rw [grd_nextW, if_pos h]
    exact ⟨e, by rw [e]; exact rsL_more hlt⟩
  · have h' : F (sprd (grd F [] 0 i) (i + 1)) = false := h
    have e : grd F [] 0 (i + 1) = grd F [] 0 i ++ [i] := by rw [grd_nextW, if_neg (by rw [h']; decide)]
    exact ⟨e, by rw [e]; exact rsL_same hlt⟩
end Go.Proofs.YtcancjbpcppecaaGreatDoor.S
namespace Go.Proofs.YtcancjbpcppecaaGreatDoor.S
open Go.RowKit Go.Shelf
/-- All of a row of ints, onto nil. -/
theorem all_intsS {ops : Array Oper} {rest : List Oper} {o : Oper} {a : Act} {Q : Exit → Act → World → Prop} (hgd : o.guard = none) (s x : Operand) (W : World) (v : Value) (l : List Int) (ho : o.op = .call { callee := .builtin .append, args := #[s, x], argTypes := #[23, 23] })
    (es : a.eval s = .slice none 0 0) (ex : a.eval x = v) (hr : RowI W v l) (hn : l.length ≤ 1000)
    (hK : ∀ o2 n2 c2 w2, Hid (w2.ownsRow W.heap.size 3 1 (.slice o2 n2 c2) l.length (cellsI l)) → Hid (Below W.heap.size W w2) → wpList Tryz.prog ops Q rest (a.put o.dst (.slice o2 n2 c2)) w2) : wpList Tryz.prog ops Q (o :: rest) a W := by
  obtain ⟨i0, hi, hz0, hz1, hz2⟩ := info_parts info3
  obtain ⟨oa, cap, rfl, hcap, hc⟩ := hr
  cases oa with
  | none =>
    have h2 := hcap.2 rfl
    subst h2
    have : l = [] := List.eq_nil_of_length_eq_zero (by omega)
    subst this
    exact wpList_append_own_none hgd s x 23 ho W.heap.size 3 i0 1 Tryz.underlying23 hi _ 0 (cellsI []) es (World.ownsRow_nil _ _ _ _) ex (hK _ _ _ _ (World.ownsRow_nil _ _ _ _) (Below.refl _ _))
  | some ad =>
    refine wpList_append_own _ hgd s x 23 ho W.heap.size 3 i0 (.int .i64 0) 1 8 Tryz.underlying23 hi hz0 hz1 hz2 rfl (by decide) _ 0 (cellsI []) es (World.ownsRow_nil _ _ _ _) ad l.length cap (cellsI l) ex (by simp [cellsI]) (fun j u hu => ?_) (one_cells l) (by unfold maxLen; omega) (by omega) (Nat.le_refl _) ?_
    · obtain ⟨z, hz, rfl⟩ := cellsI_at hu
      obtain ⟨g', o'', e, hcz⟩ := hc j z hz
      cases e
      rw [Addr.add_lit]; exact hcz
    · intro v2 w2 hown hg _
      obtain ⟨o2, c2, rfl⟩ := own_shp hown
      refine hK _ _ _ _ ?_ ((Below.refl _ W).grown hg (Nat.le_refl _) (fun j e => by cases e))
      show World.ownsRow _ _ _ _ _ _ _
      have := hown
      rw [Nat.zero_add] at this
      simpa [cellsI] using this
end Go.Proofs.YtcancjbpcppecaaGreatDoor.S
namespace Go.Proofs.YtcancjbpcppecaaGreatDoor.S
open Go.RowKit Go.Shelf
def wcR : Rl := ⟨1, 0, [0, 1]⟩
def wcP : Pb := ⟨2, [1, 1], [-1, -1], [wcR]⟩
theorem wc_chk : chkN wcP = 0 := by decide +kernel
theorem wc_ok : Pok wcP := ⟨by decide, by decide, by decide, by decide, by decide⟩
theorem wc_user {t : Nat} {x : Int} (h : okU wcP t x = true) : x = 0 ∨ x = 1 := by
  unfold okU isU at h
  simp only [Bool.and_eq_true, decide_eq_true_eq] at h
  have h1 : x < 2 := h.1.2
  omega
theorem wc_can : canB wcP = false := by
  cases q : canB wcP with
  | false => rfl
  | true =>
    obtain ⟨l, hl⟩ := (canB_iff _).1 q
    exfalso
    obtain ⟨_, h2, h3, _⟩ := holP_of hl
    have h2 : l.length = 2 := h2
    match l, h2, hl, h3 with
    | [a, b], _, hl, h3 =>
      rcases wc_user (h3 0 a rfl) with rfl | rfl <;> rcases wc_user (h3 1 b rfl) with rfl | rfl <;> (revert hl; decide +kernel)
theorem wc_no {fr fs : Nat → Bool} (L : List Int) (h : holP (spP wcP fr fs) L = true) : stk wcP fr fs = false := by
  unfold stk
  rw [(canB_iff _).2 ⟨L, h⟩]
  rfl
theorem wc_a : whyA wcP = [0] := by
  have h : stF1 wcP (sprd [] (0 + 1)) = false := wc_no [0, 0] (by decide +kernel)
  show (if stF1 wcP (sprd [] (0 + 1)) = true then [] else [] ++ [0]) = [0]
  rw [if_neg (by rw [h]; decide)]
  rfl
theorem wc_b : whyB wcP = [0, 1] := by
  unfold whyB
  rw [wc_a]
  have h1 : stF2 wcP [0] (sprd [] (0 + 1)) = false := wc_no [1, 0] (by decide +kernel)
  have h2 : stF2 wcP [0] (sprd [0] (0 + 1 + 1)) = false := wc_no [0, 1] (by decide +kernel)
  show (if stF2 wcP [0] (sprd (if stF2 wcP [0] (sprd [] (0 + 1)) = true then [] else [] ++ [0]) (0 + 1 + 1)) = true then (if stF2 wcP [0] (sprd [] (0 + 1)) = true then [] else [] ++ [0]) else (if stF2 wcP [0] (sprd [] (0 + 1)) = true then [] else [] ++ [0]) ++ [0 + 1]) = [0, 1]
  rw [h1]
  simp only [Bool.false_eq_true, if_false, List.nil_append]
  rw [h2]
  rfl
/-- The problem of the runs, as it is written down. -/
theorem wc_mem (V : World) : ∃ W, W = ((((V.alloc (.cells #[.int .u64 1, .int .u64 1] 33)).alloc (.cells #[.int .i64 (-1), .int .i64 (-1)] 3)).alloc (.cells #[.int .i64 0, .int .i64 1] 3)).alloc (.cells #[.int .i64 1, .int .i64 0, .slice (some ⟨V.heap.size + 1 + 1, 0, none⟩) 2 2] 35)).alloc (.cells #[.int .i64 2, .slice (some ⟨V.heap.size, 0, none⟩) 2 2, .slice (some ⟨V.heap.size + 1, 0, none⟩) 2 2, .slice (some ⟨V.heap.size + 1 + 1 + 1, 0, none⟩) 1 1] 26) ∧
    PbV W wcP (.slice (some ⟨V.heap.size, 0, none⟩) 2 2) (.slice (some ⟨V.heap.size + 1, 0, none⟩) 2 2) (.slice (some ⟨V.heap.size + 1 + 1 + 1, 0, none⟩) 1 1) ∧ PbB W (V.heap.size + 1 + 1 + 1 + 1) wcP (.slice (some ⟨V.heap.size, 0, none⟩) 2 2) (.slice (some ⟨V.heap.size + 1, 0, none⟩) 2 2) (.slice (some ⟨V.heap.size + 1 + 1 + 1, 0, none⟩) 1 1) ∧ Below V.heap.size V W := by
  obtain ⟨z1, n1, k1, b1⟩ := alloc_stH V (.cells #[.int .u64 1, .int .u64 1] 33) _ rfl
  obtain ⟨z2, n2, k2, b2⟩ := alloc_stH _ (.cells #[.int .i64 (-1), .int .i64 (-1)] 3) _ z1
  obtain ⟨z3, n3, k3, b3⟩ := alloc_stH _ (.cells #[.int .i64 0, .int .i64 1] 3) _ z2
  obtain ⟨z4, n4, k4, b4⟩ := alloc_stH _ (.cells #[.int .i64 1, .int .i64 0, .slice (some ⟨V.heap.size + 1 + 1, 0, none⟩) 2 2] 35) _ z3
  obtain ⟨z5, n5, k5, b5⟩ := alloc_stH _ (.cells #[.int .i64 2, .slice (some ⟨V.heap.size, 0, none⟩) 2 2, .slice (some ⟨V.heap.size + 1, 0, none⟩) 2 2, .slice (some ⟨V.heap.size + 1 + 1 + 1, 0, none⟩) 1 1] 26) _ z4
  refine ⟨_, rfl, ?_, n5, (((b1.trans (b2.mono (by omega))).trans (b3.mono (by omega))).trans (b4.mono (by omega))).trans (b5.mono (by omega))⟩
  have m1 := k5 _ _ (k4 _ _ (k3 _ _ (k2 _ _ n1)))
  have m2 := k5 _ _ (k4 _ _ (k3 _ _ n2))
  have m3 := k5 _ _ (k4 _ _ n3)
  have m4 := k5 _ _ n4
  generalize ((((V.alloc (.cells #[.int .u64 1, .int .u64 1] 33)).alloc (.cells #[.int .i64 (-1), .int .i64 (-1)] 3)).alloc (.cells #[.int .i64 0, .int .i64 1] 3)).alloc (.cells #[.int .i64 1, .int .i64 0, .slice (some ⟨V.heap.size + 1 + 1, 0, none⟩) 2 2] 35)).alloc (.cells #[.int .i64 2, .slice (some ⟨V.heap.size, 0, none⟩) 2 2, .slice (some ⟨V.heap.size + 1, 0, none⟩) 2 2, .slice (some ⟨V.heap.size + 1 + 1 + 1, 0, none⟩) 1 1] 26) = W at *
  refine ⟨⟨_, _, rfl, ⟨Nat.le_refl _, fun e => by cases e⟩, fun i z hz => ⟨_, _, rfl, ?_⟩⟩, ⟨_, _, rfl, ⟨Nat.le_refl _, fun e => by cases e⟩, fun i z hz => ⟨_, _, rfl, ?_⟩⟩, ⟨_, _, rfl, ⟨Nat.le_refl _, fun e => by cases e⟩, fun i r hr => ?_⟩⟩
  · match i, hz with
    | 0, hz => cases hz; simp [World.cell?, m1]
    | 1, hz => cases hz; simp [World.cell?, m1]
    | i + 2, hz => simp [wcP] at hz
  · match i, hz with
    | 0, hz => cases hz; simp [World.cell?, m2]
    | 1, hz => cases hz; simp [World.cell?, m2]
    | i + 2, hz => simp [wcP] at hz
  · match i, hr with
    | 0, hr =>
      cases hr
      refine ⟨_, _, .slice (some ⟨V.heap.size + 1 + 1, 0, none⟩) 2 2, rfl, by simp [World.cell?, m4, wcR], by simp [World.cell?, m4, wcR], by simp [World.cell?, m4], ⟨_, _, rfl, ⟨Nat.le_refl _, fun e => by cases e⟩, fun j z hz => ⟨_, _, rfl, ?_⟩⟩⟩
      match j, hz with
      | 0, hz => cases hz; simp [World.cell?, m3]
      | 1, hz => cases hz; simp [World.cell?, m3]
      | j + 2, hz => simp [wcR] at hz
    | i + 1, hr => simp [wcP] at hr
theorem row_1C (V : World) : RowI (V.alloc (.cells #[.int .i64 0] 3)) (.slice (some ⟨V.heap.size, 0, none⟩) 1 1) [0] := by
  have n3 := heap_new V (.cells #[.int .i64 0] 3)
  generalize V.alloc (.cells #[.int .i64 0] 3) = W at *
  refine ⟨_, _, rfl, ⟨Nat.le_refl _, fun e => by cases e⟩, fun i z hz => ⟨_, _, rfl, ?_⟩⟩
  match i, hz with
  | 0, hz => cases hz; simp [World.cell?, n3]
  | i + 1, hz => simp at hz
theorem row_2C (V : World) : RowI (V.alloc (.cells #[.int .i64 0, .int .i64 1] 3)) (.slice (some ⟨V.heap.size, 0, none⟩) 2 2) [0, 1] := by
  have n3 := heap_new V (.cells #[.int .i64 0, .int .i64 1] 3)
  generalize V.alloc (.cells #[.int .i64 0, .int .i64 1] 3) = W at *
  refine ⟨_, _, rfl, ⟨Nat.le_refl _, fun e => by cases e⟩, fun i z hz => ⟨_, _, rfl, ?_⟩⟩
  match i, hz with
  | 0, hz => cases hz; simp [World.cell?, n3]
  | 1, hz => cases hz; simp [World.cell?, n3]
  | i + 2, hz => simp at hz
set_option maxRecDepth 100000 in
set_option maxHeartbeats 4000000 in
theorem wakesCF (w : World) (ht : M.Tab w) : Calls Tryz.prog 8 #[] w fun e w' => e = .returned (.bool true) ∧ Below w.heap.size w w' := by
  obtain ⟨W, hW, hP, hB, hbW⟩ := wc_mem w
  have hW' := hide' hW
  have KW := hide' (whyF wcP _ _ _ W hP wc_ok (ht.over hbW) (fun ad n c e => by cases e; show w.heap.size < W.heap.size; have := (Array.getElem?_eq_some_iff.1 hB).1; omega))
  unfold pbV WhP at KW
  have q0 := hB.c0
  have q1 := hB.c1
  have q2 := hB.c2
  have q3 := hB.c3
  have hbW' := hide' hbW
  clear hP hB hbW hW ht
  have hU : wcP.users = 2 := rfl
  rw [hU] at q0 KW
  have KI : Hid (∀ V a b c, RowI V a b → RowI V c b → b.length ≤ 10 → Calls Tryz.prog 7 #[a, c] V fun e w' => e = .returned (.bool true) ∧ Below V.heap.size V w') := fun V a b c h1 h2 hl => by
    have := K.keepInts b b a c V h1 h2 (by omega) (by omega)
    rw [decide_eq_true rfl] at this
    exact this
  go_enter Tryz.func8, Tryz.ntmps8
  go_upto_region 2 with fail
  rw [← hW'.out]
  clear hW'
  go_wp2_with fail
  refine KW.out.mono ?_
  rintro e w1 ⟨o1, k1, o2, k2, A, B, s, rfl, hA, hBr, hb1, hS⟩
  obtain ⟨rfl, rfl, rfl⟩ := hS.out.y wc_chk wc_can
  have hb01 := hide' (hbW'.out.trans (hb1.out.mono hbW'.out.size))
  rw [wc_a, wc_b] at *
  clear hS KW q0 q1 q2 q3 hb1 hbW'
  have r1 := hide' (row_1C w1)
  have bA : Hid (Below w1.heap.size w1 (w1.alloc (.cells #[.int .i64 0] 3))) := (Below.refl _ w1).alloc (Nat.le_refl _) _
  go_wp2_with fail
  refine (KI.out _ _ [0] _ (hA.out.below bA.out (Nat.le_refl _)) r1.out (by decide)).mono ?_
  rintro e w2 ⟨rfl, hb2⟩
  have r2 := hide' (row_2C w2)
  have bB : Hid (Below w1.heap.size w1 w2) := bA.out.trans (hb2.mono bA.out.size)
  have bC : Hid (Below w2.heap.size w2 (w2.alloc (.cells #[.int .i64 0, .int .i64 1] 3))) := (Below.refl _ w2).alloc (Nat.le_refl _) _
  have hb02 := hide' (hb01.out.trans (bB.out.mono hb01.out.size))
  have hB2 := hide' (hBr.out.below (bB.out.trans (bC.out.mono bB.out.size)) (Nat.le_refl _))
  clear r1 bA hb2 hA hBr
  go_wp2_with fail
  refine (KI.out _ _ [0, 1] _ hB2.out r2.out (by decide)).mono ?_
  rintro e w3 ⟨rfl, hb3⟩
  have hb03 := hide' ((hb02.out.trans (bC.out.mono hb02.out.size)).trans (hb3.mono (Nat.le_trans hb02.out.size bC.out.size)))
  clear r2 bC hb3 hB2
  go_wp2
  go_ret
  exact ⟨rfl, hb03.out⟩
end Go.Proofs.YtcancjbpcppecaaGreatDoor.S
