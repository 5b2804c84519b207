/- The law of core: row. -/
import Derived.Test.YtlijlelejobchaaGreatDoorJ15
import Derived.Test.YtlijlelejobchaaGreatDoorJ22
import Derived.Test.YtlijlelejobchaaGreatDoorJ24
import Derived.Test.YtlijlelejobchaaGreatDoorJ31
import Derived.Test.YtlijlelejobchaaGreatDoorJ32
namespace Go.Proofs.YtlijlelejobchaaGreatDoor.S
open Go.RowKit Go.Shelf
theorem QAt.s0C {W : World} {g : Nat} {u : Int} {a b c : Value} (h : QAt W g u a b c) (x : Int) : QAt (W.setCell ⟨g, 0, none⟩ (.int .i64 x)) g x a b c :=
  World.rowIs.congr (World.rowIs.set h 0 _) fun i hi => by
    match i, hi with
    | 0, _ => rfl
    | 1, _ => rfl
    | 2, _ => rfl
    | 3, _ => rfl
structure Fp (w : World) (P : Pb) (wv fv rv : Value) (V : World) (va vb : Value) (L1 : List Nat) (L2 : List Int) : Prop where
  pb : PbB V w.heap.size P wv fv rv
  z : QAt V (w.heap.size + 1) 0 (.slice none 0 0) (.slice none 0 0) (.slice none 0 0)
  r1 : V.ownsRow (w.heap.size + 2) 55 1 va L1.length (cellsW L1)
  r2 : V.ownsRow (w.heap.size + 2) 3 1 vb L2.length (cellsI L2)
  pv : PbV V P wv fv rv
  be : Below w.heap.size w V
structure Fb (w : World) (P : Pb) (wv fv rv : Value) (gq : Nat) (V : World) (va vb : Value) (L1 : List Nat) (L2 : List Int) : Prop where
  p : Fp w P wv fv rv V va vb L1 L2
  qb : QAt V gq 0 (.slice none 0 0) (.slice none 0 0) (.slice none 0 0)
  ge : w.heap.size + 2 ≤ gq
section
variable {w : World} {P : Pb} {wv fv rv : Value} {gq : Nat} {V V' : World} {va vb va' vb' : Value} {L1 : List Nat} {L2 : List Int}
theorem Fp.sz (h : Fp w P wv fv rv V va vb L1 L2) : w.heap.size + 2 ≤ V.heap.size := h.z.lt
theorem Fp.cells (h : Fp w P wv fv rv V va vb L1 L2) : V.cell? ⟨w.heap.size, 0, none⟩ = some (.int .i64 P.users) ∧ V.cell? ⟨w.heap.size, 1, none⟩ = some wv ∧ V.cell? ⟨w.heap.size, 2, none⟩ = some fv := ⟨h.pb.c0, h.pb.c1, h.pb.c2⟩
theorem Fp.over (h : Fp w P wv fv rv V va vb L1 L2) (hb : Below V.heap.size V V') : Fp w P wv fv rv V' va vb L1 L2 :=
  ⟨h.pb.below hb, h.z.of (hb.block _ h.z.lt), own_below h.r1 hb (Nat.le_refl _), own_below h.r2 hb (Nat.le_refl _), h.pv.below hb, h.be.trans (hb.mono h.be.size)⟩
theorem Fp.who (h : Fp w P wv fv rv V va vb L1 L2) (hb : Below V.heap.size V V') {L : List Nat} (ho : V'.ownsRow V.heap.size 55 1 va' L.length (cellsW L)) : Fp w P wv fv rv V' va' vb L L2 := by
  have k := h.over hb
  exact ⟨k.pb, k.z, own_down ho h.sz, k.r2, k.pv, k.be⟩
theorem Fp.fix (h : Fp w P wv fv rv V va vb L1 L2) (hb : Below V.heap.size V V') {L : List Int} (ho : V'.ownsRow V.heap.size 3 1 vb' L.length (cellsI L)) : Fp w P wv fv rv V' va vb' L1 L := by
  have k := h.over hb
  exact ⟨k.pb, k.z, k.r1, own_down ho h.sz, k.pv, k.be⟩
theorem Fp.box (h : Fp w P wv fv rv V va vb L1 L2) : Fb w P wv fv rv V.heap.size (V.alloc (.cells #[.int .i64 0, .slice none 0 0, .slice none 0 0, .slice none 0 0] 26)) va vb L1 L2 :=
  ⟨h.over ((Below.refl _ V).alloc (Nat.le_refl _) _), QAt.block (heap_new V _), h.sz⟩
theorem Fb.over (h : Fb w P wv fv rv gq V va vb L1 L2) (hb : Below V.heap.size V V') : Fb w P wv fv rv gq V' va vb L1 L2 := ⟨h.p.over hb, h.qb.of (hb.block _ h.qb.lt), h.ge⟩
theorem Fb.who (h : Fb w P wv fv rv gq V va vb L1 L2) (hb : Below V.heap.size V V') {L : List Nat} (ho : V'.ownsRow V.heap.size 55 1 va' L.length (cellsW L)) : Fb w P wv fv rv gq V' va' vb L L2 := ⟨h.p.who hb ho, h.qb.of (hb.block _ h.qb.lt), h.ge⟩
theorem Fb.fix (h : Fb w P wv fv rv gq V va vb L1 L2) (hb : Below V.heap.size V V') {L : List Int} (ho : V'.ownsRow V.heap.size 3 1 vb' L.length (cellsI L)) : Fb w P wv fv rv gq V' va vb' L1 L := ⟨h.p.fix hb ho, h.qb.of (hb.block _ h.qb.lt), h.ge⟩
/-- The box made last. -/
theorem Fp.close (h : Fp w P wv fv rv V va vb L1 L2) (u : Int) (a b : Value) : Fq w P wv fv rv V.heap.size (V.alloc (.cells #[.int .i64 u, a, b, .slice none 0 0] 26)) u a b (.slice none 0 0) va vb (.slice none 0 0) L1 L2 [] := by
  have k := h.over ((Below.refl _ V).alloc (Nat.le_refl _) (.cells #[.int .i64 u, a, b, .slice none 0 0] 26))
  exact ⟨k.pb, k.z, QAt.block (heap_new V _), k.r1, k.r2, TwS.nil _ _, (fun p hp => by cases hp), h.sz, k.be⟩
theorem Fb.fq (h : Fb w P wv fv rv gq V va vb L1 L2) : Fq w P wv fv rv gq V 0 (.slice none 0 0) (.slice none 0 0) (.slice none 0 0) va vb (.slice none 0 0) L1 L2 [] :=
  ⟨h.p.pb, h.p.z, h.qb, h.p.r1, h.p.r2, TwS.nil _ _, (fun p hp => by cases hp), h.ge, h.p.be⟩
/-- The box made ahead. -/
theorem Fq.put0 {u : Int} {a b c vc : Value} {E : List (Rl × Value)} (h : Fq w P wv fv rv gq V u a b c va vb vc L1 L2 E) (x : Int) : Fq w P wv fv rv gq (V.setCell ⟨gq, 0, none⟩ (.int .i64 x)) x a b c va vb vc L1 L2 E := by
  have hge := h.ge
  have hb : Below gq V (V.setCell ⟨gq, 0, none⟩ (.int .i64 x)) := (Below.refl _ V).setCell (p := ⟨gq, 0, none⟩) (Nat.le_refl _) _
  have hs : ∀ {B e sz : Nat} {v : Value} {n : Nat} {xs : List Value}, V.ownsRow B e sz v n xs → e ≠ 26 → (V.setCell ⟨gq, 0, none⟩ (.int .i64 x)).ownsRow B e sz v n xs := fun ho he => own_same ho fun g _ e => Below.heap_setCell _ _ _ _ (own_ne_q ho h.qb he e)
  exact ⟨(hb.block _ (by omega)).trans h.pb, h.z.of (hb.block _ (by omega)), h.qb.s0C x, hs h.r1 (by decide), hs h.r2 (by decide), ⟨hs h.r3.row (by decide), fun p hp => hs (h.r3.inner p hp) (by decide)⟩, h.dj, h.ge, h.be.trans (hb.mono (by omega))⟩
theorem Fb.close (h : Fb w P wv fv rv gq V va vb L1 L2) (u : Int) (a b : Value) : Fq w P wv fv rv gq ((((V.setCell ⟨gq, 0, none⟩ (.int .i64 u)).setCell ⟨gq, 1, none⟩ a).setCell ⟨gq, 2, none⟩ b).setCell ⟨gq, 3, none⟩ (.slice none 0 0)) u a b (.slice none 0 0) va vb (.slice none 0 0) L1 L2 [] := by
  have h1 := h.fq.put0 u
  have h2 := h1.put (h1.qb.s1 a)
  have h3 := h2.put (h2.qb.s2 b)
  exact h3.put (h3.qb.s3 (.slice none 0 0))
theorem Fp.start (h : PbV w P wv fv rv) : Fp w P wv fv rv ((w.alloc (.cells #[.int .i64 P.users, wv, fv, rv] 26)).alloc (.cells #[.int .i64 0, .slice none 0 0, .slice none 0 0, .slice none 0 0] 26)) (.slice none 0 0) (.slice none 0 0) [] [] := by
  have hz : (w.alloc (.cells #[.int .i64 P.users, wv, fv, rv] 26)).heap.size = w.heap.size + 1 := by simp
  have hA : Below w.heap.size w (w.alloc (.cells #[.int .i64 P.users, wv, fv, rv] 26)) := (Below.refl _ w).alloc (Nat.le_refl _) _
  have hB : Below (w.heap.size + 1) (w.alloc (.cells #[.int .i64 P.users, wv, fv, rv] 26)) ((w.alloc (.cells #[.int .i64 P.users, wv, fv, rv] 26)).alloc (.cells #[.int .i64 0, .slice none 0 0, .slice none 0 0, .slice none 0 0] 26)) := by
    have := (Below.refl (w.alloc (.cells #[.int .i64 P.users, wv, fv, rv] 26)).heap.size (w.alloc (.cells #[.int .i64 P.users, wv, fv, rv] 26))).alloc (Nat.le_refl _) (.cells #[.int .i64 0, .slice none 0 0, .slice none 0 0, .slice none 0 0] 26)
    rwa [hz] at this
  have hp : PbB (w.alloc (.cells #[.int .i64 P.users, wv, fv, rv] 26)) w.heap.size P wv fv rv := heap_new w _
  have hW : Below w.heap.size w ((w.alloc (.cells #[.int .i64 P.users, wv, fv, rv] 26)).alloc (.cells #[.int .i64 0, .slice none 0 0, .slice none 0 0, .slice none 0 0] 26)) := hA.trans (hB.mono (Nat.le_succ _))
  refine ⟨(hB.block _ (Nat.lt_succ_self _)).trans hp, ?_, World.ownsRow_nil _ _ _ _, World.ownsRow_nil _ _ _ _, h.below hW, hW⟩
  rw [← hz]
  exact QAt.block (heap_new _ _)
end
end Go.Proofs.YtlijlelejobchaaGreatDoor.S
namespace Go.Proofs.YtlijlelejobchaaGreatDoor.S
open Go.RowKit Go.Shelf
theorem rowI_keep2 {W W' : World} {v : Value} {l : List Int} (h : RowI W v l) (hs : ∀ g, g < W.heap.size → v.ownBlock = some g → W'.heap[g]? = W.heap[g]?) : RowI W' v l := by
  obtain ⟨oa, cap, rfl, h0, hc⟩ := h
  refine ⟨oa, cap, rfl, h0, fun i z hi => ?_⟩
  obtain ⟨g, o, rfl, e2⟩ := hc i z hi
  refine ⟨g, o, rfl, ?_⟩
  have e := hs g (cell_lt e2) rfl
  unfold World.cell? at e2 ⊢
  rw [show (⟨g, o + i, none⟩ : Addr).block = g from rfl] at *
  simp only [e]
  exact e2
theorem rowW_keep2 {W W' : World} {v : Value} {l : List Nat} (h : RowW W v l) (hs : ∀ g, g < W.heap.size → v.ownBlock = some g → W'.heap[g]? = W.heap[g]?) : RowW W' v l := by
  obtain ⟨oa, cap, rfl, h0, hc⟩ := h
  refine ⟨oa, cap, rfl, h0, fun i z hi => ?_⟩
  obtain ⟨g, o, rfl, e2⟩ := hc i z hi
  refine ⟨g, o, rfl, ?_⟩
  have e := hs g (cell_lt e2) rfl
  unfold World.cell? at e2 ⊢
  rw [show (⟨g, o + i, none⟩ : Addr).block = g from rfl] at *
  simp only [e]
  exact e2
/-- Words as numbers. -/
theorem rowU_of_w {W : World} {v : Value} {l : List Nat} (h : RowW W v l) : KU.RowI W v (ints l) := by
  obtain ⟨oa, cap, rfl, h0, hc⟩ := h
  refine ⟨oa, cap, by rw [ints_len], by rw [ints_len]; exact h0, fun i z hi => ?_⟩
  obtain ⟨n, hn, rfl⟩ : ∃ n : Nat, l[i]? = some n ∧ z = (n : Int) := by
    unfold ints at hi
    rw [List.getElem?_map] at hi
    cases hq : l[i]? with
    | none => rw [hq] at hi; cases hi
    | some n => rw [hq] at hi; injection hi with hi; exact ⟨n, rfl, hi.symm⟩
  exact hc i n hn
theorem rowW_of_u {W : World} {v : Value} {l : List Nat} (h : KU.RowI W v (ints l)) : RowW W v l := by
  obtain ⟨oa, cap, rfl, h0, hc⟩ := h
  rw [ints_len] at h0
  refine ⟨oa, cap, by rw [ints_len], h0, fun i z hi => hc i (z : Int) (ints_at hi)⟩
/-- The book at b, the loan at p; what was there before them (V0) is as R says. -/
structure Os (V0 : World) (R : World → Prop) (b p : Nat) (tB tL tU : Nat → Nat) (m k : Nat) (W : World) : Prop where
  en : W.os = V0.os ∧ W.tape = V0.tape ∧ W.output = V0.output ∧ V0.heap.size ≤ W.heap.size
  r : R W
  cl : ∀ W1 W2 : World, R W1 → (∀ g, g < V0.heap.size → W2.heap[g]? = W1.heap[g]?) → R W2
  bk : K.Book W b tB
  ln : ∃ c0 c1 c2 c3 vs us rows vs2 us2 rows2, K.LN W p c2 c3 tL c0 c1 m m vs us rows ∧ KU.LN W p c0 c1 tU c2 c3 k k vs2 us2 rows2
  dB : ∀ g, tB g = 0 ∨ (tL g = 0 ∧ tU g = 0)
  dL : ∀ g, g ≠ p → tL g = 0 ∨ tU g = 0
  low : ∀ g, g < V0.heap.size → tB g = 0 ∧ tL g = 0 ∧ tU g = 0
theorem bk_mv {W W' : World} {b : Nat} {tB : Nat → Nat} (h : K.Book W b tB) (s : K.Sm (· = 0) tB W W') : K.Book W' b tB := by
  obtain ⟨ov, ow, m, vs, us, rows, N, h⟩ := h
  exact ⟨ov, ow, m, vs, us, rows, N, h.box.mv s (by rw [h.bt]; decide), h.bt, h.live.mv s (by decide) (fun j _ => by omega), h.want.mv s (by decide) (fun j _ => by omega), fun g hg => h.fresh g (Nat.le_trans s.size hg), h.hN, h.hrow⟩
section
variable {V0 W W' : World} {R R' X : _} {b p : Nat} {tB tL tU tB' tL' tU' : Nat → Nat} {m k : Nat}
theorem Os.fresh (h : Os V0 R b p tB tL tU m k W) : ∀ g, W.heap.size ≤ g → tB g = 0 ∧ tL g = 0 ∧ tU g = 0 := fun g hg => by
  obtain ⟨c0, c1, c2, c3, vs, us, rows, vs2, us2, rows2, h1, h2⟩ := h.ln
  obtain ⟨_, _, _, _, _, _, _, hb⟩ := h.bk
  exact ⟨hb.fresh g hg, h1.fresh g hg, h2.fresh g hg⟩
theorem Os.pL (h : Os V0 R b p tB tL tU m k W) : tL p = 1 ∧ tU p = 1 ∧ p < W.heap.size := by
  obtain ⟨c0, c1, c2, c3, vs, us, rows, vs2, us2, rows2, h1, h2⟩ := h.ln
  exact ⟨h1.bt, h2.bt, h1.box.lt⟩
theorem Os.mv {X : Nat → Prop} (h : Os V0 R b p tB tL tU m k W) (hs : K.Sm X id W W') (hX : ∀ g, X g → g < W.heap.size → tB g = 0 ∧ tL g = 0 ∧ tU g = 0 ∧ V0.heap.size ≤ g) : Os V0 R b p tB tL tU m k W' := by
  obtain ⟨e1, e2, e3, e4⟩ := h.en
  refine ⟨⟨hs.os.trans e1, hs.tape.trans e2, hs.output.trans e3, Nat.le_trans e4 hs.size⟩, h.cl W W' h.r fun g hg => hs.block g (by omega) fun x => by have := (hX g x (by omega)).2.2.2; simp at *; omega, h.cl, ?_, ?_, h.dB, h.dL, h.low⟩
  · exact bk_mv h.bk ⟨hs.os, hs.tape, hs.output, hs.size, fun g hg hx => hs.block g hg fun x => hx (hX g x hg).1⟩
  · obtain ⟨c0, c1, c2, c3, vs, us, rows, vs2, us2, rows2, h1, h2⟩ := h.ln
    exact ⟨c0, c1, c2, c3, vs, us, rows, vs2, us2, rows2, h1.mv ⟨hs.os, hs.tape, hs.output, hs.size, fun g hg hx => hs.block g hg fun x => hx (hX g x hg).2.1⟩, h2.mv ⟨hs.os, hs.tape, hs.output, hs.size, fun g hg hx => hs.block g hg fun x => hx (hX g x hg).2.2.1⟩⟩
theorem Os.below (h : Os V0 R b p tB tL tU m k W) (hb : Below W.heap.size W W') : Os V0 R b p tB tL tU m k W' := h.mv (X := fun _ => False) (K.Sm.below hb) fun _ x _ => x.elim
/-- What was there before is turned, nothing of the book's or the loan's. -/
theorem Os.base (h : Os V0 R b p tB tL tU m k W) (ho : W'.os = W.os) (htp : W'.tape = W.tape) (hou : W'.output = W.output) (hsz : W.heap.size ≤ W'.heap.size) (hbl : ∀ g, V0.heap.size ≤ g → g < W.heap.size → W'.heap[g]? = W.heap[g]?) (hr : R' W')
    (hcl : ∀ W1 W2 : World, R' W1 → (∀ g, g < V0.heap.size → W2.heap[g]? = W1.heap[g]?) → R' W2) : Os V0 R' b p tB tL tU m k W' := by
  obtain ⟨e1, e2, e3, e4⟩ := h.en
  have hge : ∀ g, g < V0.heap.size ∨ V0.heap.size ≤ g := fun g => Nat.lt_or_ge _ _
  refine ⟨⟨ho.trans e1, htp.trans e2, hou.trans e3, Nat.le_trans e4 hsz⟩, hr, hcl, ?_, ?_, h.dB, h.dL, h.low⟩
  · exact bk_mv h.bk ⟨ho, htp, hou, hsz, fun g hg hx => hbl g (by rcases hge g with q | q; exact absurd (h.low g q).1 hx; exact q) hg⟩
  · obtain ⟨c0, c1, c2, c3, vs, us, rows, vs2, us2, rows2, h1, h2⟩ := h.ln
    exact ⟨c0, c1, c2, c3, vs, us, rows, vs2, us2, rows2, h1.mv ⟨ho, htp, hou, hsz, fun g hg hx => hbl g (by rcases hge g with q | q; exact absurd (h.low g q).2.1 hx; exact q) hg⟩, h2.mv ⟨ho, htp, hou, hsz, fun g hg hx => hbl g (by rcases hge g with q | q; exact absurd (h.low g q).2.2 hx; exact q) hg⟩⟩
theorem Os.book (h : Os V0 R b p tB tL tU m k W) {v : Value} (hk : K.Book W' b tB') (hf : K.Fr tB v W tB' W') (hx : ∀ g, v.ownBlock = some g → tL g = 0 ∧ tU g = 0 ∧ V0.heap.size ≤ g) : Os V0 R b p tB' tL tU m k W' := by
  obtain ⟨e1, e2, e3, e4⟩ := h.en
  have hfr := h.fresh
  have hnx : ∀ g, g < V0.heap.size → v.ownBlock ≠ some g := fun g hg e => by have := (hx g e).2.2; omega
  have hB : ∀ g, tL g ≠ 0 → tB g = 0 := fun g e => (h.dB g).resolve_right fun q => e q.1
  have hU : ∀ g, tU g ≠ 0 → tB g = 0 := fun g e => (h.dB g).resolve_right fun q => e q.2
  refine ⟨⟨hf.os.trans e1, hf.tape.trans e2, hf.output.trans e3, Nat.le_trans e4 hf.size⟩, h.cl W W' h.r fun g hg => hf.block g (by omega) (h.low g hg).1 (hnx g hg), h.cl, hk, ?_, fun g => ?_, h.dL, fun g hg => ⟨hf.tg g (by omega) (h.low g hg).1 (hnx g hg), (h.low g hg).2⟩⟩
  · obtain ⟨c0, c1, c2, c3, vs, us, rows, vs2, us2, rows2, h1, h2⟩ := h.ln
    exact ⟨c0, c1, c2, c3, vs, us, rows, vs2, us2, rows2, h1.mv ⟨hf.os, hf.tape, hf.output, hf.size, fun g hg hx1 => hf.block g hg (hB g hx1) fun e => hx1 (hx g e).1⟩, h2.mv ⟨hf.os, hf.tape, hf.output, hf.size, fun g hg hx1 => hf.block g hg (hU g hx1) fun e => hx1 (hx g e).2.1⟩⟩
  · rcases Nat.lt_or_ge g W.heap.size with hg | hg
    · by_cases q : tL g = 0 ∧ tU g = 0
      · exact .inr q
      · have h0 : tB g = 0 := (h.dB g).resolve_right q
        exact .inl (hf.tg g hg h0 fun e => q ⟨(hx g e).1, (hx g e).2.1⟩)
    · exact .inr (hfr g hg).2
/-- The boxes are one. -/
theorem Os.ints {c0 c1 c2 c3 : Value} {vs us : List Value} {rows : Nat → List Int} (h : Os V0 R b p tB tL tU m k W) (_ : K.LN W p c2 c3 tL c0 c1 m m vs us rows) (h2 : ∃ vs2 us2 rows2, KU.LN W p c0 c1 tU c2 c3 k k vs2 us2 rows2) {m' : Nat} (hk : K.Loan W' p c2 c3 tL' m') (hf : K.FrL tL W tL' W') : Os V0 R b p tB tL' tU m' k W' := by
  obtain ⟨e1, e2, e3, e4⟩ := h.en
  have hfr := h.fresh
  have hB : ∀ g, tB g ≠ 0 → tL g = 0 := fun g e => ((h.dB g).resolve_left e).1
  obtain ⟨ov, ow, vs', us', rows', hk⟩ := hk
  obtain ⟨vs2, us2, rows2, h2⟩ := h2
  have hp := h2.bt
  have hU : ∀ g, tU g ≠ 0 → g ≠ p → tL g = 0 := fun g e q => (h.dL g q).resolve_right e
  have sU : K.Sm (fun t => t = 0 ∨ t = 1) tU W W' := ⟨hf.os, hf.tape, hf.output, hf.size, fun g hg hx => by
    have h0 := hU g (fun q => hx (.inl q)) (fun q => hx (.inr (by rw [q]; exact hp)))
    exact hf.block g hg (by omega) (by omega) (by omega)⟩
  refine ⟨⟨hf.os.trans e1, hf.tape.trans e2, hf.output.trans e3, Nat.le_trans e4 hf.size⟩, h.cl W W' h.r fun g hg => ?_, h.cl, ?_, ⟨ov, ow, c2, c3, vs', us', rows', vs2, us2, rows2, hk, hk.box, hp, h2.live.mv sU (by decide) (fun j _ => by omega), h2.want.mv sU (by decide) (fun j _ => by omega), fun g hg => h2.fresh g (Nat.le_trans hf.size hg), h2.hrow⟩, fun g => ?_, fun g hg => ?_, fun g hg => ⟨(h.low g hg).1, (hf.tg g (by omega)).trans (h.low g hg).2.1, (h.low g hg).2.2⟩⟩
  · have := (h.low g hg).2.1
    exact hf.block g (by omega) (by omega) (by omega) (by omega)
  · exact bk_mv h.bk ⟨hf.os, hf.tape, hf.output, hf.size, fun g hg hx => by have := hB g hx; exact hf.block g hg (by omega) (by omega) (by omega)⟩
  · rcases Nat.lt_or_ge g W.heap.size with q | q
    · rw [hf.tg g q]; exact h.dB g
    · exact .inl (hfr g q).1
  · rcases Nat.lt_or_ge g W.heap.size with q | q
    · rw [hf.tg g q]; exact h.dL g hg
    · exact .inr (hfr g q).2.2
theorem Os.words {c0 c1 c2 c3 : Value} {vs2 us2 : List Value} {rows2 : Nat → List Int} (h : Os V0 R b p tB tL tU m k W) (h1 : ∃ vs us rows, K.LN W p c2 c3 tL c0 c1 m m vs us rows) (_ : KU.LN W p c0 c1 tU c2 c3 k k vs2 us2 rows2) {k' : Nat} (hk : KU.Loan W' p c0 c1 tU' k') (hf : K.FrL tU W tU' W') : Os V0 R b p tB tL tU' m k' W' := by
  obtain ⟨e1, e2, e3, e4⟩ := h.en
  have hfr := h.fresh
  have hB : ∀ g, tB g ≠ 0 → tU g = 0 := fun g e => ((h.dB g).resolve_left e).2
  obtain ⟨ov, ow, vs', us', rows', hk⟩ := hk
  obtain ⟨vs, us, rows, h1⟩ := h1
  have hp := h1.bt
  have hU : ∀ g, tL g ≠ 0 → g ≠ p → tU g = 0 := fun g e q => (h.dL g q).resolve_left e
  have sU : K.Sm (fun t => t = 0 ∨ t = 1) tL W W' := ⟨hf.os, hf.tape, hf.output, hf.size, fun g hg hx => by
    have h0 := hU g (fun q => hx (.inl q)) (fun q => hx (.inr (by rw [q]; exact hp)))
    exact hf.block g hg (by omega) (by omega) (by omega)⟩
  refine ⟨⟨hf.os.trans e1, hf.tape.trans e2, hf.output.trans e3, Nat.le_trans e4 hf.size⟩, h.cl W W' h.r fun g hg => ?_, h.cl, ?_, ⟨c0, c1, ov, ow, vs, us, rows, vs', us', rows', ⟨hk.box, hp, h1.live.mv sU (by decide) (fun j _ => by omega), h1.want.mv sU (by decide) (fun j _ => by omega), fun g hg => h1.fresh g (Nat.le_trans hf.size hg), h1.hrow⟩, hk⟩, fun g => ?_, fun g hg => ?_, fun g hg => ⟨(h.low g hg).1, (h.low g hg).2.1, (hf.tg g (by omega)).trans (h.low g hg).2.2⟩⟩
  · have := (h.low g hg).2.2
    exact hf.block g (by omega) (by omega) (by omega) (by omega)
  · exact bk_mv h.bk ⟨hf.os, hf.tape, hf.output, hf.size, fun g hg hx => by have := hB g hx; exact hf.block g hg (by omega) (by omega) (by omega)⟩
  · rcases Nat.lt_or_ge g W.heap.size with q | q
    · rw [hf.tg g q]; exact h.dB g
    · exact .inl (hfr g q).1
  · rcases Nat.lt_or_ge g W.heap.size with q | q
    · rw [hf.tg g q]; exact h.dL g hg
    · exact .inl (hfr g q).2.1
end
/-- The problem's rows: lent ones, but for its rules' own. E: rows that were lent besides; H: rows that are not the loan's (nor in F). F: blocks that are nobody's. -/
structure Zp (V0 : World) (tB tL tU : Nat → Nat) (xw xf xr : Value) (Lw : List Nat) (Lf : List Int) (P : List (Rl × Value)) (E H : List (Value × List Int)) (F : Nat → Prop) (W : World) : Prop where
  row : W.ownsRow V0.heap.size 44 3 xr P.length (cellsR P)
  un : ∀ g, xr.ownBlock = some g → tB g = 0 ∧ tL g = 0 ∧ tU g = 0
  inn : ∀ q ∈ P, RowI W q.2 q.1.steps ∧ ∀ g, q.2.ownBlock = some g → 10 ≤ tL g
  w : RowW W xw Lw
  wt : ∀ g, xw.ownBlock = some g → 10 ≤ tU g
  f : RowI W xf Lf
  ft : ∀ g, xf.ownBlock = some g → 10 ≤ tL g
  e : ∀ q ∈ E, RowI W q.1 q.2 ∧ ∀ g, q.1.ownBlock = some g → 10 ≤ tL g
  h : ∀ q ∈ H, RowI W q.1 q.2 ∧ ∀ g, q.1.ownBlock = some g → tL g = 0 ∧ tU g = 0 ∧ V0.heap.size ≤ g ∧ xr.ownBlock ≠ some g ∧ ¬ F g ∧ g < W.heap.size
  fr : ∀ g, F g → tB g = 0 ∧ tL g = 0 ∧ tU g = 0 ∧ xr.ownBlock ≠ some g ∧ V0.heap.size ≤ g ∧ g < W.heap.size
section
variable {V0 W W' : World} {tB tL tU tB' tL' tU' : Nat → Nat} {xw xf xr : Value} {Lw : List Nat} {Lf : List Int} {P : List (Rl × Value)} {E H : List (Value × List Int)} {F F' : Nat → Prop}
theorem Zp.go (h : Zp V0 tB tL tU xw xf xr Lw Lf P E H F W) (hfr : ∀ g, W.heap.size ≤ g → tB g = 0 ∧ tL g = 0 ∧ tU g = 0) (hsz : W.heap.size ≤ W'.heap.size) (hb : ∀ g, g < W.heap.size → (10 ≤ tL g ∨ 10 ≤ tU g ∨ xr.ownBlock = some g) → W'.heap[g]? = W.heap[g]?)
    (hL : ∀ g, g < W.heap.size → 10 ≤ tL g → 10 ≤ tL' g) (hU : ∀ g, g < W.heap.size → 10 ≤ tU g → 10 ≤ tU' g) (hun : ∀ g, xr.ownBlock = some g → tB' g = 0 ∧ tL' g = 0 ∧ tU' g = 0) (hF : ∀ g, F' g → F g ∧ tB' g = 0 ∧ tL' g = 0 ∧ tU' g = 0) (hH : ∀ q ∈ H, ∀ g, q.1.ownBlock = some g → W'.heap[g]? = W.heap[g]? ∧ tL' g = 0 ∧ tU' g = 0) : Zp V0 tB' tL' tU' xw xf xr Lw Lf P E H F' W' := by
  have hlL : ∀ g, 10 ≤ tL g → g < W.heap.size := fun g q => by
    rcases Nat.lt_or_ge g W.heap.size with e | e
    · exact e
    · have := (hfr g e).2.1; omega
  have hlU : ∀ g, 10 ≤ tU g → g < W.heap.size := fun g q => by
    rcases Nat.lt_or_ge g W.heap.size with e | e
    · exact e
    · have := (hfr g e).2.2; omega
  have kI : ∀ (v : Value) (l : List Int), RowI W v l → (∀ g, v.ownBlock = some g → 10 ≤ tL g) → RowI W' v l ∧ ∀ g, v.ownBlock = some g → 10 ≤ tL' g := fun v l h1 h2 => ⟨rowI_keep2 h1 fun g hg e => hb g hg (.inl (h2 g e)), fun g e => hL g (hlL g (h2 g e)) (h2 g e)⟩
  exact ⟨own_same h.row fun g hg e => hb g hg (.inr (.inr e)), hun, fun q hq => kI _ _ (h.inn q hq).1 (h.inn q hq).2, rowW_keep2 h.w fun g hg e => hb g hg (.inr (.inl (h.wt g e))), fun g e => hU g (hlU g (h.wt g e)) (h.wt g e), (kI _ _ h.f h.ft).1, (kI _ _ h.f h.ft).2, fun q hq => kI _ _ (h.e q hq).1 (h.e q hq).2, fun q hq => ⟨rowI_keep2 (h.h q hq).1 fun g _ e => (hH q hq g e).1, fun g e => by
    obtain ⟨_, _, q3, q4, q5, q6⟩ := (h.h q hq).2 g e
    exact ⟨(hH q hq g e).2.1, (hH q hq g e).2.2, q3, q4, fun q => q5 (hF g q).1, by omega⟩⟩, fun g hg => by
    obtain ⟨q1, q2⟩ := hF g hg
    obtain ⟨_, _, _, q3, q4, q5⟩ := h.fr g q1
    exact ⟨q2.1, q2.2.1, q2.2.2, q3, q4, by omega⟩⟩
end
/-- What stands between the law's calls. -/
def Z2 (V0 : World) (R : World → Prop) (b p M : Nat) (xw xf xr : Value) (Lw : List Nat) (Lf : List Int) (P : List (Rl × Value)) (E H : List (Value × List Int)) (F : Nat → Prop) (W : World) : Prop :=
  ∃ tB tL tU m k, Os V0 R b p tB tL tU m k W ∧ m ≤ M ∧ k ≤ M ∧ Zp V0 tB tL tU xw xf xr Lw Lf P E H F W
section
variable {V0 W W' : World} {R R' : World → Prop} {b p M : Nat} {xw xf xr : Value} {Lw : List Nat} {Lf : List Int} {P : List (Rl × Value)} {E H : List (Value × List Int)} {F : Nat → Prop}
theorem Z2.mv {X : Nat → Prop} (h : Z2 V0 R b p M xw xf xr Lw Lf P E H F W) (hs : K.Sm X id W W') (hX : ∀ g, X g → g < W.heap.size → F g) : Z2 V0 R b p M xw xf xr Lw Lf P E H F W' := by
  obtain ⟨tB, tL, tU, m, k, h1, h2, h3, h4⟩ := h
  refine ⟨tB, tL, tU, m, k, h1.mv hs (fun g x hg => by obtain ⟨q1, q2, q3, _, q4, _⟩ := h4.fr g (hX g x hg); exact ⟨q1, q2, q3, q4⟩), h2, h3, h4.go h1.fresh hs.size (fun g hg q => hs.block g hg fun x => ?_) (fun _ _ q => q) (fun _ _ q => q) h4.un (fun g hg => ⟨hg, (h4.fr g hg).1, (h4.fr g hg).2.1, (h4.fr g hg).2.2.1⟩) fun q hq g e => by
    obtain ⟨q1, q2, q3, q4, q5, q6⟩ := (h4.h q hq).2 g e
    exact ⟨hs.block g q6 fun x => q5 (hX g x q6), q1, q2⟩⟩
  obtain ⟨q1, q2, q3, q4, _⟩ := h4.fr g (hX g x hg)
  rcases q with q | q | q
  · omega
  · omega
  · exact q4 q
theorem Z2.below (h : Z2 V0 R b p M xw xf xr Lw Lf P E H F W) (hb : Below W.heap.size W W') : Z2 V0 R b p M xw xf xr Lw Lf P E H F W' := h.mv (X := fun _ => False) (K.Sm.below hb) fun _ x _ => x.elim
theorem Z2.base (h : Z2 V0 R b p M xw xf xr Lw Lf P E H F W) (ho : W'.os = W.os) (htp : W'.tape = W.tape) (hou : W'.output = W.output) (hsz : W.heap.size ≤ W'.heap.size) (hbl : ∀ g, V0.heap.size ≤ g → g < W.heap.size → W'.heap[g]? = W.heap[g]?) (hr : R' W')
    (hcl : ∀ W1 W2 : World, R' W1 → (∀ g, g < V0.heap.size → W2.heap[g]? = W1.heap[g]?) → R' W2) : Z2 V0 R' b p M xw xf xr Lw Lf P E H (fun g => F g ∨ (W.heap.size ≤ g ∧ g < W'.heap.size)) W' := by
  obtain ⟨tB, tL, tU, m, k, h1, h2, h3, h4⟩ := h
  have hfr := h1.fresh
  have hlr : ∀ g, xr.ownBlock = some g → g < W.heap.size := fun g e => own_lt' h4.row e
  obtain ⟨_, _, _, e4⟩ := h1.en
  have k4 := h4.go (W' := W') (F' := F) hfr hsz (fun g hg q => hbl g (by
    rcases Nat.lt_or_ge g V0.heap.size with e | e
    · obtain ⟨e1, e2, e3⟩ := h1.low g e
      rcases q with q | q | q
      · omega
      · omega
      · have := own_ge' h4.row q; omega
    · exact e) hg) (fun _ _ q => q) (fun _ _ q => q) h4.un (fun g hg => ⟨hg, (h4.fr g hg).1, (h4.fr g hg).2.1, (h4.fr g hg).2.2.1⟩) fun q hq g e => by
    obtain ⟨q1, q2, q3, q4, q5, q6⟩ := (h4.h q hq).2 g e
    exact ⟨hbl g q3 q6, q1, q2⟩
  refine ⟨tB, tL, tU, m, k, h1.base ho htp hou hsz hbl hr hcl, h2, h3, k4.row, k4.un, k4.inn, k4.w, k4.wt, k4.f, k4.ft, k4.e, fun q hq => ⟨(k4.h q hq).1, fun g e => ?_⟩, fun g hg => ?_⟩
  · obtain ⟨q1, q2, q3, q4, q5, q6⟩ := (h4.h q hq).2 g e
    exact ⟨q1, q2, q3, q4, fun r => r.elim q5 fun r => by omega, by omega⟩
  rcases hg with hg | hg
  · exact k4.fr g hg
  · exact ⟨(hfr g hg.1).1, (hfr g hg.1).2.1, (hfr g hg.1).2.2, fun e => by have := hlr g e; omega, by omega, hg.2⟩
theorem Z2.more (h : Z2 V0 R b p M xw xf xr Lw Lf P E H F W) {M' : Nat} (hM : M ≤ M') : Z2 V0 R b p M' xw xf xr Lw Lf P E H F W := by
  obtain ⟨tB, tL, tU, m, k, h1, h2, h3, h4⟩ := h
  exact ⟨tB, tL, tU, m, k, h1, by omega, by omega, h4⟩
theorem Z2.r (h : Z2 V0 R b p M xw xf xr Lw Lf P E H F W) : R W := by obtain ⟨_, _, _, _, _, h1, _⟩ := h; exact h1.r
theorem Z2.en (h : Z2 V0 R b p M xw xf xr Lw Lf P E H F W) : W.os = V0.os ∧ W.tape = V0.tape ∧ W.output = V0.output ∧ V0.heap.size ≤ W.heap.size := by obtain ⟨_, _, _, _, _, h1, _⟩ := h; exact h1.en
theorem Z2.rules (h : Z2 V0 R b p M xw xf xr Lw Lf P E H F W) : W.ownsRow V0.heap.size 44 3 xr P.length (cellsR P) ∧ ∀ q ∈ P, RowI W q.2 q.1.steps := by
  obtain ⟨tB, tL, tU, m, k, h1, h2, h3, h4⟩ := h
  exact ⟨h4.row, fun q hq => (h4.inn q hq).1⟩
theorem Z2.who (h : Z2 V0 R b p M xw xf xr Lw Lf P E H F W) : RowW W xw Lw := by obtain ⟨_, _, _, _, _, _, _, _, h4⟩ := h; exact h4.w
theorem Z2.fix (h : Z2 V0 R b p M xw xf xr Lw Lf P E H F W) : RowI W xf Lf := by obtain ⟨_, _, _, _, _, _, _, _, h4⟩ := h; exact h4.f
theorem Z2.held (h : Z2 V0 R b p M xw xf xr Lw Lf P E H F W) {q : Value × List Int} (hq : q ∈ H) : RowI W q.1 q.2 := by obtain ⟨_, _, _, _, _, _, _, _, h4⟩ := h; exact (h4.h q hq).1
theorem Z2.ex (h : Z2 V0 R b p M xw xf xr Lw Lf P E H F W) {q : Value × List Int} (hq : q ∈ E) : RowI W q.1 q.2 := by obtain ⟨_, _, _, _, _, _, _, _, h4⟩ := h; exact (h4.e q hq).1
/-- A problem is begun anew. -/
theorem Z2.nil (h : Z2 V0 R b p M xw xf xr Lw Lf P E H F W) : Z2 V0 R b p M (.slice none 0 0) (.slice none 0 0) (.slice none 0 0) [] [] [] [] [] (fun _ => False) W := by
  obtain ⟨tB, tL, tU, m, k, h1, h2, h3, h4⟩ := h
  exact ⟨tB, tL, tU, m, k, h1, h2, h3, World.ownsRow_nil _ _ _ _, fun g e => by simp [Value.ownBlock] at e, (fun q hq => by cases hq), ⟨none, 0, rfl, ⟨Nat.le_refl _, fun _ => rfl⟩, fun i z hz => by cases hz⟩, (fun g e => by simp [Value.ownBlock] at e), ⟨none, 0, rfl, ⟨Nat.le_refl _, fun _ => rfl⟩, fun i z hz => by cases hz⟩, (fun g e => by simp [Value.ownBlock] at e), (fun q hq => by cases hq), (fun q hq => by cases hq), fun g hg => hg.elim⟩
theorem Z2.drop (h : Z2 V0 R b p M xw xf xr Lw Lf P E H F W) : Z2 V0 R b p M xw xf xr Lw Lf P [] [] F W := by
  obtain ⟨tB, tL, tU, m, k, h1, h2, h3, h4⟩ := h
  exact ⟨tB, tL, tU, m, k, h1, h2, h3, h4.row, h4.un, h4.inn, h4.w, h4.wt, h4.f, h4.ft, (fun q hq => by cases hq), (fun q hq => by cases hq), h4.fr⟩
/-- What was lent is the problem's Fixed. -/
theorem Z2.setF {u : Value} {l : List Int} (h : Z2 V0 R b p M xw xf xr Lw Lf P ((u, l) :: E) H F W) : Z2 V0 R b p M xw u xr Lw l P E H F W := by
  obtain ⟨tB, tL, tU, m, k, h1, h2, h3, h4⟩ := h
  have := h4.e (u, l) List.mem_cons_self
  exact ⟨tB, tL, tU, m, k, h1, h2, h3, h4.row, h4.un, h4.inn, h4.w, h4.wt, this.1, this.2, (fun q hq => h4.e q (List.mem_cons_of_mem _ hq)), h4.h, h4.fr⟩
/-- Blocks that are new are nobody's. -/
theorem Z2.free {W2 : World} (h : Z2 V0 R b p M xw xf xr Lw Lf P E H F W) (hb : Below W.heap.size W W2) : Z2 V0 R b p M xw xf xr Lw Lf P E H (fun g => F g ∨ (W.heap.size ≤ g ∧ g < W2.heap.size)) W2 := by
  obtain ⟨tB, tL, tU, m, k, h1, h2, h3, h4⟩ := h
  obtain ⟨e1, e2, e3, e4⟩ := h1.en
  have hfr := h1.fresh
  have hlr : ∀ g, xr.ownBlock = some g → g < W.heap.size := fun g e => own_lt' h4.row e
  refine ⟨tB, tL, tU, m, k, h1.below hb, h2, h3, ?_⟩
  have k4 := h4.go (W' := W2) (F' := F) hfr hb.size (fun g hg _ => hb.block g hg) (fun _ _ q => q) (fun _ _ q => q) h4.un (fun g q => ⟨q, (h4.fr g q).1, (h4.fr g q).2.1, (h4.fr g q).2.2.1⟩) (fun q hq g e => ⟨hb.block g ((h4.h q hq).2 g e).2.2.2.2.2, ((h4.h q hq).2 g e).1, ((h4.h q hq).2 g e).2.1⟩)
  refine ⟨k4.row, k4.un, k4.inn, k4.w, k4.wt, k4.f, k4.ft, k4.e, fun q hq => ⟨(k4.h q hq).1, fun g e => ?_⟩, fun g hg => ?_⟩
  · obtain ⟨q1, q2, q3, q4, q5, q6⟩ := (h4.h q hq).2 g e
    exact ⟨q1, q2, q3, q4, fun r => r.elim q5 fun r => by omega, by have := hb.size; omega⟩
  rcases hg with hg | hg
  · exact k4.fr g hg
  · exact ⟨(hfr g hg.1).1, (hfr g hg.1).2.1, (hfr g hg.1).2.2, fun e => by have := hlr g e; omega, by omega, hg.2⟩
/-- Fewer of them. -/
theorem Z2.less {F2 : Nat → Prop} (h : Z2 V0 R b p M xw xf xr Lw Lf P E H F W) (hF : ∀ g, F2 g → F g) : Z2 V0 R b p M xw xf xr Lw Lf P E H F2 W := by
  obtain ⟨tB, tL, tU, m, k, h1, h2, h3, h4⟩ := h
  exact ⟨tB, tL, tU, m, k, h1, h2, h3, h4.row, h4.un, h4.inn, h4.w, h4.wt, h4.f, h4.ft, h4.e, (fun q hq => ⟨(h4.h q hq).1, fun g e => by
    obtain ⟨q1, q2, q3, q4, q5, q6⟩ := (h4.h q hq).2 g e
    exact ⟨q1, q2, q3, q4, fun r => q5 (hF g r), q6⟩⟩), fun g q => h4.fr g (hF g q)⟩
theorem z2Ints (hZ : Z2 V0 R b p M xw xf xr Lw Lf P E H F W) (hM : M ≤ 90000) (lv : Value) (l : List Int) (hr : RowI W lv l) (hl : l.length ≤ 1000) :
    Calls Tryz.prog 9 #[.pointer (some ⟨p, 0, none⟩), lv] W fun e w' => ∃ g cap, e = .returned (.slice (some ⟨g, 0, none⟩) l.length cap) ∧ Hid (Z2 V0 R b p (M + 1) xw xf xr Lw Lf P ((.slice (some ⟨g, 0, none⟩) l.length cap, l) :: E) H F w') ∧ Hid (∀ g, g < W.heap.size → F g → w'.heap[g]? = W.heap[g]?) := by
  obtain ⟨tB, tL, tU, m, k, h1, h2, h3, h4⟩ := hZ
  obtain ⟨c0, c1, c2, c3, vs, us, rows, vs2, us2, rows2, k1, k2⟩ := h1.ln
  refine (K.loanInts p c2 c3 tL m lv l W ⟨c0, c1, vs, us, rows, k1⟩ hr hl (by omega)).mono ?_
  rintro e w' ⟨g, cap, tL', rfl, hk, hf, hrow, hg, ht⟩
  have hfr := h1.fresh
  have hp := h1.pL
  have hz : Zp V0 tB tL' tU xw xf xr Lw Lf P E H F w' := h4.go hfr hf.size (fun g hg q => by
      have h0 : tL g = 0 ∨ 10 ≤ tL g := by
        rcases q with q | q | q
        · exact .inr q
        · exact .inl ((h1.dL g (fun e => by rw [e, hp.2.1] at q; omega)).resolve_right (by omega))
        · exact .inl (h4.un g q).2.1
      exact hf.block g hg (by omega) (by omega) (by omega)) (fun g hg q => by rw [hf.tg g hg]; exact q) (fun _ _ q => q) (fun g q => ⟨(h4.un g q).1, (hf.tg g (own_lt' h4.row q)).trans (h4.un g q).2.1, (h4.un g q).2.2⟩) (fun g hg => ⟨hg, (h4.fr g hg).1, (hf.tg g (h4.fr g hg).2.2.2.2.2).trans (h4.fr g hg).2.1, (h4.fr g hg).2.2.1⟩) fun q hq g e => by
      obtain ⟨q1, q2, q3, q4, q5, q6⟩ := (h4.h q hq).2 g e
      exact ⟨hf.block g q6 (by omega) (by omega) (by omega), (hf.tg g q6).trans q1, q2⟩
  refine ⟨g, cap, rfl, ⟨tB, tL', tU, m + 1, k, h1.ints k1 ⟨vs2, us2, rows2, k2⟩ hk hf, by omega, by omega, hz.row, hz.un, hz.inn, hz.w, hz.wt, hz.f, hz.ft, fun q hq => ?_, hz.h, hz.fr⟩, fun g' hg' q => by have := (h4.fr g' q).2.1; exact hf.block g' hg' (by omega) (by omega) (by omega)⟩
  rcases List.mem_cons.1 hq with rfl | hq
  · exact ⟨hrow, fun g' e => by
      have : g = g' := by simpa [Value.ownBlock] using e
      subst this; omega⟩
  · exact hz.e q hq
theorem z2Rows (hZ : Z2 V0 R b p M xw xf xr Lw Lf P E H F W) (hM : M ≤ 90000) (lv : Value) (l : List Nat) (hr : RowW W lv l) (hl : l.length ≤ 1000) :
    Calls Tryz.prog 8 #[.pointer (some ⟨p, 0, none⟩), lv] W fun e w' => ∃ g cap, e = .returned (.slice (some ⟨g, 0, none⟩) l.length cap) ∧ Hid (Z2 V0 R b p (M + 1) (.slice (some ⟨g, 0, none⟩) l.length cap) xf xr l Lf P E H F w') ∧ Hid (∀ g, g < W.heap.size → F g → w'.heap[g]? = W.heap[g]?) := by
  obtain ⟨tB, tL, tU, m, k, h1, h2, h3, h4⟩ := hZ
  obtain ⟨c0, c1, c2, c3, vs, us, rows, vs2, us2, rows2, k1, k2⟩ := h1.ln
  refine (KU.loanRows p c0 c1 tU k lv (ints l) W ⟨c2, c3, vs2, us2, rows2, k2⟩ (rowU_of_w hr) (by rw [ints_len]; exact hl) (by omega)).mono ?_
  rintro e w' ⟨g, cap, tU', rfl, hk, hf, hrow, hg, ht⟩
  rw [ints_len] at hrow ⊢
  have hfr := h1.fresh
  have hp := h1.pL
  have hz : Zp V0 tB tL tU' xw xf xr Lw Lf P E H F w' := h4.go hfr hf.size (fun g hg q => by
      have h0 : tU g = 0 ∨ 10 ≤ tU g := by
        rcases q with q | q | q
        · exact .inl ((h1.dL g (fun e => by rw [e, hp.1] at q; omega)).resolve_left (by omega))
        · exact .inr q
        · exact .inl (h4.un g q).2.2
      exact hf.block g hg (by omega) (by omega) (by omega)) (fun _ _ q => q) (fun g hg q => by rw [hf.tg g hg]; exact q) (fun g q => ⟨(h4.un g q).1, (h4.un g q).2.1, (hf.tg g (own_lt' h4.row q)).trans (h4.un g q).2.2⟩) (fun g hg => ⟨hg, (h4.fr g hg).1, (h4.fr g hg).2.1, (hf.tg g (h4.fr g hg).2.2.2.2.2).trans (h4.fr g hg).2.2.1⟩) fun q hq g e => by
      obtain ⟨q1, q2, q3, q4, q5, q6⟩ := (h4.h q hq).2 g e
      exact ⟨hf.block g q6 (by omega) (by omega) (by omega), q1, (hf.tg g q6).trans q2⟩
  exact ⟨g, cap, rfl, ⟨tB, tL, tU', m, k + 1, h1.words ⟨vs, us, rows, k1⟩ k2 hk hf, by omega, by omega, hz.row, hz.un, hz.inn, rowW_of_u hrow, (fun g' e => by
      have : g = g' := by simpa [Value.ownBlock] using e
      subst this; omega), hz.f, hz.ft, hz.e, hz.h, hz.fr⟩, fun g' hg' q => by have := (h4.fr g' q).2.2.1; exact hf.block g' hg' (by omega) (by omega) (by omega)⟩
theorem z2Book (hZ : Z2 V0 R b p M xw xf xr Lw Lf P E H F W) (x : Value) (n B : Nat) (l : List Int) (hv : W.ownsRow B 3 1 x n (cellsI l)) (hl : l.length ≤ 1000000) (hF : ∀ g, x.ownBlock = some g → F g) :
    Calls Tryz.prog 11 #[.pointer (some ⟨b, 0, none⟩), x] W fun e w' => e = .returned (.tuple #[]) ∧ Hid (Z2 V0 R b p M xw xf xr Lw Lf P E [(x, l)] (fun g => F g ∧ x.ownBlock ≠ some g) w') ∧ Hid (∀ g, g < W.heap.size → F g → x.ownBlock ≠ some g → w'.heap[g]? = W.heap[g]?) := by
  obtain ⟨tB, tL, tU, m, k, h1, h2, h3, h4⟩ := hZ
  have hn : n = l.length := by have := hv.1; simp [cellsI] at this; omega
  subst hn
  refine (K.bookInts2 b tB x l W h1.bk (own_down hv (Nat.zero_le _)) hl (fun g hg => (h4.fr g (hF g hg)).1)).mono ?_
  rintro e w' ⟨rfl, tB', hk', hf, hxo⟩
  have hx : ∀ g, x.ownBlock = some g → tL g = 0 ∧ tU g = 0 ∧ V0.heap.size ≤ g := fun g e => by obtain ⟨_, q1, q2, _, q3, _⟩ := h4.fr g (hF g e); exact ⟨q1, q2, q3⟩
  have hxr : ∀ g, xr.ownBlock = some g → x.ownBlock ≠ some g := fun g e e2 => (h4.fr g (hF g e2)).2.2.2.1 e
  have kz : Zp V0 tB' tL tU xw xf xr Lw Lf P E [] (fun g => F g ∧ x.ownBlock ≠ some g) w' := ⟨h4.row, h4.un, h4.inn, h4.w, h4.wt, h4.f, h4.ft, h4.e, (fun q hq => by cases hq), h4.fr⟩ |> fun (h5 : Zp V0 tB tL tU xw xf xr Lw Lf P E [] F W) => h5.go h1.fresh hf.size (fun g hg q => by
    have hB0 : tB g = 0 := by
      rcases q with q | q | q
      · exact (h1.dB g).resolve_right (by omega)
      · exact (h1.dB g).resolve_right (by omega)
      · exact (h4.un g q).1
    refine hf.block g hg hB0 fun e => ?_
    obtain ⟨q1, q2, _⟩ := hx g e
    rcases q with q | q | q
    · omega
    · omega
    · exact hxr g q e) (fun _ _ q => q) (fun _ _ q => q) (fun g q => ⟨hf.tg g (own_lt' h4.row q) (h4.un g q).1 (hxr g q), (h4.un g q).2⟩) (fun g hg => ⟨hg.1, hf.tg g (h4.fr g hg.1).2.2.2.2.2 (h4.fr g hg.1).1 hg.2, (h4.fr g hg.1).2.1, (h4.fr g hg.1).2.2.1⟩) (fun q hq => by cases hq)
  refine ⟨rfl, ⟨tB', tL, tU, m, k, h1.book hk' hf hx, h2, h3, kz.row, kz.un, kz.inn, kz.w, kz.wt, kz.f, kz.ft, kz.e, fun q hq => ?_, kz.fr⟩, fun g hg q1 q2 => hf.block g hg (h4.fr g q1).1 q2⟩
  rw [List.mem_singleton] at hq
  subst hq
  refine ⟨RowI.of_owns hxo, fun g e => ?_⟩
  obtain ⟨_, q1, q2, q3, q4, q5⟩ := h4.fr g (hF g e)
  exact ⟨q1, q2, q4, q3, fun r => r.2 e, by have := hf.size; omega⟩
/-- A rule, its steps lent, laid behind the others. -/
theorem z2App {o : Oper} {a : Act} {Kp : Act → World → Prop} {Q : Exit → Act → World → Prop} (s x : Operand) (r : Rl) (u : Value) (ho : o.op = .call { callee := .builtin .append, args := #[s, x], argTypes := #[24, 24] })
    (es : a.eval s = xr) (ex : a.eval x = .slice (some ⟨W.heap.size, 0, none⟩) 1 1) (hZ : Z2 V0 R b p M xw xf xr Lw Lf P ((u, r.steps) :: E) H F W) (hu1 : u.oneCell' = true) (hn : P.length ≤ 1000000)
    (hK : ∀ g2 c2 w', Hid (Z2 V0 R b p M xw xf (.slice (some ⟨g2, 0, none⟩) (P.length + 1) c2) Lw Lf (P ++ [(r, u)]) E H F w') → Hid (K.Sm (fun g => xr.ownBlock = some g) id W w') → Kp (a.put o.dst (.slice (some ⟨g2, 0, none⟩) (P.length + 1) c2)) w') : o.wp Tryz.prog a (W.alloc (.cells #[.int .i64 r.kind, .int .i64 r.k, u] 44)) Kp Q := by
  obtain ⟨tB, tL, tU, m, k, h1, h2, h3, h4⟩ := hZ
  obtain ⟨i0, hi, hz0, hz1, hz2⟩ := info_parts infoR
  have hA : Below W.heap.size W (W.alloc (.cells #[.int .i64 r.kind, .int .i64 r.k, u] 44)) := (Below.refl _ _).alloc (Nat.le_refl _) _
  obtain ⟨_, _, _, hge⟩ := h1.en
  have h4A := h4.go (F' := F) (W' := W.alloc (.cells #[.int .i64 r.kind, .int .i64 r.k, u] 44)) h1.fresh hA.size (fun g hg _ => hA.block g hg) (fun _ _ q => q) (fun _ _ q => q) h4.un (fun g q => ⟨q, (h4.fr g q).1, (h4.fr g q).2.1, (h4.fr g q).2.2.1⟩) (fun q hq g e => ⟨hA.block g ((h4.h q hq).2 g e).2.2.2.2.2, ((h4.h q hq).2 g e).1, ((h4.h q hq).2 g e).2.1⟩)
  have h1A := h1.below hA
  refine K.wp_append_two _ s x 24 ho V0.heap.size 44 i0 (.agg #[.int .i64 0, .int .i64 0, .slice none 0 0]) 3 40 Tryz.underlying24 hi hz0 hz1 hz2 rfl (by decide) xr P.length (cellsR P) es h4A.row ⟨W.heap.size, 0, none⟩ 1 1 (rcells (r, u)) ex rfl (World.news_of_block (cs := #[.int .i64 r.kind, .int .i64 r.k, u]) (heap_new _ _)) (rcells_one (r, u) hu1) (by decide) (by unfold maxLen; omega) (by omega) (by simp; omega) ?_
  intro g2 cap2 w' hnew _ hat
  have hs : K.Sm (fun g => xr.ownBlock = some g) id (W.alloc (.cells #[.int .i64 r.kind, .int .i64 r.k, u] 44)) w' := by
    rcases hat with ⟨rfl, hg⟩ | ⟨_, hg⟩
    · exact K.Sm.grown hg fun g e => by cases e; rfl
    · exact K.Sm.grown hg fun g e => by cases e
  have hsW : K.Sm (fun g => xr.ownBlock = some g) id W w' := (K.Sm.below hA).trans hs (fun _ _ => rfl)
  have kI : ∀ (v : Value) (l : List Int), RowI W v l → (∀ g, v.ownBlock = some g → 10 ≤ tL g) → RowI w' v l := fun v l q1 q2 => rowI_keep2 q1 fun g hg e => hsW.block g hg fun e2 => by
    have := q2 g e
    have := (h4.un g e2).2.1
    omega
  have ha := h4.e (u, r.steps) List.mem_cons_self
  refine hK g2 cap2 w' ⟨tB, tL, tU, m, k, h1A.mv hs (fun g e _ => ⟨(h4.un g e).1, (h4.un g e).2.1, (h4.un g e).2.2, own_ge' h4.row e⟩), h2, h3, ?_, ?_, fun q hq => ?_, rowW_keep2 h4.w fun g hg e => hsW.block g hg fun e2 => ?_, h4.wt, kI _ _ h4.f h4.ft, h4.ft, fun q hq => ⟨kI _ _ (h4.e q (List.mem_cons_of_mem _ hq)).1 (h4.e q (List.mem_cons_of_mem _ hq)).2, (h4.e q (List.mem_cons_of_mem _ hq)).2⟩, fun q hq => ⟨rowI_keep2 (h4.h q hq).1 fun g hg e => hsW.block g hg ((h4.h q hq).2 g e).2.2.2.1, fun g e => ?_⟩, fun g q => ?_⟩ hsW
  · rw [List.length_append, List.length_singleton, cellsR_app]
    simpa [cellsR] using hnew
  · intro g e
    have e' : g2 = g := by simpa [Value.ownBlock] using e
    subst e'
    rcases hat with ⟨rfl, _⟩ | ⟨rfl, _⟩
    · exact h4.un g2 rfl
    · exact h1A.fresh _ (Nat.le_refl _)
  · rcases List.mem_append.1 hq with hq | hq
    · exact ⟨kI _ _ (h4.inn q hq).1 (h4.inn q hq).2, (h4.inn q hq).2⟩
    · rw [List.mem_singleton] at hq
      subst hq
      exact ⟨kI _ _ ha.1 ha.2, ha.2⟩
  · have := h4.wt g e
    have := (h4.un g e2).2.2
    omega
  · obtain ⟨q1, q2, q3, q4, q5, q6⟩ := (h4.h q hq).2 g e
    refine ⟨q1, q2, q3, fun e3 => ?_, q5, by have := hsW.size; omega⟩
    have e' : g2 = g := by simpa [Value.ownBlock] using e3
    subst e'
    rcases hat with ⟨rfl, _⟩ | ⟨rfl, _⟩
    · exact q4 rfl
    · simp at q6; omega
  · obtain ⟨q1, q2, q3, q4, q5, q6⟩ := h4.fr g q
    refine ⟨q1, q2, q3, fun e => ?_, q5, by have := hsW.size; omega⟩
    have e' : g2 = g := by simpa [Value.ownBlock] using e
    subst e'
    rcases hat with ⟨rfl, _⟩ | ⟨rfl, _⟩
    · exact q4 rfl
    · simp at q6; omega
/-- The rules as they read. -/
theorem rowR_lent {W : World} {B : Nat} {v : Value} {P : List (Rl × Value)} (hr : W.ownsRow B 44 3 v P.length (cellsR P)) (hi' : ∀ q ∈ P, RowI W q.2 q.1.steps) : RowR W v (P.map Prod.fst) := by
  unfold RowR
  rw [List.length_map]
  rcases hr.2 with ⟨rfl, h0⟩ | ⟨g, cap, cur, rfl, _, _, hcap, _⟩
  · refine ⟨none, 0, by rw [h0], ⟨by omega, fun _ => rfl⟩, fun i z hz => ?_⟩
    have := (List.getElem?_eq_some_iff.1 hz).1
    simp at this; omega
  · refine ⟨_, cap, rfl, ⟨hcap, fun e => by cases e⟩, fun i z hz => ?_⟩
    rw [List.getElem?_map] at hz
    cases hp : P[i]? with
    | none => rw [hp] at hz; cases hz
    | some p =>
      rw [hp] at hz
      cases hz
      have hi := (List.getElem?_eq_some_iff.1 hp).1
      have a0 := hr.cellAt (i * 3 + 0) (by omega)
      have a1 := hr.cellAt (i * 3 + 1) (by omega)
      have a2 := hr.cellAt (i * 3 + 2) (by omega)
      rw [cellsR_at P i 0 (by decide), hp] at a0
      rw [cellsR_at P i 1 (by decide), hp] at a1
      rw [cellsR_at P i 2 (by decide), hp] at a2
      exact ⟨g, 0, p.2, rfl, by rw [Nat.zero_add]; exact a0, by rw [Nat.zero_add]; exact a1, by rw [Nat.zero_add]; exact a2, hi' p (List.mem_of_getElem? hp)⟩
theorem z2Back (hZ : Z2 V0 R b p M xw xf xr Lw Lf P E H F W) (hM : M ≤ 90000) :
    Calls Tryz.prog 18 #[.pointer (some ⟨p, 0, none⟩)] W fun e w' => e = .returned (.bool true) ∧ Hid (R w' ∧ (w'.os = V0.os ∧ w'.tape = V0.tape ∧ w'.output = V0.output ∧ V0.heap.size ≤ w'.heap.size) ∧ ∃ tB, K.Book w' b tB ∧ ∀ g, g < V0.heap.size → tB g = 0) := by
  obtain ⟨tB, tL, tU, m, k, h1, h2, h3, h4⟩ := hZ
  obtain ⟨c0, c1, c2, c3, vs, us, rows, vs2, us2, rows2, k1, k2⟩ := h1.ln
  obtain ⟨e1, e2, e3, e4⟩ := h1.en
  refine (KU.loanBack2 p m k tL tU c0 c1 c2 c3 vs us vs2 us2 rows rows2 W k1 k2 h1.dL (by omega) (by omega)).mono ?_
  rintro e w' ⟨rfl, hs⟩
  refine ⟨rfl, h1.cl W w' h1.r fun g hg => hs.block g (by omega) fun q => ?_, ⟨hs.os.trans e1, hs.tape.trans e2, hs.output.trans e3, Nat.le_trans e4 hs.size⟩, tB, bk_mv h1.bk ⟨hs.os, hs.tape, hs.output, hs.size, fun g hg hx => hs.block g hg fun q => ?_⟩, fun g hg => (h1.low g hg).1⟩
  · obtain ⟨_, q1, q2⟩ := h1.low g hg
    rcases q with q | q
    · exact q q1
    · exact q q2
  · obtain ⟨q1, q2⟩ := (h1.dB g).resolve_left hx
    rcases q with q | q
    · exact q q1
    · exact q q2
end
/-- .. with the problem's box at gx. -/
structure Zx (V0 : World) (R : World → Prop) (b p M : Nat) (xw xf xr : Value) (Lw : List Nat) (Lf : List Int) (P : List (Rl × Value)) (E H : List (Value × List Int)) (gx : Nat) (u : Int) (ba bb bc : Value) (W : World) : Prop where
  z : Z2 V0 R b p M xw xf xr Lw Lf P E H (fun g => g = gx) W
  q : QAt W gx u ba bb bc
section
variable {V0 W W' : World} {R R' : World → Prop} {b p M gx : Nat} {u : Int} {xw xf xr ba bb bc : Value} {Lw : List Nat} {Lf : List Int} {P : List (Rl × Value)} {E H : List (Value × List Int)}
theorem Zx.start (h : Z2 V0 R b p M xw xf xr Lw Lf P E H (fun _ => False) W) (x0 : Int) (x1 x2 x3 : Value) : Zx V0 R b p M xw xf xr Lw Lf P E H W.heap.size x0 x1 x2 x3 (W.alloc (.cells #[.int .i64 x0, x1, x2, x3] 26)) := by
  have hA : Below W.heap.size W (W.alloc (.cells #[.int .i64 x0, x1, x2, x3] 26)) := (Below.refl _ _).alloc (Nat.le_refl _) _
  exact ⟨(h.free hA).less fun g e => .inr (by subst e; exact ⟨Nat.le_refl _, by simp⟩), QAt.block (heap_new W _)⟩
theorem Zx.below (h : Zx V0 R b p M xw xf xr Lw Lf P E H gx u ba bb bc W) (hb : Below W.heap.size W W') : Zx V0 R b p M xw xf xr Lw Lf P E H gx u ba bb bc W' := ⟨h.z.below hb, h.q.of (hb.block gx h.q.lt)⟩
theorem Zx.drop (h : Zx V0 R b p M xw xf xr Lw Lf P E H gx u ba bb bc W) : Zx V0 R b p M xw xf xr Lw Lf P [] [] gx u ba bb bc W := ⟨h.z.drop, h.q⟩
theorem Zx.more (h : Zx V0 R b p M xw xf xr Lw Lf P E H gx u ba bb bc W) {M' : Nat} (hM : M ≤ M') : Zx V0 R b p M' xw xf xr Lw Lf P E H gx u ba bb bc W := ⟨h.z.more hM, h.q⟩
theorem Zx.store {u' : Int} {ba' bb' bc' : Value} (h : Zx V0 R b p M xw xf xr Lw Lf P E H gx u ba bb bc W) {o : Nat} {x : Value} (hq : QAt (W.setCell ⟨gx, o, none⟩ x) gx u' ba' bb' bc') : Zx V0 R b p M xw xf xr Lw Lf P E H gx u' ba' bb' bc' (W.setCell ⟨gx, o, none⟩ x) :=
  ⟨h.z.mv (X := fun g => g = gx) (K.Sm.setCell x rfl) fun _ e _ => e, hq⟩
theorem Zx.setF {v : Value} {l : List Int} (h : Zx V0 R b p M xw xf xr Lw Lf P ((v, l) :: E) H gx u ba bb bc W) : Zx V0 R b p M xw v xr Lw l P E H gx u ba bb bc W := ⟨h.z.setF, h.q⟩
theorem zxInts (hZ : Zx V0 R b p M xw xf xr Lw Lf P E H gx u ba bb bc W) (hM : M ≤ 90000) (lv : Value) (l : List Int) (hr : RowI W lv l) (hl : l.length ≤ 1000) :
    Calls Tryz.prog 9 #[.pointer (some ⟨p, 0, none⟩), lv] W fun e w' => ∃ g cap, e = .returned (.slice (some ⟨g, 0, none⟩) l.length cap) ∧ Hid (Zx V0 R b p (M + 1) xw xf xr Lw Lf P ((.slice (some ⟨g, 0, none⟩) l.length cap, l) :: E) H gx u ba bb bc w') :=
  (z2Ints hZ.z hM lv l hr hl).mono fun _ _ ⟨g, cap, h1, h2, h3⟩ => ⟨g, cap, h1, h2.out, hZ.q.of (h3.out gx hZ.q.lt rfl)⟩
theorem zxRows (hZ : Zx V0 R b p M xw xf xr Lw Lf P E H gx u ba bb bc W) (hM : M ≤ 90000) (lv : Value) (l : List Nat) (hr : RowW W lv l) (hl : l.length ≤ 1000) :
    Calls Tryz.prog 8 #[.pointer (some ⟨p, 0, none⟩), lv] W fun e w' => ∃ g cap, e = .returned (.slice (some ⟨g, 0, none⟩) l.length cap) ∧ Hid (Zx V0 R b p (M + 1) (.slice (some ⟨g, 0, none⟩) l.length cap) xf xr l Lf P E H gx u ba bb bc w') :=
  (z2Rows hZ.z hM lv l hr hl).mono fun _ _ ⟨g, cap, h1, h2, h3⟩ => ⟨g, cap, h1, h2.out, hZ.q.of (h3.out gx hZ.q.lt rfl)⟩
theorem zxApp {o : Oper} {a : Act} {Kp : Act → World → Prop} {Q : Exit → Act → World → Prop} (s x : Operand) (r : Rl) (v : Value) (ho : o.op = .call { callee := .builtin .append, args := #[s, x], argTypes := #[24, 24] })
    (es : a.eval s = xr) (ex : a.eval x = .slice (some ⟨W.heap.size, 0, none⟩) 1 1) (hZ : Zx V0 R b p M xw xf xr Lw Lf P ((v, r.steps) :: E) H gx u ba bb bc W) (hu1 : v.oneCell' = true) (hn : P.length ≤ 1000000)
    (hK : ∀ g2 c2 w', Hid (Zx V0 R b p M xw xf (.slice (some ⟨g2, 0, none⟩) (P.length + 1) c2) Lw Lf (P ++ [(r, v)]) E H gx u ba bb bc w') → Kp (a.put o.dst (.slice (some ⟨g2, 0, none⟩) (P.length + 1) c2)) w') : o.wp Tryz.prog a (W.alloc (.cells #[.int .i64 r.kind, .int .i64 r.k, v] 44)) Kp Q := by
  refine z2App s x r v ho es ex hZ.z hu1 hn fun g2 c2 w' h1 h2 => hK g2 c2 w' ⟨h1.out, hZ.q.of (h2.out.block gx hZ.q.lt fun e => ?_)⟩
  obtain ⟨_, _, _, _, _, _, _, _, h4⟩ := hZ.z
  exact (h4.fr gx rfl).2.2.2.1 e
theorem Zx.put4 (h : Zx V0 R b p M xw xf xr Lw Lf P E H gx u ba bb bc W) (x0 : Int) (x1 x2 x3 : Value) : Zx V0 R b p M xw xf xr Lw Lf P E H gx x0 x1 x2 x3 ((((W.setCell ⟨gx, 0, none⟩ (.int .i64 x0)).setCell ⟨gx, 1, none⟩ x1).setCell ⟨gx, 2, none⟩ x2).setCell ⟨gx, 3, none⟩ x3) :=
  (((h.store (h.q.s0C x0)).store ((h.q.s0C x0).s1 x1)).store (((h.q.s0C x0).s1 x1).s2 x2)).store ((((h.q.s0C x0).s1 x1).s2 x2).s3 x3)
/-- The problem as it reads. -/
theorem Zx.pv {X : Pb} (h : Zx V0 R b p M xw xf xr Lw Lf P E H gx u ba bb bc W) (h1 : X.who = Lw) (h2 : X.fixed = Lf) (h3 : X.rules = P.map Prod.fst) : PbV W X xw xf xr :=
  ⟨by rw [h1]; exact h.z.who, by rw [h2]; exact h.z.fix, by rw [h3]; exact rowR_lent h.z.rules.1 h.z.rules.2⟩
end
end Go.Proofs.YtlijlelejobchaaGreatDoor.S
namespace Go.Proofs.YtlijlelejobchaaGreatDoor.S
open Go.RowKit Go.Shelf
/-- No two rows of steps share a block. -/
def Dvq (E : List (Rl × Value)) : Prop := E.Pairwise fun p r => ∀ g, p.2.ownBlock = some g → r.2.ownBlock ≠ some g
structure Fv (w : World) (P : Pb) (wv fv rv : Value) (gq : Nat) (W : World) (u : Int) (a b c va vb vc : Value) (L1 : List Nat) (L2 : List Int) (E : List (Rl × Value)) : Prop where
  q : Fq w P wv fv rv gq W u a b c va vb vc L1 L2 E
  dv : Dvq E
section
variable {w : World} {P : Pb} {wv fv rv : Value} {gq : Nat} {W W' : World} {u : Int} {a b c a' b' c' va vb vc : Value} {L1 : List Nat} {L2 : List Int} {E : List (Rl × Value)}
theorem Fv.pb (h : Fv w P wv fv rv gq W u a b c va vb vc L1 L2 E) : PbB W w.heap.size P wv fv rv := h.q.pb
theorem Fv.z (h : Fv w P wv fv rv gq W u a b c va vb vc L1 L2 E) : QAt W (w.heap.size + 1) 0 (.slice none 0 0) (.slice none 0 0) (.slice none 0 0) := h.q.z
theorem Fv.qb (h : Fv w P wv fv rv gq W u a b c va vb vc L1 L2 E) : QAt W gq u a b c := h.q.qb
theorem Fv.r1 (h : Fv w P wv fv rv gq W u a b c va vb vc L1 L2 E) : W.ownsRow (w.heap.size + 2) 55 1 va L1.length (cellsW L1) := h.q.r1
theorem Fv.r2 (h : Fv w P wv fv rv gq W u a b c va vb vc L1 L2 E) : W.ownsRow (w.heap.size + 2) 3 1 vb L2.length (cellsI L2) := h.q.r2
theorem Fv.r3 (h : Fv w P wv fv rv gq W u a b c va vb vc L1 L2 E) : TwS (w.heap.size + 2) W vc E := h.q.r3
theorem Fv.dj (h : Fv w P wv fv rv gq W u a b c va vb vc L1 L2 E) : ∀ p ∈ E, ∀ g, vb.ownBlock = some g → p.2.ownBlock ≠ some g := h.q.dj
theorem Fv.ge (h : Fv w P wv fv rv gq W u a b c va vb vc L1 L2 E) : w.heap.size + 2 ≤ gq := h.q.ge
theorem Fv.be (h : Fv w P wv fv rv gq W u a b c va vb vc L1 L2 E) : Below w.heap.size w W := h.q.be
theorem Fv.sz (h : Fv w P wv fv rv gq W u a b c va vb vc L1 L2 E) : w.heap.size + 2 ≤ W.heap.size := h.q.sz
theorem Fv.cells (h : Fv w P wv fv rv gq W u a b c va vb vc L1 L2 E) : W.cell? ⟨w.heap.size, 0, none⟩ = some (.int .i64 P.users) ∧ W.cell? ⟨w.heap.size, 1, none⟩ = some wv ∧ W.cell? ⟨w.heap.size, 2, none⟩ = some fv := h.q.cells
theorem Fv.over (h : Fv w P wv fv rv gq W u a b c va vb vc L1 L2 E) (hb : Below W.heap.size W W') : Fv w P wv fv rv gq W' u a b c va vb vc L1 L2 E := ⟨h.q.over hb, h.dv⟩
theorem Fv.put (h : Fv w P wv fv rv gq W u a b c va vb vc L1 L2 E) {o : Nat} {x : Value} (hq : QAt (W.setCell ⟨gq, o, none⟩ x) gq u a' b' c') : Fv w P wv fv rv gq (W.setCell ⟨gq, o, none⟩ x) u a' b' c' va vb vc L1 L2 E := ⟨h.q.put hq, h.dv⟩
theorem Fv.setW {gw cw : Nat} {a0 : Value} (h : Fv w P wv fv rv gq W u a0 b c (.slice (some ⟨gw, 0, none⟩) L1.length cw) vb vc L1 L2 E) (k z : Nat) : Fv w P wv fv rv gq (W.setCell ⟨gw, k, none⟩ (.int .u64 (z : Int))) u a0 b c (.slice (some ⟨gw, 0, none⟩) L1.length cw) vb vc (L1.set k z) L2 E := ⟨h.q.setW k z, h.dv⟩
theorem Fv.setF {gf cf : Nat} {b0 : Value} (h : Fv w P wv fv rv gq W u a b0 c va (.slice (some ⟨gf, 0, none⟩) L2.length cf) vc L1 L2 E) (k : Nat) (z : Int) : Fv w P wv fv rv gq (W.setCell ⟨gf, k, none⟩ (.int .i64 z)) u a b0 c va (.slice (some ⟨gf, 0, none⟩) L2.length cf) vc L1 (L2.set k z) E := ⟨h.q.setF k z, h.dv⟩
theorem dvq_snoc {p : Rl × Value} (h : Dvq E) (hn : ∀ q ∈ E, ∀ g, q.2.ownBlock = some g → p.2.ownBlock ≠ some g) : Dvq (E ++ [p]) :=
  List.pairwise_append.2 ⟨h, List.pairwise_singleton _ _, fun q hq r hr => by rw [List.mem_singleton] at hr; subst hr; exact hn q hq⟩
theorem Fv.wapp3 {o : Oper} {ac : Act} {Q : Exit → Act → World → Prop} {K : Act → World → Prop} (s x : Operand) (h : Fv w P wv fv rv gq W u a b c va vb vc L1 L2 E) (p : Rl × Value) (hp : W.ownsRow (w.heap.size + 2) 3 1 p.2 p.1.steps.length (cellsI p.1.steps)) (hn2 : ∀ g, vb.ownBlock = some g → p.2.ownBlock ≠ some g) (hn3 : ∀ q ∈ E, ∀ g, q.2.ownBlock = some g → p.2.ownBlock ≠ some g) (ho : o.op = .call { callee := .builtin .append, args := #[s, x], argTypes := #[24, 24] })
    (es : ac.eval s = vc) (ex : ac.eval x = .slice (some ⟨W.heap.size, 0, none⟩) 1 1) (hn : E.length ≤ 1000000)
    (hK : ∀ o5 n5 c5 w2, Fv w P wv fv rv gq w2 u a b c va vb (.slice o5 n5 c5) L1 L2 (E ++ [p]) → K (ac.put o.dst (.slice o5 n5 c5)) w2) : o.wp Tryz.prog ac (W.alloc (.cells #[.int .i64 p.1.kind, .int .i64 p.1.k, p.2] 44)) K Q :=
  Fq.wapp3 s x h.q p hp hn2 ho es ex hn fun o5 n5 c5 w2 hq => hK o5 n5 c5 w2 ⟨hq, dvq_snoc h.dv hn3⟩
end
theorem Fp.closeV {w : World} {P : Pb} {wv fv rv : Value} {V : World} {va vb : Value} {L1 : List Nat} {L2 : List Int} (h : Fp w P wv fv rv V va vb L1 L2) (u : Int) (a b : Value) : Fv w P wv fv rv V.heap.size (V.alloc (.cells #[.int .i64 u, a, b, .slice none 0 0] 26)) u a b (.slice none 0 0) va vb (.slice none 0 0) L1 L2 [] := ⟨h.close u a b, List.Pairwise.nil⟩
theorem Fb.closeV {w : World} {P : Pb} {wv fv rv : Value} {gq : Nat} {V : World} {va vb : Value} {L1 : List Nat} {L2 : List Int} (h : Fb w P wv fv rv gq V va vb L1 L2) (u : Int) (a b : Value) : Fv w P wv fv rv gq ((((V.setCell ⟨gq, 0, none⟩ (.int .i64 u)).setCell ⟨gq, 1, none⟩ a).setCell ⟨gq, 2, none⟩ b).setCell ⟨gq, 3, none⟩ (.slice none 0 0)) u a b (.slice none 0 0) va vb (.slice none 0 0) L1 L2 [] := ⟨h.close u a b, List.Pairwise.nil⟩
/-- All rows of a problem are the call's own, no two in one block. -/
def FvO (w w' : World) (P : Pb) (va vb vc : Value) : Prop :=
  ∃ E, E.map Prod.fst = P.rules ∧ w'.ownsRow w.heap.size 55 1 va P.who.length (cellsW P.who) ∧ w'.ownsRow w.heap.size 3 1 vb P.fixed.length (cellsI P.fixed) ∧ TwS w.heap.size w' vc E ∧ (∀ p ∈ E, ∀ g, vb.ownBlock = some g → p.2.ownBlock ≠ some g) ∧ Dvq E
theorem Fv.fin {w : World} {P : Pb} {wv fv rv : Value} {gq : Nat} {W : World} {u : Int} {a b c va vb vc : Value} {L1 : List Nat} {L2 : List Int} {E : List (Rl × Value)} (h : Fv w P wv fv rv gq W u a b c va vb vc L1 L2 E) (x0 x1 x2 x3 : Value) :
    let W' := (((W.setCell ⟨w.heap.size + 1, 0, none⟩ x0).setCell ⟨w.heap.size + 1, 1, none⟩ x1).setCell ⟨w.heap.size + 1, 2, none⟩ x2).setCell ⟨w.heap.size + 1, 3, none⟩ x3
    PbV W' ⟨u, L1, L2, E.map Prod.fst⟩ va vb vc ∧ Below w.heap.size w W' ∧ (∀ ad n c, va = .slice (some ad) n c → w.heap.size ≤ ad.block) ∧ FvO w W' ⟨u, L1, L2, E.map Prod.fst⟩ va vb vc := by
  intro W'
  have hb : Below w.heap.size W W' := ((((Below.refl _ W).setCell (p := ⟨w.heap.size + 1, 0, none⟩) (Nat.le_succ _) x0).setCell (p := ⟨w.heap.size + 1, 1, none⟩) (Nat.le_succ _) x1).setCell (p := ⟨w.heap.size + 1, 2, none⟩) (Nat.le_succ _) x2).setCell (p := ⟨w.heap.size + 1, 3, none⟩) (Nat.le_succ _) x3
  have s4 : ∀ {B e sz : Nat} {v : Value} {n : Nat} {xs : List Value}, W.ownsRow B e sz v n xs → w.heap.size + 1 < B → W'.ownsRow B e sz v n xs := fun h hB => own_set (own_set (own_set (own_set h hB x0) hB x1) hB x2) hB x3
  refine ⟨⟨RowW.of_owns (s4 h.r1 (by omega)), RowI.of_owns (s4 h.r2 (by omega)), ?_⟩, h.be.trans hb, fun ad n c e => ?_, ⟨E, rfl, own_down (s4 h.r1 (by omega)) (by omega), own_down (s4 h.r2 (by omega)) (by omega), ⟨own_down (s4 h.r3.row (by omega)) (by omega), fun p hp => own_down (s4 (h.r3.inner p hp) (by omega)) (by omega)⟩, h.dj, h.dv⟩⟩
  · have hT : TwS (w.heap.size + 2) W' vc E := ⟨s4 h.r3.row (by omega), fun p hp => s4 (h.r3.inner p hp) (by omega)⟩
    exact hT.rowR
  · have := own_ge' h.r1 (g := ad.block) (by rw [e]; rfl)
    omega
end Go.Proofs.YtlijlelejobchaaGreatDoor.S
namespace Go.Proofs.YtlijlelejobchaaGreatDoor.S
open Go.RowKit Go.Shelf
set_option maxRecDepth 100000 in
set_option maxHeartbeats 1000000 in
theorem rowSC (l : List Int) (v : Value) (w : World) (hr : RowI w v l) :
    Calls Tryz.prog 22 #[v] w fun e w' => ∃ v', e = .returned v' ∧ w'.ownsRow w.heap.size 3 1 v' (l.take 30).length (cellsI (l.take 30)) ∧ Below w.heap.size w w' := by
  obtain ⟨oa, cap, rfl, hcap, hc⟩ := hr
  obtain ⟨i0, hi, hz0, hz1, hz2⟩ := info_parts info3
  have hc' := hide' hc
  clear hc
  go_enter Tryz.func22, Tryz.ntmps22
  by_cases hlong : 30 < l.length
  · obtain ⟨ad, rfl⟩ : ∃ ad, oa = some ad := by
      cases oa with
      | none => have := hcap.2 rfl; omega
      | some ad => exact ⟨ad, rfl⟩
    obtain ⟨g, o, e, _⟩ := hc'.out 0 l[0] (List.getElem?_eq_getElem (by omega))
    cases e
    have hcap1 := hcap.1
    have hnews : ∀ j u, (cellsI (l.take 30))[j]? = some u → w.cell? (Addr.add ⟨g, o, none⟩ j) = some u := fun j u hu => by
      obtain ⟨z, hz, rfl⟩ := cellsI_at hu
      obtain ⟨hj, _⟩ := List.getElem?_eq_some_iff.1 hz
      rw [List.length_take] at hj
      rw [List.getElem?_take_of_lt (by omega)] at hz
      obtain ⟨g', o', e, hcell⟩ := hc'.out j z hz
      cases e
      rw [Addr.add_lit]; exact hcell
    clear hcap
    go_wp2_with (at_builtin; refine wpList_append_own _ rfl _ _ 23 rfl w.heap.size 3 i0 (.int .i64 0) 1 8 Tryz.underlying23 hi hz0 hz1 hz2 rfl (by decide) _ 0 (cellsI []) rfl (owns_zero w _) ⟨g, o, none⟩ 30 cap (cellsI (l.take 30)) rfl (by simp [cellsI]; omega) (fun j u hu => cell_new (hnews j u hu)) (one_cells _) (by unfold maxLen; omega) (by omega) (by simp) ?_; intro v1 w1 hown1 hgrow1 hnil)
    go_ret
    have hown : w1.ownsRow w.heap.size 3 1 v1 (0 + 30) (cellsI (l.take 30)) := hown1
    rw [show 0 + 30 = (l.take 30).length by rw [List.length_take]; omega] at hown
    exact ⟨_, rfl, hown, ((Below.refl _ w).alloc (Nat.le_refl _) _).grown hgrow1 (by simp) (fun j ej => by cases ej; exact Nat.le_refl _)⟩
  · have hle : l.length ≤ 30 := by omega
    rw [List.take_of_length_le hle]
    cases oa with
    | none =>
      obtain ⟨h1, h2⟩ := hcap
      have := h2 rfl
      subst this
      have : l = [] := List.eq_nil_of_length_eq_zero (by omega)
      subst this
      go_wp2_with (at_builtin; refine wpList_append_own_none rfl _ _ 23 rfl w.heap.size 3 i0 1 Tryz.underlying23 hi _ 0 (cellsI []) rfl (owns_zero w _) rfl ?_)
      go_ret
      exact ⟨_, rfl, owns_zero w _, (Below.refl _ w).alloc (Nat.le_refl _) _⟩
    | some ad =>
      have hnews : ∀ j u, (cellsI l)[j]? = some u → w.cell? (ad.add j) = some u := fun j u hu => by
        obtain ⟨z, hz, rfl⟩ := cellsI_at hu
        obtain ⟨g, o, e, hcell⟩ := hc'.out j z hz
        cases e
        rw [Addr.add_lit]; exact hcell
      clear hcap
      go_wp2_with (at_builtin; refine wpList_append_own _ rfl _ _ 23 rfl w.heap.size 3 i0 (.int .i64 0) 1 8 Tryz.underlying23 hi hz0 hz1 hz2 rfl (by decide) _ 0 (cellsI []) rfl (owns_zero w _) ad l.length cap (cellsI l) rfl (by simp [cellsI]) (fun j u hu => cell_new (hnews j u hu)) (one_cells _) (by unfold maxLen; omega) (by omega) (by simp) ?_; intro v1 w1 hown1 hgrow1 hnil)
      go_ret
      have hown : w1.ownsRow w.heap.size 3 1 v1 (0 + l.length) (cellsI l) := hown1
      rw [Nat.zero_add] at hown
      exact ⟨_, rfl, hown, ((Below.refl _ w).alloc (Nat.le_refl _) _).grown hgrow1 (by simp) (fun j ej => by cases ej; exact Nat.le_refl _)⟩
theorem rowFC (l : List Int) (v : Value) (w : World) (hr : RowI w v l) :
    Calls Tryz.prog 22 #[v] w fun e w' => ∃ v', e = .returned v' ∧ RowI w' v' (l.take 30) ∧ Below w.heap.size w w' :=
  (rowSC l v w hr).mono fun _ _ ⟨v', h1, h2, h3⟩ => ⟨v', h1, RowI.of_owns h2, h3⟩
end Go.Proofs.YtlijlelejobchaaGreatDoor.S
