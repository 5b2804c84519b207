/- core.Without. -/
import Derived.Test.YtlijlelejobchaaGreatDoorJ22
import Derived.Test.YtlijlelejobchaaGreatDoorJ26
import Derived.Test.YtlijlelejobchaaGreatDoorJ29
import Derived.Test.YtlijlelejobchaaGreatDoorJ33
import Derived.Shelf.Abstract
namespace Go.Proofs.YtlijlelejobchaaGreatDoor.S
open Go.RowKit Go.Shelf
/-- What was there before the book: nothing has turned but the solver. -/
def Rs (V0 : World) (gs a b c : Nat) (W : World) : Prop := (∀ k, k < V0.heap.size → k ≠ gs → W.heap[k]? = V0.heap[k]?) ∧ GgAt W gs a b c
theorem Rs.cl {V0 : World} {gs a b c : Nat} (hg : gs < V0.heap.size) : ∀ W1 W2 : World, Rs V0 gs a b c W1 → (∀ g, g < V0.heap.size → W2.heap[g]? = W1.heap[g]?) → Rs V0 gs a b c W2 :=
  fun _ _ h e => ⟨fun k hk hn => (e k hk).trans (h.1 k hk hn), h.2.of (e gs hg)⟩
/-- The problem cut and a solver, ahead of the book. -/
structure Sb (V0 : World) (Q : Pb) (qw qf qr : Value) (g gs : Nat) : Prop where
  pb : PbB V0 g Q qw qf qr
  pv : PbV V0 Q qw qf qr
  tab : M.Tab V0
  gg : GgAt V0 gs 0 0 0
  hne : ∀ ad n c, qw = .slice (some ad) n c → ad.block ≠ gs
  hgp : g ≠ gs
  hG : 1 ≤ gs
section
variable {V0 W W' : World} {Q : Pb} {qw qf qr : Value} {g gs a b c a' b' c' bb p mm : Nat} {xw xf xr : Value} {Lw : List Nat} {Lf : List Int} {P : List (Rl × Value)} {E H : List (Value × List Int)} {F : Nat → Prop}
theorem Sb.gl (h : Sb V0 Q qw qf qr g gs) : gs < V0.heap.size := h.gg.lt
theorem Sb.at (h : Sb V0 Q qw qf qr g gs) (hz : Z2 V0 (Rs V0 gs a b c) bb p mm xw xf xr Lw Lf P E H F W) : PbB W g Q qw qf qr ∧ PbV W Q qw qf qr ∧ M.Tab W := by
  obtain ⟨e1, e2, e3, e4⟩ := hz.en
  have hf : M.Fr2 V0 W gs gs := ⟨e1, e2, e3, e4, fun k hk h1 _ => hz.r.1 k hk h1⟩
  exact ⟨(hf.block g (Array.getElem?_eq_some_iff.1 h.pb).1 h.hgp h.hgp).trans h.pb, pbV_frame h.pv h.gg h.hne hf, tab_frame h.tab h.hG hf⟩
theorem Z2.low (hz : Z2 V0 (Rs V0 gs a b c) bb p mm xw xf xr Lw Lf P E H F W) : ∀ ad n c, xw = .slice (some ad) n c → V0.heap.size ≤ ad.block := fun ad n c e => by
  obtain ⟨tB, tL, tU, m, k, h1, _, _, h4⟩ := hz
  have h10 := h4.wt ad.block (by rw [e]; rfl)
  rcases Nat.lt_or_ge ad.block V0.heap.size with q | q
  · have := (h1.low _ q).2.2; omega
  · exact q
/-- A rule of the problem cut. -/
theorem Sb.rule {or : Option Addr} {nr cr : Nat} (h : Sb V0 Q qw qf (.slice or nr cr) g gs) {i : Nat} {r : Rl} (hr : Q.rules[i]? = some r) : ∃ g3 o3 sv, or = some ⟨g3, o3, none⟩ ∧ ∀ (a b c mm : Nat) (xw xf xr : Value) (Lw : List Nat) (Lf : List Int) (PP : List (Rl × Value)) (E H : List (Value × List Int)) (F : Nat → Prop) (W : World), Z2 V0 (Rs V0 gs a b c) bb p mm xw xf xr Lw Lf PP E H F W →
    W.cell? ⟨g3, o3 + i * 3, none⟩ = some (.int .i64 r.kind) ∧ W.cell? ⟨g3, o3 + i * 3 + 1, none⟩ = some (.int .i64 r.k) ∧ W.cell? ⟨g3, o3 + i * 3 + 2, none⟩ = some sv ∧ RowI W sv r.steps := by
  obtain ⟨oa, cap, e, e0, hc⟩ := h.pv.rules
  injection e with e1 _ _
  subst e1
  obtain ⟨g3, o3, sv, rfl, e2, e3, e4, e5⟩ := hc i r hr
  refine ⟨g3, o3, sv, rfl, fun a b c mm xw xf xr Lw Lf PP E H F W hz => ?_⟩
  have hne : g3 ≠ gs := fun q => by rw [q] at e2; exact h.gg.kind e2
  have h1 := hz.r.1 g3 (cell_lt e2) hne
  refine ⟨?_, ?_, ?_, rowI_frame e5 h.gg fun k hk hn => hz.r.1 k hk hn⟩ <;> (simp only [World.cell?] at e2 e3 e4 ⊢; rw [h1]; assumption)
/-- A call of the solver. -/
theorem Z2.solv (h : Sb V0 Q qw qf qr g gs) (hz : Z2 V0 (Rs V0 gs a b c) bb p mm xw xf xr Lw Lf P E H F W) (hf : M.Fr2 W W' gs gs) (hg : GgAt W' gs a' b' c') : Z2 V0 (Rs V0 gs a' b' c') bb p mm xw xf xr Lw Lf P E H (fun g => F g ∨ (W.heap.size ≤ g ∧ g < W'.heap.size)) W' := by
  have hgl := h.gl
  obtain ⟨_, _, _, e4⟩ := hz.en
  refine hz.base hf.os hf.tape hf.output hf.size (fun k h1 h2 => hf.block k h2 (by omega) (by omega)) ⟨fun k hk hn => (hf.block k (by omega) hn hn).trans (hz.r.1 k hk hn), hg⟩ (Rs.cl hgl)
end
/-- A problem that was told: its rows are one's own; of the first i rules the steps are in the book, the kinds written over. -/
def kinds (kk : Int) (E : List (Rl × Value)) (i : Nat) : List (Rl × Value) := (E.take i).map (fun q => (⟨kk, q.1.k, q.1.steps⟩, q.2)) ++ E.drop i
theorem kinds_len (kk : Int) (E : List (Rl × Value)) (i : Nat) : (kinds kk E i).length = E.length := by
  unfold kinds
  rw [List.length_append, List.length_map, List.length_take, List.length_drop]
  omega
theorem kinds_at {kk : Int} {E : List (Rl × Value)} {i : Nat} {q : Rl × Value} (h : E[i]? = some q) : (kinds kk E i)[i]? = some q := by
  obtain ⟨hl, _⟩ := List.getElem?_eq_some_iff.1 h
  unfold kinds
  have e : ((E.take i).map (fun q : Rl × Value => ((⟨kk, q.1.k, q.1.steps⟩ : Rl), q.2))).length = i := by rw [List.length_map, List.length_take]; omega
  rw [List.getElem?_append_right (by omega), e, Nat.sub_self, List.getElem?_drop, Nat.add_zero, h]
theorem kinds_succ {kk : Int} {E : List (Rl × Value)} {i : Nat} {q : Rl × Value} (h : E[i]? = some q) : cellsR (kinds kk E (i + 1)) = (cellsR (kinds kk E i)).set (i * 3) (.int .i64 kk) := by
  obtain ⟨hl, hq⟩ := List.getElem?_eq_some_iff.1 h
  have e : ((E.take i).map (fun q : Rl × Value => ((⟨kk, q.1.k, q.1.steps⟩ : Rl), q.2))).length = i := by rw [List.length_map, List.length_take]; omega
  have e1 : E.drop i = q :: E.drop (i + 1) := by rw [List.drop_eq_getElem_cons hl, hq]
  unfold kinds
  rw [e1, cellsR_app, cellsR_app, List.take_add_one, h, List.map_append, cellsR_app]
  rw [List.set_append_right _ _ (by rw [cellsR_len, e]; exact Nat.le_refl _), cellsR_len, e, Nat.sub_self]
  simp [cellsR, rcells]
structure Yk (kk : Int) (V0 : World) (R : World → Prop) (b p M : Nat) (xw xf xr : Value) (Lw : List Nat) (Lf : List Int) (P : List (Rl × Value)) (gx gy : Nat) (B n : Nat) (va vc : Value) (xs : List Value) (E : List (Rl × Value)) (i : Nat) (W : World) : Prop where
  z : Z2 V0 R b p M xw xf xr Lw Lf P [] [] (fun g => g = gx ∨ g = gy ∨ va.ownBlock = some g ∨ vc.ownBlock = some g ∨ ∃ q ∈ E.drop i, q.2.ownBlock = some g) W
  wr : W.ownsRow B 55 1 va n xs
  rr : W.ownsRow B 44 3 vc E.length (cellsR (kinds kk E i))
  ir : ∀ q ∈ E.drop i, W.ownsRow B 3 1 q.2 q.1.steps.length (cellsI q.1.steps)
section
variable {kk : Int} {V0 W W' : World} {R : World → Prop} {b p M gx gy B n i : Nat} {xw xf xr va vc : Value} {Lw : List Nat} {Lf : List Int} {P E : List (Rl × Value)} {xs : List Value} {u v : Int} {x1 x2 x3 y1 y2 y3 : Value}
theorem kind_ne {e1 e2 s1 s2 B1 B2 n1 n2 : Nat} {v1 v2 : Value} {c1 c2 : List Value} (h1 : W.ownsRow B1 e1 s1 v1 n1 c1) (h2 : W.ownsRow B2 e2 s2 v2 n2 c2) (hne : e1 ≠ e2) {g : Nat} (hg : v1.ownBlock = some g) : v2.ownBlock ≠ some g := fun q => by
  obtain ⟨c1, f1, q1⟩ := Go.Lib.ownsRow_kind h1 g hg
  obtain ⟨c2, f2, q2⟩ := Go.Lib.ownsRow_kind h2 g q
  rw [q1] at q2
  injection q2 with q2
  injection q2 with _ q2
  exact hne q2
theorem Yk.below (h : Yk kk V0 R b p M xw xf xr Lw Lf P gx gy B n va vc xs E i W) (hb : Below W.heap.size W W') : Yk kk V0 R b p M xw xf xr Lw Lf P gx gy B n va vc xs E i W' :=
  ⟨h.z.below hb, own_below h.wr hb (Nat.le_refl _), own_below h.rr hb (Nat.le_refl _), fun q hq => own_below (h.ir q hq) hb (Nat.le_refl _)⟩
/-- The steps of a rule into the book. -/
theorem yBook (h : Yk kk V0 R b p M xw xf xr Lw Lf P gx gy B n va vc xs E i W) (hx : QAt W gx u x1 x2 x3) (hy : QAt W gy v y1 y2 y3) (hd : Dvq E) {q : Rl × Value} (hq : E[i]? = some q) (hl : q.1.steps.length ≤ 1000000) :
    Calls Tryz.prog 11 #[.pointer (some ⟨b, 0, none⟩), q.2] W fun e w' => e = .returned (.tuple #[]) ∧ Hid (Z2 V0 R b p M xw xf xr Lw Lf P [] [] (fun g => g = gx ∨ g = gy ∨ va.ownBlock = some g ∨ vc.ownBlock = some g ∨ ∃ q ∈ E.drop (i + 1), q.2.ownBlock = some g) w') ∧ Hid (w'.ownsRow B 55 1 va n xs ∧ w'.ownsRow B 44 3 vc E.length (cellsR (kinds kk E i)) ∧ (∀ q ∈ E.drop (i + 1), w'.ownsRow B 3 1 q.2 q.1.steps.length (cellsI q.1.steps)) ∧ QAt w' gx u x1 x2 x3 ∧ QAt w' gy v y1 y2 y3) := by
  obtain ⟨hil, hqe⟩ := List.getElem?_eq_some_iff.1 hq
  have e1 : E.drop i = q :: E.drop (i + 1) := by rw [List.drop_eq_getElem_cons hil, hqe]
  have hmem : q ∈ E.drop i := by rw [e1]; exact List.mem_cons_self
  have hsub : ∀ r ∈ E.drop (i + 1), r ∈ E.drop i := fun r hr => by rw [e1]; exact List.mem_cons_of_mem _ hr
  have hqr := h.ir q hmem
  have hdr : ∀ r ∈ E.drop (i + 1), ∀ g, q.2.ownBlock = some g → r.2.ownBlock ≠ some g := by
    have hp : (E.drop i).Pairwise fun p r => ∀ g, p.2.ownBlock = some g → r.2.ownBlock ≠ some g := List.Pairwise.sublist (List.drop_sublist i E) hd
    rw [e1] at hp
    exact (List.pairwise_cons.1 hp).1
  have nva : ∀ g, va.ownBlock = some g → q.2.ownBlock ≠ some g := fun g e => kind_ne h.wr hqr (by decide) e
  have nvc : ∀ g, vc.ownBlock = some g → q.2.ownBlock ≠ some g := fun g e => kind_ne h.rr hqr (by decide) e
  have ngx : q.2.ownBlock ≠ some gx := fun e => own_ne_q hqr hx (by decide) e rfl
  have ngy : q.2.ownBlock ≠ some gy := fun e => own_ne_q hqr hy (by decide) e rfl
  refine (z2Book h.z q.2 _ B q.1.steps hqr hl fun g e => .inr (.inr (.inr (.inr ⟨q, hmem, e⟩)))).mono ?_
  rintro e w' ⟨rfl, hz, hf⟩
  refine ⟨rfl, hz.out.drop.less fun g hg => ⟨?_, ?_⟩, ⟨own_same h.wr fun g hg e => hf.out g hg (.inr (.inr (.inl e))) (nva g e), own_same h.rr fun g hg e => hf.out g hg (.inr (.inr (.inr (.inl e)))) (nvc g e), fun r hr => own_same (h.ir r (hsub r hr)) fun g hg e => hf.out g hg (.inr (.inr (.inr (.inr ⟨r, hsub r hr, e⟩)))) fun e2 => hdr r hr g e2 e, hx.of (hf.out gx hx.lt (.inl rfl) ngx), hy.of (hf.out gy hy.lt (.inr (.inl rfl)) ngy)⟩⟩
  · rcases hg with q | q | q | q | ⟨r, hr, q⟩
    · exact .inl q
    · exact .inr (.inl q)
    · exact .inr (.inr (.inl q))
    · exact .inr (.inr (.inr (.inl q)))
    · exact .inr (.inr (.inr (.inr ⟨r, hsub r hr, q⟩)))
  · rcases hg with q | q | q | q | ⟨r, hr, q⟩
    · subst q; exact ngx
    · subst q; exact ngy
    · exact nva g q
    · exact nvc g q
    · exact fun e2 => hdr r hr g e2 q
/-- A rule's kind written over. -/
theorem yKind {gc cc : Nat} (hz : Z2 V0 R b p M xw xf xr Lw Lf P [] [] (fun g => g = gx ∨ g = gy ∨ va.ownBlock = some g ∨ (Value.slice (some ⟨gc, 0, none⟩) E.length cc).ownBlock = some g ∨ ∃ q ∈ E.drop (i + 1), q.2.ownBlock = some g) W) (h1 : W.ownsRow B 55 1 va n xs) (h2 : W.ownsRow B 44 3 (.slice (some ⟨gc, 0, none⟩) E.length cc) E.length (cellsR (kinds kk E i))) (h3 : ∀ q ∈ E.drop (i + 1), W.ownsRow B 3 1 q.2 q.1.steps.length (cellsI q.1.steps)) (hx : QAt W gx u x1 x2 x3) (hy : QAt W gy v y1 y2 y3) {q : Rl × Value} (hq : E[i]? = some q) :
    Yk kk V0 R b p M xw xf xr Lw Lf P gx gy B n va (.slice (some ⟨gc, 0, none⟩) E.length cc) xs E (i + 1) (W.setCell ⟨gc, i * 3, none⟩ (.int .i64 kk)) ∧ QAt (W.setCell ⟨gc, i * 3, none⟩ (.int .i64 kk)) gx u x1 x2 x3 ∧ QAt (W.setCell ⟨gc, i * 3, none⟩ (.int .i64 kk)) gy v y1 y2 y3 := by
  have hst := h2.stored (i * 3) (.int .i64 kk)
  have hb : ∀ g, g ≠ gc → (W.setCell ⟨gc, i * 3, none⟩ (.int .i64 kk)).heap[g]? = W.heap[g]? := fun g e => Below.heap_setCell _ _ _ _ e
  refine ⟨⟨hz.mv (X := fun g => g = gc) (K.Sm.setCell _ rfl) (fun g e _ => .inr (.inr (.inr (.inl (by subst e; rfl))))), own_same h1 fun g _ e => hb g fun q => ?_, ?_, fun r hr => own_same (h3 r hr) fun g _ e => hb g fun q => ?_⟩, hx.of (hb gx fun q => ?_), hy.of (hb gy fun q => ?_)⟩
  · subst q; exact kind_ne h1 h2 (by decide) e rfl
  · rw [kinds_succ hq]; exact hst.1
  · subst q; exact kind_ne (h3 r hr) h2 (by decide) e rfl
  · subst q; exact own_ne_q h2 hx (by decide) (g := gx) rfl rfl
  · subst q; exact own_ne_q h2 hy (by decide) (g := gy) rfl rfl
/-- A word written over. -/
theorem yWord {gw cw k : Nat} {x : Value} (h : Yk kk V0 R b p M xw xf xr Lw Lf P gx gy B n (.slice (some ⟨gw, 0, none⟩) n cw) vc xs E i W) (hx : QAt W gx u x1 x2 x3) (hy : QAt W gy v y1 y2 y3) :
    Yk kk V0 R b p M xw xf xr Lw Lf P gx gy B n (.slice (some ⟨gw, 0, none⟩) n cw) vc (xs.set k x) E i (W.setCell ⟨gw, k, none⟩ x) ∧ QAt (W.setCell ⟨gw, k, none⟩ x) gx u x1 x2 x3 ∧ QAt (W.setCell ⟨gw, k, none⟩ x) gy v y1 y2 y3 := by
  have hst := h.wr.stored k x
  have hb : ∀ g, g ≠ gw → (W.setCell ⟨gw, k, none⟩ x).heap[g]? = W.heap[g]? := fun g e => Below.heap_setCell _ _ _ _ e
  refine ⟨⟨h.z.mv (X := fun g => g = gw) (K.Sm.setCell _ rfl) (fun g e _ => .inr (.inr (.inl (by subst e; rfl)))), hst.1, own_same h.rr fun g _ e => hb g fun q => ?_, fun r hr => own_same (h.ir r hr) fun g _ e => hb g fun q => ?_⟩, hx.of (hb gx fun q => ?_), hy.of (hb gy fun q => ?_)⟩
  · subst q; exact kind_ne h.rr h.wr (by decide) e rfl
  · subst q; exact kind_ne (h.ir r hr) h.wr (by decide) e rfl
  · subst q; exact own_ne_q h.wr hx (by decide) (g := gx) rfl rfl
  · subst q; exact own_ne_q h.wr hy (by decide) (g := gy) rfl rfl
end
theorem famNilU2 (w : World) (tag : Nat → Nat) (t : Nat) (c : Nat → Nat) (rows : Nat → List Int) : KU.Fam w tag t c (.slice none 0 0) 0 [] rows :=
  ⟨World.ownsRow_nil _ _ _ _, fun g e => by simp [Value.ownBlock] at e, fun j v h => by simp at h, fun j v g h => by simp at h⟩
/-- The book first, then the loan. -/
theorem Z2.start (V0 : World) (R : World → Prop) (hr : R V0) (hcl : ∀ W1 W2 : World, R W1 → (∀ g, g < V0.heap.size → W2.heap[g]? = W1.heap[g]?) → R W2) : Z2 V0 R V0.heap.size (V0.heap.size + 1) 0 (.slice none 0 0) (.slice none 0 0) (.slice none 0 0) [] [] [] [] [] (fun _ => False) ((V0.alloc (.cells #[.slice none 0 0, .slice none 0 0, .slice none 0 0, .slice none 0 0, .slice none 0 0, .slice none 0 0, .slice none 0 0, .slice none 0 0, .slice none 0 0, .slice none 0 0, .slice none 0 0, .slice none 0 0, .int .i64 0] 36)).alloc (.cells #[.slice none 0 0, .slice none 0 0, .slice none 0 0, .slice none 0 0] 40)) := by
  have hb := K.Book.start V0
  generalize hA : V0.alloc (.cells #[.slice none 0 0, .slice none 0 0, .slice none 0 0, .slice none 0 0, .slice none 0 0, .slice none 0 0, .slice none 0 0, .slice none 0 0, .slice none 0 0, .slice none 0 0, .slice none 0 0, .slice none 0 0, .int .i64 0] 36) = A at *
  have zA : A.heap.size = V0.heap.size + 1 := by rw [← hA]; simp
  have BA : Below V0.heap.size V0 A := by rw [← hA]; exact (Below.refl _ _).alloc (Nat.le_refl _) _
  have B1 : Below A.heap.size A (A.alloc (.cells #[.slice none 0 0, .slice none 0 0, .slice none 0 0, .slice none 0 0] 40)) := (Below.refl _ _).alloc (Nat.le_refl _) _
  have hbx := heap_new A (.cells #[.slice none 0 0, .slice none 0 0, .slice none 0 0, .slice none 0 0] 40)
  rw [zA] at hbx
  have hB2 : Below V0.heap.size V0 (A.alloc (.cells #[.slice none 0 0, .slice none 0 0, .slice none 0 0, .slice none 0 0] 40)) := BA.trans (B1.mono (by omega))
  have hsz : (A.alloc (.cells #[.slice none 0 0, .slice none 0 0, .slice none 0 0, .slice none 0 0] 40)).heap.size = V0.heap.size + 2 := by simp [zA]
  have hO : Os V0 R V0.heap.size (V0.heap.size + 1) (fun g => if g = V0.heap.size then 1 else 0) (fun g => if g = V0.heap.size + 1 then 1 else 0) (fun g => if g = V0.heap.size + 1 then 1 else 0) 0 0 (A.alloc (.cells #[.slice none 0 0, .slice none 0 0, .slice none 0 0, .slice none 0 0] 40)) := by
    refine ⟨⟨hB2.os, hB2.tape, hB2.output, hB2.size⟩, hcl _ _ hr fun g hg => hB2.block g hg, hcl, K.Book.below hb B1, ⟨.slice none 0 0, .slice none 0 0, .slice none 0 0, .slice none 0 0, [], [], fun _ => [], [], [], fun _ => [], ⟨hbx, if_pos rfl, K.famNil _ _ _ _ _, K.famNil _ _ _ _ _, fun g hg => if_neg (by omega), fun j hj => by omega⟩, ⟨hbx, if_pos rfl, famNilU2 _ _ _ _ _, famNilU2 _ _ _ _ _, fun g hg => if_neg (by omega), fun j hj => by omega⟩⟩, fun g => ?_, fun g hg => .inl (if_neg hg), fun g hg => ⟨if_neg (by omega), if_neg (by omega), if_neg (by omega)⟩⟩
    by_cases e : g = V0.heap.size
    · exact .inr ⟨if_neg (by omega), if_neg (by omega)⟩
    · exact .inl (if_neg e)
  exact ⟨_, _, _, 0, 0, hO, Nat.le_refl _, Nat.le_refl _, World.ownsRow_nil _ _ _ _, fun g e => by simp [Value.ownBlock] at e, (fun q hq => by cases hq), ⟨none, 0, rfl, ⟨Nat.le_refl _, fun _ => rfl⟩, fun i z hz => by cases hz⟩, (fun g e => by simp [Value.ownBlock] at e), ⟨none, 0, rfl, ⟨Nat.le_refl _, fun _ => rfl⟩, fun i z hz => by cases hz⟩, (fun g e => by simp [Value.ownBlock] at e), (fun q hq => by cases hq), (fun q hq => by cases hq), fun g hg => hg.elim⟩
/-- At the end nothing that was there at first has turned. -/
theorem Rs.fin {w V0 w6 w7 : World} {gs a b c : Nat} {tB : Nat → Nat} (hb : Below w.heap.size w V0) (hR : Rs V0 gs a b c w6) (en : w6.os = V0.os ∧ w6.tape = V0.tape ∧ w6.output = V0.output ∧ V0.heap.size ≤ w6.heap.size) (hlow : ∀ g, g < V0.heap.size → tB g = 0) (hs : K.Sm (· ≠ 0) tB w6 w7) (hg : w.heap.size ≤ gs) : Below w.heap.size w w7 := by
  obtain ⟨e1, e2, e3, e4⟩ := en
  have h1 := hb.size
  refine ⟨(hs.os.trans e1).trans hb.os, (hs.tape.trans e2).trans hb.tape, (hs.output.trans e3).trans hb.output, Nat.le_trans h1 (Nat.le_trans e4 hs.size), fun k hk => ?_⟩
  have h2 : k < V0.heap.size := by omega
  exact (hs.block k (by omega) (fun q => q (hlow k h2))).trans ((hR.1 k h2 (by omega)).trans (hb.block k hk))
end Go.Proofs.YtlijlelejobchaaGreatDoor.S
namespace Go.Proofs.YtlijlelejobchaaGreatDoor.S
open Go.RowKit Go.Shelf
/-- A plan that was told. -/
structure Lq (l : List Int) : Prop where
  len : l.length ≤ 1000
  wf : ∀ z ∈ l, (Lit.int .i64 z).wf = true
theorem lq_nil : Lq [] := ⟨Nat.zero_le _, fun z hz => by cases hz⟩
section
variable {V0 W : World} {R : World → Prop} {Q : Pb} {qw qf qr : Value} {g gs a b c bb p mm gx : Nat} {u : Int} {xw xf xr ba bc bd : Value} {Lw : List Nat} {Lf : List Int} {PP : List (Rl × Value)} {E H : List (Value × List Int)} {F : Nat → Prop} {l : List Int} {v : Value}
theorem Zx.hi (h : Zx V0 R bb p mm xw xf xr Lw Lf PP E H gx u ba bc bd W) : V0.heap.size ≤ gx := by
  obtain ⟨_, _, _, _, _, _, _, _, h4⟩ := h.z
  exact (h4.fr gx rfl).2.2.2.2.1
theorem Z2.dropE (h : Z2 V0 R bb p mm xw xf xr Lw Lf PP E H F W) : Z2 V0 R bb p mm xw xf xr Lw Lf PP [] H F W := by
  obtain ⟨tB, tL, tU, m, k, h1, h2, h3, h4⟩ := h
  exact ⟨tB, tL, tU, m, k, h1, h2, h3, h4.row, h4.un, h4.inn, h4.w, h4.wt, h4.f, h4.ft, (fun q hq => by cases hq), h4.h, h4.fr⟩
theorem Zx.dropE (h : Zx V0 R bb p mm xw xf xr Lw Lf PP E H gx u ba bc bd W) : Zx V0 R bb p mm xw xf xr Lw Lf PP [] H gx u ba bc bd W := ⟨h.z.dropE, h.q⟩
theorem xBook {B : Nat} (hz : Z2 V0 R bb p mm xw xf xr Lw Lf PP E [] (fun g => g = gx ∨ (B ≤ g ∧ g < W.heap.size)) W) (hq : QAt W gx u ba bc bd) (hv : W.ownsRow B 3 1 v l.length (cellsI l)) (hl : l.length ≤ 1000) :
    Calls Tryz.prog 11 #[.pointer (some ⟨bb, 0, none⟩), v] W fun e w' => e = .returned (.tuple #[]) ∧ Hid (Zx V0 R bb p mm xw xf xr Lw Lf PP E [(v, l)] gx u ba bc bd w') := by
  have hne : v.ownBlock ≠ some gx := fun e => own_ne_q hv hq (by decide) e rfl
  exact (z2Book hz v _ B l hv (by omega) fun g e => .inr ⟨own_ge' hv e, own_lt' hv e⟩).mono fun e w' ⟨h1, h2, h3⟩ => ⟨h1, h2.out.less (fun g e => by subst e; exact ⟨.inl rfl, hne⟩), hq.of (h3.out gx hq.lt (.inl rfl) hne)⟩
/-- A problem of one's own: its rows from B on. -/
def FvB (B : Nat) (W : World) (P : Pb) (va vb vc : Value) : Prop :=
  ∃ E, E.map Prod.fst = P.rules ∧ W.ownsRow B 55 1 va P.who.length (cellsW P.who) ∧ W.ownsRow B 3 1 vb P.fixed.length (cellsI P.fixed) ∧ TwS B W vc E ∧ (∀ p ∈ E, ∀ g, vb.ownBlock = some g → p.2.ownBlock ≠ some g) ∧ Dvq E
theorem FvB.mv {B : Nat} {W W' : World} {P : Pb} {va vb vc : Value} (h : FvB B W P va vb vc) (hs : ∀ g, g < W.heap.size → ∀ (e sz n : Nat) (v : Value) (xs : List Value), W.ownsRow B e sz v n xs → v.ownBlock = some g → e ≠ 26 → W'.heap[g]? = W.heap[g]?) : FvB B W' P va vb vc := by
  obtain ⟨E, h1, h2, h3, h4, h5, h6⟩ := h
  exact ⟨E, h1, own_same h2 fun g hg e => hs g hg _ _ _ _ _ h2 e (by decide), own_same h3 fun g hg e => hs g hg _ _ _ _ _ h3 e (by decide), ⟨own_same h4.row fun g hg e => hs g hg _ _ _ _ _ h4.row e (by decide), fun p hp => own_same (h4.inner p hp) fun g hg e => hs g hg _ _ _ _ _ (h4.inner p hp) e (by decide)⟩, h5, h6⟩
/-- What stands behind Fix: the answer's box at gy. -/
def Yz (V0 : World) (R : World → Prop) (bb p mm : Nat) (xw xf xr : Value) (Lw : List Nat) (Lf : List Int) (PP : List (Rl × Value)) (gx gy : Nat) (u : Int) (ba bc bd : Value) (Y : Pb) (n : Nat) (va vb vc : Value) (W : World) : Prop :=
  ∃ B, Z2 V0 R bb p mm xw xf xr Lw Lf PP [] [] (fun g => g = gx ∨ g = gy ∨ (B ≤ g ∧ g < W.heap.size)) W ∧ QAt W gx u ba bc bd ∧ QAt W gy Y.users va vb vc ∧ (n = 0 → FvB B W Y va vb vc)
theorem Yz.x {Y : Pb} {n gy : Nat} {va vb vc : Value} (h : Yz V0 R bb p mm xw xf xr Lw Lf PP gx gy u ba bc bd Y n va vb vc W) : Zx V0 R bb p mm xw xf xr Lw Lf PP [] [] gx u ba bc bd W := by
  obtain ⟨B, h1, h2, _⟩ := h
  exact ⟨h1.less fun g e => .inl e, h2⟩
/-- The answer's Fixed into the book. -/
theorem yStart (kk : Int) {Y : Pb} {gy : Nat} {va vb vc : Value} (h : Yz V0 R bb p mm xw xf xr Lw Lf PP gx gy u ba bc bd Y 0 va vb vc W) (hl : Y.fixed.length ≤ 1000) :
    ∃ B E, E.map Prod.fst = Y.rules ∧ Dvq E ∧ Calls Tryz.prog 11 #[.pointer (some ⟨bb, 0, none⟩), vb] W fun e w' => e = .returned (.tuple #[]) ∧ Hid (Yk kk V0 R bb p mm xw xf xr Lw Lf PP gx gy B Y.who.length va vc (cellsW Y.who) E 0 w') ∧ Hid (QAt w' gx u ba bc bd) ∧ Hid (QAt w' gy Y.users va vb vc) := by
  obtain ⟨B, h1, h2, h3, h4⟩ := h
  obtain ⟨E, e1, e2, e3, e4, e5, e6⟩ := h4 rfl
  have nx : ∀ {e sz n : Nat} {v : Value} {xs : List Value}, W.ownsRow B e sz v n xs → ∀ g, v.ownBlock = some g → B ≤ g ∧ g < W.heap.size := fun h g e => ⟨own_ge' h e, own_lt' h e⟩
  have nva : ∀ g, va.ownBlock = some g → vb.ownBlock ≠ some g := fun g e => kind_ne e2 e3 (by decide) e
  have nvc : ∀ g, vc.ownBlock = some g → vb.ownBlock ≠ some g := fun g e => kind_ne e4.row e3 (by decide) e
  have ngx : vb.ownBlock ≠ some gx := fun e => own_ne_q e3 h2 (by decide) e rfl
  have ngy : vb.ownBlock ≠ some gy := fun e => own_ne_q e3 h3 (by decide) e rfl
  refine ⟨B, E, e1, e6, (z2Book h1 vb _ B Y.fixed e3 (by omega) fun g e => .inr (.inr (nx e3 g e))).mono ?_⟩
  rintro e w' ⟨rfl, hz, hf⟩
  have k0 : kinds kk E 0 = E := by simp [kinds]
  refine ⟨rfl, ⟨hz.out.drop.less fun g e => ?_, own_same e2 fun g hg e => hf.out g hg (.inr (.inr (nx e2 g e))) (nva g e), by rw [k0]; exact own_same e4.row fun g hg e => hf.out g hg (.inr (.inr (nx e4.row g e))) (nvc g e), fun q hq => ?_⟩, h2.of (hf.out gx h2.lt (.inl rfl) ngx), h3.of (hf.out gy h3.lt (.inr (.inl rfl)) ngy)⟩
  · rcases e with e | e | e | e | ⟨q, hq, e⟩
    · subst e; exact ⟨.inl rfl, ngx⟩
    · subst e; exact ⟨.inr (.inl rfl), ngy⟩
    · exact ⟨.inr (.inr (nx e2 g e)), nva g e⟩
    · exact ⟨.inr (.inr (nx e4.row g e)), nvc g e⟩
    · rw [List.drop_zero] at hq
      exact ⟨.inr (.inr (nx (e4.inner q hq) g e)), fun r => e5 q hq g r e⟩
  · rw [List.drop_zero] at hq
    exact own_same (e4.inner q hq) fun g hg e => hf.out g hg (.inr (.inr (nx (e4.inner q hq) g e))) fun r => e5 q hq g r e
theorem Yz.qy {Y : Pb} {n gy : Nat} {va vb vc : Value} (h : Yz V0 R bb p mm xw xf xr Lw Lf PP gx gy u ba bc bd Y n va vb vc W) : QAt W gy Y.users va vb vc := by
  obtain ⟨B, _, _, h3, _⟩ := h
  exact h3
theorem yCell {kk : Int} {gy B n i : Nat} {va vc : Value} {xs : List Value} {E : List (Rl × Value)} {q : Rl × Value} (h : Yk kk V0 R bb p mm xw xf xr Lw Lf PP gx gy B n va vc xs E i W) (hq : E[i]? = some q) : ∃ gc cc, vc = .slice (some ⟨gc, 0, none⟩) E.length cc ∧ W.cell? ⟨gc, i * 3 + 2, none⟩ = some q.2 := by
  have hi := (List.getElem?_eq_some_iff.1 hq).1
  have hr := h.rr
  rcases hr.2 with ⟨rfl, h0⟩ | ⟨g, cap, cur, rfl, _, _, hcap, _⟩
  · omega
  · have a2 := hr.cellAt (i * 3 + 2) (by omega)
    rw [cellsR_at _ i 2 (by decide), kinds_at hq] at a2
    exact ⟨g, cap, rfl, a2⟩
theorem yFrz {kk : Int} {W : World} {B gc cc i : Nat} {E : List (Rl × Value)} {q : Rl × Value} (hr : W.ownsRow B 44 3 (.slice (some ⟨gc, 0, none⟩) E.length cc) E.length (cellsR (kinds kk E i))) (hq : E[i]? = some q) : W.cell? ⟨gc, i * 3, none⟩ = some (.int .i64 q.1.kind) ∧ W.frozen? ⟨gc, i * 3, none⟩ = false := by
  have hi := (List.getElem?_eq_some_iff.1 hq).1
  have a0 := hr.cellAt (i * 3 + 0) (by omega)
  rw [cellsR_at _ i 0 (by decide), kinds_at hq] at a0
  exact ⟨a0, hr.frozenAt _⟩
theorem wCell {kk : Int} {gy B n i k : Nat} {va vc : Value} {xs : List Value} {E : List (Rl × Value)} (h : Yk kk V0 R bb p mm xw xf xr Lw Lf PP gx gy B n va vc xs E i W) (hk : k < n) : ∃ gw cw x, va = .slice (some ⟨gw, 0, none⟩) n cw ∧ W.cell? ⟨gw, k, none⟩ = some x ∧ W.frozen? ⟨gw, k, none⟩ = false := by
  have hr := h.wr
  have hl := hr.1
  rcases hr.2 with ⟨rfl, h0⟩ | ⟨g, cap, cur, rfl, _, _, hcap, _⟩
  · omega
  · have a2 := hr.cellAt k (by omega)
    rw [List.getElem?_eq_getElem (by omega)] at a2
    exact ⟨g, cap, _, rfl, a2, hr.frozenAt _⟩
theorem Yk.x {kk : Int} {gy B n i : Nat} {va vc : Value} {xs : List Value} {E : List (Rl × Value)} (h : Yk kk V0 R bb p mm xw xf xr Lw Lf PP gx gy B n va vc xs E i W) (hx : QAt W gx u ba bc bd) : Zx V0 R bb p mm xw xf xr Lw Lf PP [] [] gx u ba bc bd W :=
  ⟨h.z.less fun _ e => .inl e, hx⟩
end
end Go.Proofs.YtlijlelejobchaaGreatDoor.S
namespace Go.Proofs.YtlijlelejobchaaGreatDoor.S
open Go.RowKit Go.Shelf
/-- A row, written over where it is chosen, so far. -/
def sprW {α : Type} (fs : Nat → Bool) (x : α) (L : List α) : Nat → List α
  | 0 => L
  | j + 1 => if fs j = true then (sprW fs x L j).set j x else sprW fs x L j
theorem sprW_len {α : Type} (fs : Nat → Bool) (x : α) (L : List α) (j : Nat) : (sprW fs x L j).length = L.length := by
  induction j with
  | zero => rfl
  | succ j ih => unfold sprW; split <;> simp [ih]
theorem sprW_at {α : Type} (fs : Nat → Bool) (x : α) (L : List α) (j t : Nat) (ht : t < L.length) : (sprW fs x L j)[t]? = if t < j ∧ fs t = true then some x else L[t]? := by
  induction j with
  | zero => rw [if_neg (by omega)]; rfl
  | succ j ih =>
    unfold sprW
    by_cases hf : fs j = true
    · rw [if_pos hf, List.getElem?_set]
      by_cases e : j = t
      · subst e
        rw [if_pos rfl, if_pos (by rw [sprW_len]; exact ht), if_pos ⟨by omega, hf⟩]
      · rw [if_neg e, ih]
        by_cases q : t < j ∧ fs t = true
        · rw [if_pos q, if_pos ⟨by omega, q.2⟩]
        · rw [if_neg q, if_neg (fun r => q ⟨by omega, r.2⟩)]
    · rw [if_neg hf, ih]
      by_cases q : t < j ∧ fs t = true
      · rw [if_pos q, if_pos ⟨by omega, q.2⟩]
      · rw [if_neg q, if_neg (fun r => q ⟨(by have : t ≠ j := fun e => hf (by rw [← e]; exact r.2); omega), r.2⟩)]
/-- The rules that are left, so far. -/
def sprR (fr : Nat → Bool) (R : List Rl) : Nat → List Rl
  | 0 => []
  | k + 1 => sprR fr R k ++ (if fr k = true then [] else (R[k]?).toList)
theorem sprR_mem {fr : Nat → Bool} {R : List Rl} {r : Rl} : ∀ {k : Nat}, r ∈ sprR fr R k ↔ ∃ i, i < k ∧ fr i = false ∧ R[i]? = some r
  | 0 => ⟨(fun h => by cases h), (fun ⟨i, h, _⟩ => by omega)⟩
  | k + 1 => by
    unfold sprR
    rw [List.mem_append, sprR_mem]
    constructor
    · rintro (⟨i, h1, h2, h3⟩ | h)
      · exact ⟨i, by omega, h2, h3⟩
      · split at h
        · cases h
        · rename_i hf
          exact ⟨k, by omega, (by cases q : fr k; rfl; exact absurd q hf), by simpa using h⟩
    · rintro ⟨i, h1, h2, h3⟩
      by_cases e : i = k
      · subst e
        refine .inr ?_
        rw [if_neg (by rw [h2]; decide), h3]
        simp
      · exact .inl ⟨i, by omega, h2, h3⟩
theorem sprR_len (fr : Nat → Bool) (R : List Rl) (k : Nat) : (sprR fr R k).length ≤ k := by
  induction k with
  | zero => exact Nat.le_refl _
  | succ k ih =>
    unfold sprR
    rw [List.length_append]
    split
    · simp; omega
    · cases R[k]? <;> simp <;> omega
/-- All users. -/
def allW (u : Int) : Nat := 2 ^ u.toNat - 1
def spP (P : Pb) (fr fs : Nat → Bool) : Pb := ⟨P.users, sprW fs (allW P.users) P.who P.who.length, sprW fs (-1) P.fixed P.who.length, sprR fr P.rules P.rules.length⟩
theorem spP_wlen (P : Pb) (fr fs : Nat → Bool) : (spP P fr fs).who.length = P.who.length := sprW_len _ _ _ _
theorem spP_flen (P : Pb) (fr fs : Nat → Bool) : (spP P fr fs).fixed.length = P.fixed.length := sprW_len _ _ _ _
theorem mem_sprW {α : Type} {fs : Nat → Bool} {x y : α} {L : List α} {j : Nat} (h : y ∈ sprW fs x L j) : y = x ∨ y ∈ L := by
  obtain ⟨t, ht⟩ := List.getElem?_of_mem h
  have hl := (List.getElem?_eq_some_iff.1 ht).1
  rw [sprW_len] at hl
  rw [sprW_at _ _ _ _ _ hl] at ht
  split at ht
  · injection ht with e; exact .inl e.symm
  · exact .inr (List.mem_of_getElem? ht)
theorem spP_chk {P : Pb} (h : chkN P = 0) (fr fs : Nat → Bool) : chkN (spP P fr fs) = 0 := by
  obtain ⟨g12, g0, g64, g32, gF, gW, gR⟩ := chkN_zero h
  have hp : 0 < 2 ^ P.users.toNat := Nat.pow_pos (by decide)
  refine chkN_ok ?_ ?_
  · rw [spP_wlen]
    have := sprR_len fr P.rules P.rules.length
    show ¬ (12 < P.who.length ∨ 64 < P.users ∨ 32 < (sprR fr P.rules P.rules.length).length)
    omega
  · rintro (q | q | q | q)
    · have q' : P.users < 0 := q
      omega
    · unfold fixB at q gF
      rw [Bool.and_eq_true] at gF
      rw [Bool.and_eq_false_iff] at q
      rcases q with q | q
      · rw [List.all_eq_false] at q
        obtain ⟨x, h1, h2⟩ := q
        rcases mem_sprW h1 with e | e
        · rw [e] at h2; simp at h2
        · exact h2 (List.all_eq_true.1 gF.1 x e)
      · rw [spP_flen, spP_wlen, gF.2] at q
        cases q
    · unfold whoB at q gW
      rw [List.all_eq_false] at q
      obtain ⟨x, h1, h2⟩ := q
      rcases mem_sprW h1 with e | e
      · refine h2 ?_
        rw [e]
        unfold outU
        exact decide_eq_true (Nat.div_eq_of_lt (by show 2 ^ P.users.toNat - 1 < 2 ^ P.users.toNat; omega))
      · exact h2 (List.all_eq_true.1 gW x e)
    · unfold rulB at q gR
      rw [List.all_eq_false] at q
      obtain ⟨r, h1, h2⟩ := q
      obtain ⟨i, _, _, h3⟩ := sprR_mem.1 h1
      have := List.all_eq_true.1 gR r (List.mem_of_getElem? h3)
      rw [spP_wlen] at h2
      exact h2 this
theorem spP_ok {P : Pb} (hk : Pok P) (hU : P.users ≤ 64) (fr fs : Nat → Bool) : Pok (spP P fr fs) := by
  refine ⟨by rw [spP_wlen]; exact hk.w, by rw [spP_flen]; exact hk.f, ?_, fun r hr => ?_, fun z hz => ?_⟩
  · have := sprR_len fr P.rules P.rules.length
    have := hk.r
    show (sprR fr P.rules P.rules.length).length ≤ _
    omega
  · obtain ⟨i, _, _, h3⟩ := sprR_mem.1 hr
    exact hk.s r (List.mem_of_getElem? h3)
  · rcases mem_sprW hz with e | e
    · rw [e]
      have h1 : (2 : Nat) ^ P.users.toNat ≤ 2 ^ 64 := Nat.pow_le_pow_right (by decide) (by omega)
      have h2 : 0 < 2 ^ P.users.toNat := Nat.pow_pos (by decide)
      show 2 ^ P.users.toNat - 1 < 18446744073709551616
      omega
    · exact hk.b z e
/-- Whoever may do a step, may where it is spared. -/
theorem spP_may {P : Pb} (h : chkN P = 0) (fr fs : Nat → Bool) {t : Nat} (ht : t < P.who.length) : mayP (spP P fr fs) t = if fs t = true then allW P.users else mayP P t := by
  obtain ⟨g12, g0, g64, g32, gF, gW, gR⟩ := chkN_zero h
  obtain ⟨gl, _⟩ := fixB_of gF g64
  have h1 := sprW_at fs (allW P.users) P.who P.who.length t ht
  have h2 := sprW_at fs (-1) P.fixed P.who.length t (by omega)
  unfold mayP
  show (if (sprW fs (-1) P.fixed P.who.length).getD t (-1) = -1 then (sprW fs (allW P.users) P.who P.who.length).getD t 0 else 2 ^ ((sprW fs (-1) P.fixed P.who.length).getD t 0).toNat) = _
  simp only [List.getD_eq_getElem?_getD, h1, h2]
  by_cases q : fs t = true
  · simp [ht, q]
  · simp [q]
theorem all_test {u x : Int} (h0 : 0 ≤ x) (h1 : x < u) : (allW u).testBit x.toNat = true := by
  unfold allW
  rw [Nat.testBit_two_pow_sub_one]
  exact decide_eq_true (by omega)
/-- What is a plan stays one where more is spared. -/
theorem spP_mono {P : Pb} (h : chkN P = 0) {fr fs fr' fs' : Nat → Bool} (hr : ∀ i, i < P.rules.length → fr i = true → fr' i = true) (hs : ∀ t, t < P.who.length → fs t = true → fs' t = true) {L : List Int} (hL : holP (spP P fr fs) L = true) : holP (spP P fr' fs') L = true := by
  obtain ⟨_, h2, h3, h4⟩ := holP_of hL
  rw [spP_wlen] at h2
  refine holP_mk (spP_chk h fr' fs') (by rw [spP_wlen]; exact h2) (fun t x hx => ?_) (fun r hr' => ?_)
  · have ht : t < P.who.length := by rw [← h2]; exact (List.getElem?_eq_some_iff.1 hx).1
    have := h3 t x hx
    unfold okU at this ⊢
    rw [Bool.and_eq_true, spP_may h fr fs ht] at this
    have hu : isU (spP P fr' fs') x = true := this.1
    rw [Bool.and_eq_true, spP_may h fr' fs' ht]
    refine ⟨hu, ?_⟩
    unfold isU at hu
    rw [Bool.and_eq_true] at hu
    by_cases q : fs' t = true
    · rw [if_pos q]
      exact all_test (of_decide_eq_true hu.1) (of_decide_eq_true hu.2)
    · have q' : ¬ fs t = true := fun e => q (hs t ht e)
      have h5 := this.2
      rw [if_neg q'] at h5
      rw [if_neg q]
      exact h5
  · obtain ⟨i, a1, a2, a3⟩ := sprR_mem.1 hr'
    refine h4 r (sprR_mem.2 ⟨i, a1, ?_, a3⟩)
    cases q : fr i with
    | false => rfl
    | true => rw [hr i a1 q] at a2; cases a2
/-- Is there no plan? -/
noncomputable def stk (P : Pb) (fr fs : Nat → Bool) : Bool := !canB (spP P fr fs)
theorem stk_mono {P : Pb} (h : chkN P = 0) {fr fs fr' fs' : Nat → Bool} (hr : ∀ i, i < P.rules.length → fr i = true → fr' i = true) (hs : ∀ t, t < P.who.length → fs t = true → fs' t = true) (hb : stk P fr' fs' = true) : stk P fr fs = true := by
  unfold stk at hb ⊢
  cases q : canB (spP P fr fs) with
  | false => rfl
  | true =>
    obtain ⟨L, hL⟩ := (canB_iff _).1 q
    have := (canB_iff _).2 ⟨L, spP_mono h hr hs hL⟩
    rw [this] at hb
    cases hb
theorem stk_congr {P : Pb} (h : chkN P = 0) {fr fs fr' fs' : Nat → Bool} (hr : ∀ i, i < P.rules.length → fr i = fr' i) (hs : ∀ t, t < P.who.length → fs t = fs' t) : stk P fr fs = stk P fr' fs' := by
  rw [Bool.eq_iff_iff]
  exact ⟨stk_mono h (fun i hi e => by rw [hr i hi]; exact e) (fun t ht e => by rw [hs t ht]; exact e), stk_mono h (fun i hi e => by rw [← hr i hi]; exact e) (fun t ht e => by rw [← hs t ht]; exact e)⟩
/-- Those ahead of a place that are not kept. -/
def sprd (K : List Nat) (hi : Nat) : Nat → Bool := fun i => decide (i < hi) && !K.contains i
/-- One after the other. -/
noncomputable def grd (F : (Nat → Bool) → Bool) : List Nat → Nat → Nat → List Nat
  | K, _, 0 => K
  | K, f, d + 1 => grd F (if F (sprd K (f + 1)) = true then K else K ++ [f]) (f + 1) d
theorem grd_add (F : (Nat → Bool) → Bool) : ∀ (a b : Nat) (K : List Nat) (f : Nat), grd F K f (a + b) = grd F (grd F K f a) (f + a) b
  | 0, b, K, f => by rw [Nat.zero_add]; rfl
  | a + 1, b, K, f => by
    rw [show a + 1 + b = (a + b) + 1 by omega]
    show grd F _ (f + 1) (a + b) = grd F (grd F _ (f + 1) a) (f + (a + 1)) b
    rw [grd_add F a b, show f + 1 + a = f + (a + 1) by omega]
/-- The more is spared, the less likely there is no plan. -/
def Anti (F : (Nat → Bool) → Bool) : Prop := ∀ f g : Nat → Bool, (∀ i, f i = true → g i = true) → F g = true → F f = true
theorem sprd_le (K : List Nat) {a b : Nat} (h : a ≤ b) (i : Nat) (hi : sprd K a i = true) : sprd K b i = true := by
  unfold sprd at hi ⊢
  rw [Bool.and_eq_true] at hi ⊢
  exact ⟨decide_eq_true (by have := of_decide_eq_true hi.1; omega), hi.2⟩
/-- Where all can be spared together, each can. -/
theorem grd_all {F : (Nat → Bool) → Bool} (hF : Anti F) : ∀ (d : Nat) (K : List Nat) (f : Nat), F (sprd K (f + d)) = true → grd F K f d = K
  | 0, _, _, _ => rfl
  | d + 1, K, f, h => by
    have h1 : F (sprd K (f + 1)) = true := hF _ _ (sprd_le K (by omega)) h
    show grd F (if F (sprd K (f + 1)) = true then K else K ++ [f]) (f + 1) d = K
    rw [if_pos h1]
    exact grd_all hF d K (f + 1) (by rw [show f + 1 + d = f + (d + 1) by omega]; exact h)
theorem grd_one (F : (Nat → Bool) → Bool) (K : List Nat) (f : Nat) (h : F (sprd K (f + 1)) = false) : grd F K f 1 = K ++ [f] := by
  show (if F (sprd K (f + 1)) = true then K else K ++ [f]) = K ++ [f]
  rw [if_neg (by rw [h]; decide)]
/-- What is kept of those ahead. -/
structure Kpt (F : (Nat → Bool) → Bool) (K : List Nat) (f : Nat) : Prop where
  lt : ∀ i ∈ K, i < f
  ok : F (sprd K f) = true
  need : ∀ i ∈ K, ∃ K0, (∀ k ∈ K0, k < i) ∧ (∀ k ∈ K, k < i → k ∈ K0) ∧ F (sprd K0 (i + 1)) = false
  rise : K.Pairwise (· < ·)
theorem Kpt.start {F : (Nat → Bool) → Bool} (h : F (sprd [] 0) = true) : Kpt F [] 0 := ⟨fun i hi => (by cases hi), h, fun i hi => (by cases hi), List.Pairwise.nil⟩
theorem Kpt.grd {F : (Nat → Bool) → Bool} (hF : Anti F) : ∀ (d : Nat) {K : List Nat} {f : Nat}, Kpt F K f → Kpt F (grd F K f d) (f + d)
  | 0, _, _, h => h
  | d + 1, K, f, h => by
    show Kpt F (Go.Proofs.YtlijlelejobchaaGreatDoor.S.grd F (if F (sprd K (f + 1)) = true then K else K ++ [f]) (f + 1) d) (f + (d + 1))
    rw [show f + (d + 1) = f + 1 + d by omega]
    refine Kpt.grd hF d ?_
    by_cases q : F (sprd K (f + 1)) = true
    · rw [if_pos q]
      exact ⟨fun i hi => by have := h.lt i hi; omega, q, h.need, h.rise⟩
    · rw [if_neg q]
      have q' : F (sprd K (f + 1)) = false := by cases e : F (sprd K (f + 1)); rfl; exact absurd e q
      refine ⟨fun i hi => ?_, ?_, fun i hi => ?_, ?_⟩
      · rcases List.mem_append.1 hi with e | e
        · have := h.lt i e; omega
        · rw [List.mem_singleton] at e; omega
      · refine hF _ _ (fun i hi => ?_) h.ok
        unfold sprd at hi ⊢
        rw [Bool.and_eq_true] at hi ⊢
        have h1 := of_decide_eq_true hi.1
        have h2 : i ∉ K ++ [f] := by simpa using hi.2
        have h3 : i ≠ f := fun e => h2 (by rw [e]; simp)
        refine ⟨decide_eq_true (by omega), ?_⟩
        have h4 : i ∉ K := fun e => h2 (List.mem_append_left _ e)
        simpa using h4
      · rcases List.mem_append.1 hi with e | e
        · obtain ⟨K0, a1, a2, a3⟩ := h.need i e
          have := h.lt i e
          refine ⟨K0, a1, fun k hk hlt => ?_, a3⟩
          rcases List.mem_append.1 hk with e2 | e2
          · exact a2 k e2 hlt
          · rw [List.mem_singleton] at e2; omega
        · rw [List.mem_singleton] at e
          subst e
          exact ⟨K, h.lt, fun k hk hlt => (by rcases List.mem_append.1 hk with e2 | e2; exact e2; rw [List.mem_singleton] at e2; omega), q'⟩
      · refine List.pairwise_append.2 ⟨h.rise, List.pairwise_singleton _ _, fun a ha b hb => ?_⟩
        rw [List.mem_singleton] at hb
        rw [hb]; exact h.lt a ha
end Go.Proofs.YtlijlelejobchaaGreatDoor.S
namespace Go.Proofs.YtlijlelejobchaaGreatDoor.S
open Go.RowKit Go.Shelf
set_option maxRecDepth 100000 in
set_option maxHeartbeats 1000000 in
theorem everyF (P : Pb) (wv fv rv : Value) (w : World) (h : PbS P wv fv rv) (h0 : 0 ≤ P.users) (h1 : P.users ≤ 64) :
    Calls Tryz.prog 76 #[pbV P wv fv rv] w fun e w' => e = .returned (.int .u64 (allW P.users : Int)) ∧ Below w.heap.size w w' := by
  obtain ⟨ow, cw, of, cf, or, cr, rfl, rfl, rfl⟩ := h
  unfold pbV allW
  obtain ⟨U, hU⟩ := Int.eq_ofNat_of_zero_le h0
  rw [hU] at h1 ⊢
  rw [Int.toNat_natCast]
  clear h0 hU
  by_cases h64 : U = 64
  · subst h64
    go_enter Tryz.func76, Tryz.ntmps76
    go_wp2
    go_ret
    exact ⟨rfl, (Below.refl _ w).alloc (Nat.le_refl _) _⟩
  · have hlt : U < 64 := by omega
    have hlt' : (U : Int) < 64 := by omega
    have hp : 0 < 2 ^ U := Nat.pow_pos (by decide)
    have hq : 2 ^ U < 18446744073709551616 := Nat.lt_of_lt_of_le (Nat.pow_lt_pow_right (by decide) hlt) (Nat.le_refl (2 ^ 64))
    have e : Hid (IntKind.u64.wrap (IntKind.u64.wrap ((2 : Int) ^ U) - 1) = ((2 ^ U - 1 : Nat) : Int)) := by
      unfold Hid
      rw [IntKind.wrap_u64, IntKind.wrap_u64, show ((2 : Int) ^ U) = ((2 ^ U : Nat) : Int) by push_cast; rfl]
      omega
    clear h64 h1
    go_enter Tryz.func76, Tryz.ntmps76
    go_wp2
    go_ret
    exact ⟨congrArg (fun z => Ending.returned (Value.int .u64 z)) e.out, (Below.refl _ w).alloc (Nat.le_refl _) _⟩
set_option maxRecDepth 100000 in
set_option maxHeartbeats 1000000 in
theorem nothingF (i : Int) (w : World) : Calls Tryz.prog 48 #[.int .i64 i] w fun e w' => e = .returned (.bool false) ∧ Below w.heap.size w w' := by
  go_enter Tryz.func48, Tryz.ntmps48
  go_wp2
  go_ret
  exact ⟨rfl, Below.refl _ _⟩
/-- A choice: what it says of a place, in any world above. -/
structure Chs (V : World) (fk : Nat) (cs : Array Value) (p : Nat → Bool) : Prop where
  en : ∀ args w, (callFunc fk args).run Tryz.prog w = .ok (.enter fk args) w
  say : ∀ (W : World) (i : Nat), Below V.heap.size V W → i ≤ 1000 → Calls Tryz.prog fk (#[.int .i64 (i : Int)] ++ cs) W fun e w' => e = .returned (.bool (p i)) ∧ Below W.heap.size W w'
theorem ent_nothing : ∀ args w, (callFunc 48 args).run Tryz.prog w = .ok (.enter 48 args) w := enters_of Tryz.func48 (by kernel_rfl) rfl
theorem ent_beside : ∀ args w, (callFunc 77 args).run Tryz.prog w = .ok (.enter 77 args) w := enters_of Tryz.func77 (by kernel_rfl) rfl
theorem ent_spared : ∀ args w, (callFunc 74 args).run Tryz.prog w = .ok (.enter 74 args) w := enters_of Tryz.func74 (by kernel_rfl) rfl
theorem Chs.over {V V' : World} {fk : Nat} {cs : Array Value} {p : Nat → Bool} (h : Chs V fk cs p) (hb : Below V.heap.size V V') : Chs V' fk cs p := ⟨h.en, fun W i hW hi => h.say W i (hb.trans (hW.mono hb.size)) hi⟩
theorem nothing_chs (V : World) : Chs V 48 #[] (fun _ => false) := ⟨ent_nothing, fun W i _ _ => nothingF (i : Int) W⟩
/-- Numbers as they are told. -/
def cntI (K : List Nat) : Nat → Bool := fun i => K.contains i
theorem mem_ints {K : List Nat} {i : Nat} : decide ((i : Int) ∈ ints K) = K.contains i := by
  rw [Bool.eq_iff_iff, decide_eq_true_iff]
  unfold ints
  simp
  exact ⟨(fun ⟨a, h, e⟩ => by obtain rfl : a = i := (by omega); exact h), (fun h => ⟨i, h, rfl⟩)⟩
set_option maxRecDepth 100000 in
set_option maxHeartbeats 1000000 in
theorem besideF1 (K : List Nat) (v : Value) (g : Nat) (i : Nat) (w : World) (hc : w.cell? ⟨g, 0, none⟩ = some v) (hr : RowI w v (ints K)) (hl : K.length ≤ 1000) :
    Calls Tryz.prog 77 #[.int .i64 (i : Int), .pointer (some ⟨g, 0, none⟩)] w fun e w' => e = .returned (.bool (!K.contains i)) ∧ Below w.heap.size w w' := by
  have KC := hide' (containsI (ints K) v (i : Int) w hr (by rw [ints_len]; omega))
  obtain ⟨oa, cap, rfl, _, _⟩ := hr
  rw [← mem_ints]
  generalize decide ((i : Int) ∈ ints K) = b at *
  go_enter Tryz.func77, Tryz.ntmps77
  go_wp2_with fail
  refine KC.out.mono ?_
  rintro e w1 ⟨rfl, hb1⟩
  go_wp2
  go_ret
  exact ⟨rfl, hb1⟩
/-- beside's choice. -/
theorem beside_chs {K : List Nat} {v : Value} {g : Nat} {V : World} (hc : V.cell? ⟨g, 0, none⟩ = some v) (hr : RowI V v (ints K)) (hl : K.length ≤ 1000) : Chs V 77 #[.pointer (some ⟨g, 0, none⟩)] (fun i => !K.contains i) := ⟨ent_beside, fun W i hW _ => besideF1 K v g i W (M.cell_over hc hW) (hr.below hW (Nat.le_refl _)) hl⟩
set_option maxRecDepth 100000 in
set_option maxHeartbeats 1000000 in
theorem besideF (K : List Nat) (v : Value) (w : World) (hr : RowI w v (ints K)) (hl : K.length ≤ 1000) :
    Calls Tryz.prog 50 #[v] w fun e w' => ∃ g, e = .returned (.func (.func 77) #[] #[.pointer (some ⟨g, 0, none⟩)]) ∧ Hid (Chs w' 77 #[.pointer (some ⟨g, 0, none⟩)] (fun i => !K.contains i)) ∧ Hid (Below w.heap.size w w') := by
  have hB : Hid (Below w.heap.size w (w.alloc (.cells #[v] 23))) := (Below.refl _ w).alloc (Nat.le_refl _) _
  have hc : Hid ((w.alloc (.cells #[v] 23)).cell? ⟨w.heap.size, 0, none⟩ = some v) := by
    show _ = _
    simp only [World.cell?]
    rw [heap_new w (.cells #[v] 23)]
    rfl
  have hC := hide' (beside_chs hc.out (hr.below hB.out (Nat.le_refl _)) hl)
  obtain ⟨oa, cap, rfl, _, _⟩ := hr
  clear hc
  go_enter Tryz.func50, Tryz.ntmps50
  go_wp2
  go_ret
  exact ⟨_, rfl, hC, hB⟩
set_option maxRecDepth 100000 in
set_option maxHeartbeats 1000000 in
theorem amongF1 (L : List Int) (v : Value) (g : Nat) (i : Nat) (w : World) (hc : w.cell? ⟨g, 0, none⟩ = some v) (hr : RowI w v L) (hl : L.length ≤ 1000) :
    Calls Tryz.prog 80 #[.int .i64 (i : Int), .pointer (some ⟨g, 0, none⟩)] w fun e w' => e = .returned (.bool (decide ((i : Int) ∈ L))) ∧ Below w.heap.size w w' := by
  have KC := hide' (containsI L v (i : Int) w hr (by omega))
  obtain ⟨oa, cap, rfl, _, _⟩ := hr
  generalize decide ((i : Int) ∈ L) = b at *
  go_enter Tryz.func80, Tryz.ntmps80
  go_wp2_with fail
  refine KC.out.mono ?_
  rintro e w1 ⟨rfl, hb1⟩
  go_wp2
  go_ret
  exact ⟨rfl, hb1⟩
set_option maxRecDepth 100000 in
set_option maxHeartbeats 1000000 in
theorem amongF (L : List Int) (v : Value) (w : World) (hr : RowI w v L) (hl : L.length ≤ 1000) :
    Calls Tryz.prog 52 #[v] w fun e w' => ∃ g, e = .returned (.func (.func 80) #[] #[.pointer (some ⟨g, 0, none⟩)]) ∧ Hid (Chs w' 80 #[.pointer (some ⟨g, 0, none⟩)] (fun i => decide ((i : Int) ∈ L))) ∧ Hid (Below w.heap.size w w') := by
  have hB : Hid (Below w.heap.size w (w.alloc (.cells #[v] 23))) := (Below.refl _ w).alloc (Nat.le_refl _) _
  have hc : Hid ((w.alloc (.cells #[v] 23)).cell? ⟨w.heap.size, 0, none⟩ = some v) := by
    show _ = _
    simp only [World.cell?]
    rw [heap_new w (.cells #[v] 23)]
    rfl
  have hC : Hid (Chs (w.alloc (.cells #[v] 23)) 80 #[.pointer (some ⟨w.heap.size, 0, none⟩)] (fun i => decide ((i : Int) ∈ L))) := ⟨enters_of Tryz.func80 (by kernel_rfl) rfl, fun W i hW _ => amongF1 L v w.heap.size i W (M.cell_over hc.out hW) ((hr.below hB.out (Nat.le_refl _)).below hW (Nat.le_refl _)) hl⟩
  obtain ⟨oa, cap, rfl, _, _⟩ := hr
  clear hc
  go_enter Tryz.func52, Tryz.ntmps52
  go_wp2
  go_ret
  exact ⟨_, rfl, hC, hB⟩
set_option maxRecDepth 100000 in
set_option maxHeartbeats 1000000 in
theorem sparedF1 (K : List Nat) (v : Value) (gt gk hi i : Nat) (w : World) (hc : w.cell? ⟨gt, 0, none⟩ = some (.int .i64 (hi : Int))) (hk : w.cell? ⟨gk, 0, none⟩ = some v) (hr : RowI w v (ints K)) (hl : K.length ≤ 1000) :
    Calls Tryz.prog 74 #[.int .i64 (i : Int), .pointer (some ⟨gt, 0, none⟩), .pointer (some ⟨gk, 0, none⟩)] w fun e w' => e = .returned (.bool (sprd K hi i)) ∧ Below w.heap.size w w' := by
  have KC := hide' (containsI (ints K) v (i : Int) w hr (by rw [ints_len]; omega))
  obtain ⟨oa, cap, rfl, _, _⟩ := hr
  unfold sprd
  rw [mem_ints] at KC
  generalize K.contains i = b at *
  by_cases hlt : i < hi
  · have hlt' : (i : Int) < (hi : Int) := by omega
    rw [decide_eq_true hlt, Bool.true_and]
    go_enter Tryz.func74, Tryz.ntmps74
    go_wp2_with fail
    refine KC.out.mono ?_
    rintro e w1 ⟨rfl, hb1⟩
    go_wp2
    go_ret
    exact ⟨rfl, hb1⟩
  · have hlt' : ¬ (i : Int) < (hi : Int) := by omega
    rw [decide_eq_false hlt, Bool.false_and]
    clear KC
    go_enter Tryz.func74, Tryz.ntmps74
    go_wp2
    go_ret
    exact ⟨rfl, Below.refl _ _⟩
theorem spared_chs {K : List Nat} {v : Value} {gt gk hi : Nat} {V : World} (hc : V.cell? ⟨gt, 0, none⟩ = some (.int .i64 (hi : Int))) (hk : V.cell? ⟨gk, 0, none⟩ = some v) (hr : RowI V v (ints K)) (hl : K.length ≤ 1000) : Chs V 74 #[.pointer (some ⟨gt, 0, none⟩), .pointer (some ⟨gk, 0, none⟩)] (sprd K hi) := ⟨ent_spared, fun W i hW _ => sparedF1 K v gt gk hi i W (M.cell_over hc hW) (M.cell_over hk hW) (hr.below hW (Nat.le_refl _)) hl⟩
end Go.Proofs.YtlijlelejobchaaGreatDoor.S
namespace Go.Proofs.YtlijlelejobchaaGreatDoor.S
open Go.RowKit Go.Shelf
/-- A box of one value. -/
def Bo (W : World) (g : Nat) (v : Value) : Prop := ∃ T, W.heap[g]? = some (.cells #[v] T (0, 0))
section
variable {W W' : World} {g : Nat} {v : Value}
theorem Bo.lt (h : Bo W g v) : g < W.heap.size := by obtain ⟨T, h⟩ := h; exact (Array.getElem?_eq_some_iff.1 h).1
theorem Bo.c (h : Bo W g v) : W.cell? ⟨g, 0, none⟩ = some v := by obtain ⟨T, h⟩ := h; simp [World.cell?, h]
theorem Bo.fz (h : Bo W g v) : W.frozen? ⟨g, 0, none⟩ = false := by obtain ⟨T, h⟩ := h; simp [World.frozen?, h]
theorem Bo.of (h : Bo W g v) (e : W'.heap[g]? = W.heap[g]?) : Bo W' g v := by obtain ⟨T, h⟩ := h; exact ⟨T, e.trans h⟩
theorem Bo.over (h : Bo W g v) (hb : Below W.heap.size W W') : Bo W' g v := h.of (hb.block g h.lt)
theorem Bo.new (W : World) (v : Value) (T : TypeId) : Bo (W.alloc (.cells #[v] T)) W.heap.size v := ⟨T, World.alloc_heap_new W _⟩
theorem Bo.set (h : Bo W g v) (u : Value) : Bo (W.setCell ⟨g, 0, none⟩ u) g u := by
  obtain ⟨T, h⟩ := h
  exact ⟨T, heap_setCell_same W g 0 #[v] T u h⟩
end
def ruW (k1 k2 : Int) (u : Value) : Nat → Value := fun i => if i = 0 then .int .i64 k1 else if i = 1 then .int .i64 k2 else u
theorem Fq.fin {w : World} {P : Pb} {wv fv rv : Value} {gq : Nat} {W : World} {u : Int} {a b c va vb vc : Value} {L1 : List Nat} {L2 : List Int} {E : List (Rl × Value)} (h : Fq w P wv fv rv gq W u a b c va vb vc L1 L2 E) (x0 x1 x2 x3 : Value) :
    let W' := (((W.setCell ⟨w.heap.size + 1, 0, none⟩ x0).setCell ⟨w.heap.size + 1, 1, none⟩ x1).setCell ⟨w.heap.size + 1, 2, none⟩ x2).setCell ⟨w.heap.size + 1, 3, none⟩ x3
    PbV W' ⟨u, L1, L2, E.map Prod.fst⟩ va vb vc ∧ Below w.heap.size w W' ∧ (∀ ad n c, va = .slice (some ad) n c → w.heap.size ≤ ad.block) ∧ (∀ W2 : World, (∀ k, w.heap.size ≤ k → k < W'.heap.size → W2.heap[k]? = W'.heap[k]?) → PbV W2 ⟨u, L1, L2, E.map Prod.fst⟩ va vb vc) := by
  intro W'
  have hb : Below w.heap.size W W' := ((((Below.refl _ W).setCell (p := ⟨w.heap.size + 1, 0, none⟩) (Nat.le_succ _) x0).setCell (p := ⟨w.heap.size + 1, 1, none⟩) (Nat.le_succ _) x1).setCell (p := ⟨w.heap.size + 1, 2, none⟩) (Nat.le_succ _) x2).setCell (p := ⟨w.heap.size + 1, 3, none⟩) (Nat.le_succ _) x3
  have s4 : ∀ {B e sz : Nat} {v : Value} {n : Nat} {xs : List Value}, W.ownsRow B e sz v n xs → w.heap.size + 1 < B → W'.ownsRow B e sz v n xs := fun h hB => own_set (own_set (own_set (own_set h hB x0) hB x1) hB x2) hB x3
  refine ⟨⟨RowW.of_owns (s4 h.r1 (by omega)), RowI.of_owns (s4 h.r2 (by omega)), ?_⟩, h.be.trans hb, fun ad n c e => ?_, fun W2 hk => ?_⟩
  · have hT : TwS (w.heap.size + 2) W' vc E := ⟨s4 h.r3.row (by omega), fun p hp => s4 (h.r3.inner p hp) (by omega)⟩
    exact hT.rowR
  · have := own_ge' h.r1 (g := ad.block) (by rw [e]; rfl)
    omega
  · have s5 : ∀ {e sz : Nat} {v : Value} {n : Nat} {xs : List Value}, W.ownsRow (w.heap.size + 2) e sz v n xs → W2.ownsRow (w.heap.size + 2) e sz v n xs := fun h => own_same (s4 h (by omega)) fun g hg1 hg2 => hk g (by have := own_ge' h hg2; omega) hg1
    have hT : TwS (w.heap.size + 2) W2 vc E := ⟨s5 h.r3.row, fun p hp => s5 (h.r3.inner p hp)⟩
    exact ⟨RowW.of_owns (s5 h.r1), RowI.of_owns (s5 h.r2), hT.rowR⟩
/-- What it answers. -/
def RsP (w : World) (X : Pb) (e : Ending) (w' : World) : Prop :=
  ∃ o1 n1 c1 o2 n2 c2 o3 n3 c3, e = .returned (.agg #[.int .i64 X.users, .slice o1 n1 c1, .slice o2 n2 c2, .slice o3 n3 c3]) ∧ Hid (PbV w' X (.slice o1 n1 c1) (.slice o2 n2 c2) (.slice o3 n3 c3)) ∧ Hid (Below w.heap.size w w') ∧ Hid (∀ ad n c, Value.slice o1 n1 c1 = .slice (some ad) n c → w.heap.size ≤ ad.block) ∧ Hid (∀ W2 : World, (∀ k, w.heap.size ≤ k → k < w'.heap.size → W2.heap[k]? = w'.heap[k]?) → PbV W2 X (.slice o1 n1 c1) (.slice o2 n2 c2) (.slice o3 n3 c3))
def WtP (w : World) (X : Pb) (N : Nat) (e : Ending) (w' : World) : Prop :=
  ∃ o1 n1 c1 o2 n2 c2 o3 n3 c3, e = .returned (.tuple #[.agg #[.int .i64 X.users, .slice o1 n1 c1, .slice o2 n2 c2, .slice o3 n3 c3], .int .i64 (N : Int)]) ∧ Hid (PbV w' X (.slice o1 n1 c1) (.slice o2 n2 c2) (.slice o3 n3 c3)) ∧ Hid (Below w.heap.size w w') ∧ Hid (∀ ad n c, Value.slice o1 n1 c1 = .slice (some ad) n c → w.heap.size ≤ ad.block) ∧ Hid (∀ W2 : World, (∀ k, w.heap.size ≤ k → k < w'.heap.size → W2.heap[k]? = w'.heap[k]?) → PbV W2 X (.slice o1 n1 c1) (.slice o2 n2 c2) (.slice o3 n3 c3))
theorem nil_pvC (W : World) : PbV W ⟨0, [], [], []⟩ (.slice none 0 0) (.slice none 0 0) (.slice none 0 0) :=
  ⟨⟨none, 0, rfl, ⟨Nat.le_refl _, fun _ => rfl⟩, fun i z hz => by cases hz⟩, ⟨none, 0, rfl, ⟨Nat.le_refl _, fun _ => rfl⟩, fun i z hz => by cases hz⟩, ⟨none, 0, rfl, ⟨Nat.le_refl _, fun _ => rfl⟩, fun i z hz => by cases hz⟩⟩
theorem Fp.resC {w : World} {P : Pb} {wv fv rv : Value} {V : World} {va vb : Value} {L1 : List Nat} {L2 : List Int} (h : Fp w P wv fv rv V va vb L1 L2) (x0 x1 x2 x3 : Value) : Below w.heap.size w ((((V.setCell ⟨w.heap.size + 1, 0, none⟩ x0).setCell ⟨w.heap.size + 1, 1, none⟩ x1).setCell ⟨w.heap.size + 1, 2, none⟩ x2).setCell ⟨w.heap.size + 1, 3, none⟩ x3) :=
  h.be.trans (((((Below.refl _ V).setCell (p := ⟨w.heap.size + 1, 0, none⟩) (Nat.le_succ _) x0).setCell (p := ⟨w.heap.size + 1, 1, none⟩) (Nat.le_succ _) x1).setCell (p := ⟨w.heap.size + 1, 2, none⟩) (Nat.le_succ _) x2).setCell (p := ⟨w.heap.size + 1, 3, none⟩) (Nat.le_succ _) x3)
end Go.Proofs.YtlijlelejobchaaGreatDoor.S
namespace Go.Proofs.YtlijlelejobchaaGreatDoor.S
open Go.RowKit Go.Shelf
structure RsX (P : Pb) (fr fs : Nat → Bool) (M1 : List Nat) (M2 : List Int) : Prop where
  x : spP P fr fs = ⟨P.users, M1, M2, sprR fr P.rules P.rules.length⟩
theorem sprR_snoc {fr : Nat → Bool} {R : List Rl} {j : Nat} {r : Rl} (hr : R[j]? = some r) : sprR fr R (j + 1) = sprR fr R j ++ (if fr j = true then [] else [r]) := by
  show sprR fr R j ++ (if fr j = true then [] else (R[j]?).toList) = _
  rw [hr]
  rfl
set_option maxRecDepth 100000 in
set_option maxHeartbeats 8000000 in
theorem restF (P : Pb) (wv fv rv : Value) (k1 k2 : Nat) (cs1 cs2 : Array Value) (fr fs : Nat → Bool) (w : World) (h : PbV w P wv fv rv) (hk : Pok P) (hU0 : 0 ≤ P.users) (hU : P.users ≤ 64) (hfl : P.fixed.length = P.who.length) (hc1 : Chs w k1 cs1 fr) (hc2 : Chs w k2 cs2 fs) :
    Calls Tryz.prog 47 #[pbV P wv fv rv, .func (.func k1) #[] cs1, .func (.func k2) #[] cs2] w (RsP w (spP P fr fs)) := by
  have hS3 := hide' (Fp.start h)
  have hc1' := hide' hc1
  have hc2' := hide' hc2
  have hs := h.shape
  have hk' := hide' hk
  have h' := hide' h.rules
  have hfl' := hide' hfl
  obtain ⟨ow, cw, of, cf, or, cr, rfl, rfl, rfl⟩ := hs
  unfold pbV
  have hsr : Hid (∀ r ∈ P.rules, r.steps.length ≤ 1000) := hk.s
  have hrl : P.rules.length ≤ 1000 := hk.r
  clear h hk hc1 hc2 hfl
  have KW : Hid (∀ V, PbV V P (.slice ow P.who.length cw) (.slice of P.fixed.length cf) (.slice or P.rules.length cr) → Calls Tryz.prog 37 #[.slice ow P.who.length cw] V fun e w' => ∃ o n c, e = .returned (.slice o n c) ∧ Hid (w'.ownsRow V.heap.size 55 1 (.slice o n c) P.who.length (cellsW P.who)) ∧ Hid (Below V.heap.size V w')) := fun V hV => (cloneW P.who _ V hV.who hk'.out.w).mono fun e w' ⟨v, e1, e2, e3⟩ => by
    obtain ⟨a, c, rfl⟩ := own_shp e2
    exact ⟨a, _, c, e1, e2, e3⟩
  have KI : Hid (∀ V, PbV V P (.slice ow P.who.length cw) (.slice of P.fixed.length cf) (.slice or P.rules.length cr) → Calls Tryz.prog 38 #[.slice of P.fixed.length cf] V fun e w' => ∃ o n c, e = .returned (.slice o n c) ∧ Hid (w'.ownsRow V.heap.size 3 1 (.slice o n c) P.fixed.length (cellsI P.fixed)) ∧ Hid (Below V.heap.size V w')) := fun V hV => (clone P.fixed _ V hV.fixed hk'.out.f).mono fun e w' ⟨v, e1, e2, e3⟩ => by
    obtain ⟨a, c, rfl⟩ := own_shp e2
    exact ⟨a, _, c, e1, e2, e3⟩
  go_enter Tryz.func47, Tryz.ntmps47
  go_upto_region 1 with fail
  generalize (w.alloc (.cells #[.int .i64 P.users, .slice ow P.who.length cw, .slice of P.fixed.length cf, .slice or P.rules.length cr] 26)).alloc (.cells #[.int .i64 0, .slice none 0 0, .slice none 0 0, .slice none 0 0] 26) = w3 at *
  go_cut [7] from 11 to 19 (fun qv wx => ∃ gq oa na ca ob nb cb, qv = .pointer (some ⟨gq, 0, none⟩) ∧ Hid (Fq w P (.slice ow P.who.length cw) (.slice of P.fixed.length cf) (.slice or P.rules.length cr) gq wx P.users (.slice oa na ca) (.slice ob nb cb) (.slice none 0 0) (.slice oa na ca) (.slice ob nb cb) (.slice none 0 0) P.who P.fixed []))
  case first =>
    as_aux_lemma =>
    have hP0 := hide' (hS3.out.over (Below.refl _ _).drew)
    clear hS3
    refine wp_region_held_drew (S := (fun V => V.cell? ⟨w.heap.size, 0, none⟩ = some (.int .i64 P.users) ∧ V.cell? ⟨w.heap.size, 1, none⟩ = some (.slice ow P.who.length cw) ∧ V.cell? ⟨w.heap.size, 2, none⟩ = some (.slice of P.fixed.length cf))) (by kernel_rfl) ?_ (fun hHeld => ?_)
    · exact hP0.out.cells
    refine wpAnyH_take (i := 0) (oi := { dst := some 11, op := Op.fieldAddr 26 (Operand.tmp 3) 0, type := 0, pos := "spare.go:33", after := #[], guard := none }) (v := ?_) rfl (by kernel_rfl) (by kernel_rfl) (by kernel_rfl) (fun _ _ _ h => h) (Or.inl ⟨by rfl, ?_⟩) (by assumption) ?_
    rotate_left
    · intro w hSw; (try dsimp only at hSw); go_simp <;> with_reducible rfl
    simp only [Act.put, List.setIfInBounds_toArray, List.set_cons_zero, List.set_cons_succ]
    refine wpAnyH_take (i := 1) (oi := { dst := some 12, op := Op.load 3 (Operand.tmp 11), type := 3, pos := "spare.go:33", after := #[{ on := 0, ground := Ground.data }], guard := none }) (v := ?_) rfl (by kernel_rfl) (by kernel_rfl) (by kernel_rfl) (fun _ _ _ h => h) (Or.inl ⟨by rfl, ?_⟩) (by assumption) ?_
    rotate_left
    · intro w hSw; (try dsimp only at hSw); go_simp <;> with_reducible rfl
    simp only [Act.put, List.setIfInBounds_toArray, List.set_cons_zero, List.set_cons_succ]
    refine wpAnyH_take (i := 2) (oi := { dst := some 13, op := Op.fieldAddr 26 (Operand.tmp 3) 1, type := 0, pos := "spare.go:33", after := #[], guard := none }) (v := ?_) rfl (by kernel_rfl) (by kernel_rfl) (by kernel_rfl) (fun _ _ _ h => h) (Or.inl ⟨by rfl, ?_⟩) (by assumption) ?_
    rotate_left
    · intro w hSw; (try dsimp only at hSw); go_simp <;> with_reducible rfl
    simp only [Act.put, List.setIfInBounds_toArray, List.set_cons_zero, List.set_cons_succ]
    refine wpAnyH_take (i := 3) (oi := { dst := some 14, op := Op.load 22 (Operand.tmp 13), type := 22, pos := "spare.go:33", after := #[{ on := 2, ground := Ground.data }], guard := none }) (v := ?_) rfl (by kernel_rfl) (by kernel_rfl) (by kernel_rfl) (fun _ _ _ h => h) (Or.inl ⟨by rfl, ?_⟩) (by assumption) ?_
    rotate_left
    · intro w hSw; (try dsimp only at hSw); go_simp <;> with_reducible rfl
    simp only [Act.put, List.setIfInBounds_toArray, List.set_cons_zero, List.set_cons_succ]
    refine wpAnyH_take (i := 5) (oi := { dst := some 16, op := Op.fieldAddr 26 (Operand.tmp 3) 2, type := 0, pos := "spare.go:33", after := #[], guard := none }) (v := ?_) rfl (by kernel_rfl) (by kernel_rfl) (by kernel_rfl) (fun _ _ _ h => h) (Or.inl ⟨by rfl, ?_⟩) (by assumption) ?_
    rotate_left
    · intro w hSw; (try dsimp only at hSw); go_simp <;> with_reducible rfl
    simp only [Act.put, List.setIfInBounds_toArray, List.set_cons_zero, List.set_cons_succ]
    refine wpAnyH_take (i := 6) (oi := { dst := some 17, op := Op.load 23 (Operand.tmp 16), type := 23, pos := "spare.go:33", after := #[{ on := 5, ground := Ground.data }], guard := none }) (v := ?_) rfl (by kernel_rfl) (by kernel_rfl) (by kernel_rfl) (fun _ _ _ h => h) (Or.inl ⟨by rfl, ?_⟩) (by assumption) ?_
    rotate_left
    · intro w hSw; (try dsimp only at hSw); go_simp <;> with_reducible rfl
    simp only [Act.put, List.setIfInBounds_toArray, List.set_cons_zero, List.set_cons_succ]
    refine wpAnyH_ready (rs := [4, 9]) (by kernel_rfl) (by simp) ?_
    refine AllReadyH.cons (o := { dst := some 15, op := Op.call { callee := Callee.value (Operand.func 37), args := #[Operand.tmp 14], argTypes := #[22] }, type := 22, pos := "spare.go:33", after := #[{ on := 3, ground := Ground.data }], guard := none }) rfl (fun K hK => ?_) ?_
    · skip
      go_simp
      refine (KW.out _ hP0.out.pv).mono ?_; rintro e w5 ⟨o5, n5, c5, rfl, hO5, hb5⟩; have hS5 := hide' (hP0.out.who hb5.out hO5.out); (try dsimp only)
      refine hK.out _ _ ?_ (fun hHeld => ?_)
      · exact hS5.out.cells
      clear hK K
      try simp only [Act.put, List.setIfInBounds_toArray, List.set_cons_zero, List.set_cons_succ]
      refine wpAnyH_ready (rs := [7, 9]) (by kernel_rfl) (by simp) ?_
      refine AllReadyH.cons (o := { dst := some 18, op := Op.call { callee := Callee.value (Operand.func 38), args := #[Operand.tmp 17], argTypes := #[23] }, type := 23, pos := "spare.go:33", after := #[{ on := 6, ground := Ground.data }, { on := 4, ground := Ground.chain }], guard := none }) rfl (fun K hK => ?_) ?_
      · skip
        go_simp
        refine (KI.out _ hS5.out.pv).mono ?_; rintro e w6 ⟨o6, n6, c6, rfl, hO6, hb6⟩; have hS6 := hide' (hS5.out.fix hb6.out hO6.out); (try dsimp only)
        refine hK.out _ _ ?_ (fun hHeld => ?_)
        · exact hS6.out.cells
        clear hK K
        try simp only [Act.put, List.setIfInBounds_toArray, List.set_cons_zero, List.set_cons_succ]
        refine wpAnyH_take (i := 8) (oi := { dst := some 19, op := Op.build 26 #[(0, Operand.tmp 12), (1, Operand.tmp 15), (2, Operand.tmp 18)], type := 26, pos := "spare.go:33", after := #[{ on := 1, ground := Ground.data }, { on := 4, ground := Ground.data }, { on := 7, ground := Ground.data }], guard := none }) (v := ?_) rfl (by kernel_rfl) (by kernel_rfl) (by kernel_rfl) (fun _ _ _ h => h) (Or.inl ⟨by rfl, ?_⟩) (by assumption) ?_
        rotate_left
        · intro w hSw; (try dsimp only at hSw); go_simp <;> with_reducible rfl
        simp only [Act.put, List.setIfInBounds_toArray, List.set_cons_zero, List.set_cons_succ]
        refine wpAnyH_ready (rs := [9]) (by kernel_rfl) (by simp) ?_
        refine AllReadyH.cons (o := { dst := some 7, op := Op.alloc 26, type := 0, pos := "spare.go:33", after := #[], guard := none }) rfl (fun K hK => ?_) AllReadyH.nil
        go_simp
        refine hK.out _ _ ?_ (fun hHeld => ?_)
        · exact (hS6.out.over ((Below.refl _ w6).alloc (Nat.le_refl _) _)).cells
        clear hK K
        try simp only [Act.put, List.setIfInBounds_toArray, List.set_cons_zero, List.set_cons_succ]
        refine wpAnyH_ready (rs := [10]) (by kernel_rfl) (by simp) ?_
        refine AllReadyH.cons (o := { dst := none, op := Op.store 26 (Operand.tmp 7) (Operand.tmp 19), type := 0, pos := "spare.go:33", after := #[{ on := 9, ground := Ground.data }, { on := 8, ground := Ground.data }, { on := 7, ground := Ground.chain }, { on := 0, ground := Ground.phase }, { on := 1, ground := Ground.phase }, { on := 2, ground := Ground.phase }, { on := 3, ground := Ground.phase }, { on := 4, ground := Ground.phase }, { on := 5, ground := Ground.phase }, { on := 6, ground := Ground.phase }, { on := 7, ground := Ground.phase }, { on := 8, ground := Ground.phase }, { on := 9, ground := Ground.phase }], guard := none }) rfl (fun K hK => ?_) AllReadyH.nil
        go_simp
        refine hK.out _ _ ?_ (fun hHeld => ?_)
        · exact (hS6.out.close P.users (.slice o5 n5 c5) (.slice o6 n6 c6)).cells
        clear hK K
        try simp only [Act.put, List.setIfInBounds_toArray, List.set_cons_zero, List.set_cons_succ]
        refine wpAnyH_done (by kernel_rfl) ?_ _
        skip
        have hQ := hide' (hS6.out.close P.users (.slice o5 n5 c5) (.slice o6 n6 c6))
        go_wp2
        go_meet
        exact ⟨_, o5, n5, c5, o6, n6, c6, rfl, hQ⟩
      refine AllReadyH.cons (o := { dst := some 7, op := Op.alloc 26, type := 0, pos := "spare.go:33", after := #[], guard := none }) rfl (fun K hK => ?_) AllReadyH.nil
      go_simp
      have hA := hide' (hS5.out.box); (try dsimp only)
      refine hK.out _ _ ?_ (fun hHeld => ?_)
      · exact hA.out.p.cells
      clear hK K
      try simp only [Act.put, List.setIfInBounds_toArray, List.set_cons_zero, List.set_cons_succ]
      refine wpAnyH_ready (rs := [7]) (by kernel_rfl) (by simp) ?_
      refine AllReadyH.cons (o := { dst := some 18, op := Op.call { callee := Callee.value (Operand.func 38), args := #[Operand.tmp 17], argTypes := #[23] }, type := 23, pos := "spare.go:33", after := #[{ on := 6, ground := Ground.data }, { on := 4, ground := Ground.chain }], guard := none }) rfl (fun K hK => ?_) AllReadyH.nil
      go_simp
      refine (KI.out _ hA.out.p.pv).mono ?_; rintro e w6 ⟨o6, n6, c6, rfl, hO6, hb6⟩; have hS6 := hide' (hA.out.fix hb6.out hO6.out); (try dsimp only); have f0 := hS6.out.qb.frz 0; have y0 := hS6.out.qb.c0; have f1 := (hS6.out.qb.s0C P.users).frz 1; have y1 := (hS6.out.qb.s0C P.users).c1; have f2 := ((hS6.out.qb.s0C P.users).s1 (.slice o5 n5 c5)).frz 2; have y2 := ((hS6.out.qb.s0C P.users).s1 (.slice o5 n5 c5)).c2; have f3 := (((hS6.out.qb.s0C P.users).s1 (.slice o5 n5 c5)).s2 (.slice o6 n6 c6)).frz 3; have y3 := (((hS6.out.qb.s0C P.users).s1 (.slice o5 n5 c5)).s2 (.slice o6 n6 c6)).c3
      refine hK.out _ _ ?_ (fun hHeld => ?_)
      · exact hS6.out.p.cells
      clear hK K
      try simp only [Act.put, List.setIfInBounds_toArray, List.set_cons_zero, List.set_cons_succ]
      refine wpAnyH_take (i := 8) (oi := { dst := some 19, op := Op.build 26 #[(0, Operand.tmp 12), (1, Operand.tmp 15), (2, Operand.tmp 18)], type := 26, pos := "spare.go:33", after := #[{ on := 1, ground := Ground.data }, { on := 4, ground := Ground.data }, { on := 7, ground := Ground.data }], guard := none }) (v := ?_) rfl (by kernel_rfl) (by kernel_rfl) (by kernel_rfl) (fun _ _ _ h => h) (Or.inl ⟨by rfl, ?_⟩) (by assumption) ?_
      rotate_left
      · intro w hSw; (try dsimp only at hSw); go_simp <;> with_reducible rfl
      simp only [Act.put, List.setIfInBounds_toArray, List.set_cons_zero, List.set_cons_succ]
      refine wpAnyH_ready (rs := [10]) (by kernel_rfl) (by simp) ?_
      refine AllReadyH.cons (o := { dst := none, op := Op.store 26 (Operand.tmp 7) (Operand.tmp 19), type := 0, pos := "spare.go:33", after := #[{ on := 9, ground := Ground.data }, { on := 8, ground := Ground.data }, { on := 7, ground := Ground.chain }, { on := 0, ground := Ground.phase }, { on := 1, ground := Ground.phase }, { on := 2, ground := Ground.phase }, { on := 3, ground := Ground.phase }, { on := 4, ground := Ground.phase }, { on := 5, ground := Ground.phase }, { on := 6, ground := Ground.phase }, { on := 7, ground := Ground.phase }, { on := 8, ground := Ground.phase }, { on := 9, ground := Ground.phase }], guard := none }) rfl (fun K hK => ?_) AllReadyH.nil
      go_simp
      refine hK.out _ _ ?_ (fun hHeld => ?_)
      · exact (hS6.out.close P.users (.slice o5 n5 c5) (.slice o6 n6 c6)).cells
      clear hK K
      try simp only [Act.put, List.setIfInBounds_toArray, List.set_cons_zero, List.set_cons_succ]
      refine wpAnyH_done (by kernel_rfl) ?_ _
      skip
      have hQ := hide' (hS6.out.close P.users (.slice o5 n5 c5) (.slice o6 n6 c6))
      go_wp2
      go_meet
      exact ⟨_, o5, n5, c5, o6, n6, c6, rfl, hQ⟩
    refine AllReadyH.cons (o := { dst := some 7, op := Op.alloc 26, type := 0, pos := "spare.go:33", after := #[], guard := none }) rfl (fun K hK => ?_) AllReadyH.nil
    go_simp
    have hA := hide' (hP0.out.box); rw [show w3.drew.heap.size = w3.heap.size from rfl] at hA; (try dsimp only)
    refine hK.out _ _ ?_ (fun hHeld => ?_)
    · exact hA.out.p.cells
    clear hK K
    try simp only [Act.put, List.setIfInBounds_toArray, List.set_cons_zero, List.set_cons_succ]
    refine wpAnyH_ready (rs := [4]) (by kernel_rfl) (by simp) ?_
    refine AllReadyH.cons (o := { dst := some 15, op := Op.call { callee := Callee.value (Operand.func 37), args := #[Operand.tmp 14], argTypes := #[22] }, type := 22, pos := "spare.go:33", after := #[{ on := 3, ground := Ground.data }], guard := none }) rfl (fun K hK => ?_) AllReadyH.nil
    go_simp
    refine (KW.out _ hA.out.p.pv).mono ?_; rintro e w5 ⟨o5, n5, c5, rfl, hO5, hb5⟩; have hS5 := hide' (hA.out.who hb5.out hO5.out); (try dsimp only)
    refine hK.out _ _ ?_ (fun hHeld => ?_)
    · exact hS5.out.p.cells
    clear hK K
    try simp only [Act.put, List.setIfInBounds_toArray, List.set_cons_zero, List.set_cons_succ]
    refine wpAnyH_ready (rs := [7]) (by kernel_rfl) (by simp) ?_
    refine AllReadyH.cons (o := { dst := some 18, op := Op.call { callee := Callee.value (Operand.func 38), args := #[Operand.tmp 17], argTypes := #[23] }, type := 23, pos := "spare.go:33", after := #[{ on := 6, ground := Ground.data }, { on := 4, ground := Ground.chain }], guard := none }) rfl (fun K hK => ?_) AllReadyH.nil
    go_simp
    refine (KI.out _ hS5.out.p.pv).mono ?_; rintro e w6 ⟨o6, n6, c6, rfl, hO6, hb6⟩; have hS6 := hide' (hS5.out.fix hb6.out hO6.out); (try dsimp only); have f0 := hS6.out.qb.frz 0; have y0 := hS6.out.qb.c0; have f1 := (hS6.out.qb.s0C P.users).frz 1; have y1 := (hS6.out.qb.s0C P.users).c1; have f2 := ((hS6.out.qb.s0C P.users).s1 (.slice o5 n5 c5)).frz 2; have y2 := ((hS6.out.qb.s0C P.users).s1 (.slice o5 n5 c5)).c2; have f3 := (((hS6.out.qb.s0C P.users).s1 (.slice o5 n5 c5)).s2 (.slice o6 n6 c6)).frz 3; have y3 := (((hS6.out.qb.s0C P.users).s1 (.slice o5 n5 c5)).s2 (.slice o6 n6 c6)).c3
    refine hK.out _ _ ?_ (fun hHeld => ?_)
    · exact hS6.out.p.cells
    clear hK K
    try simp only [Act.put, List.setIfInBounds_toArray, List.set_cons_zero, List.set_cons_succ]
    refine wpAnyH_take (i := 8) (oi := { dst := some 19, op := Op.build 26 #[(0, Operand.tmp 12), (1, Operand.tmp 15), (2, Operand.tmp 18)], type := 26, pos := "spare.go:33", after := #[{ on := 1, ground := Ground.data }, { on := 4, ground := Ground.data }, { on := 7, ground := Ground.data }], guard := none }) (v := ?_) rfl (by kernel_rfl) (by kernel_rfl) (by kernel_rfl) (fun _ _ _ h => h) (Or.inl ⟨by rfl, ?_⟩) (by assumption) ?_
    rotate_left
    · intro w hSw; (try dsimp only at hSw); go_simp <;> with_reducible rfl
    simp only [Act.put, List.setIfInBounds_toArray, List.set_cons_zero, List.set_cons_succ]
    refine wpAnyH_ready (rs := [10]) (by kernel_rfl) (by simp) ?_
    refine AllReadyH.cons (o := { dst := none, op := Op.store 26 (Operand.tmp 7) (Operand.tmp 19), type := 0, pos := "spare.go:33", after := #[{ on := 9, ground := Ground.data }, { on := 8, ground := Ground.data }, { on := 7, ground := Ground.chain }, { on := 0, ground := Ground.phase }, { on := 1, ground := Ground.phase }, { on := 2, ground := Ground.phase }, { on := 3, ground := Ground.phase }, { on := 4, ground := Ground.phase }, { on := 5, ground := Ground.phase }, { on := 6, ground := Ground.phase }, { on := 7, ground := Ground.phase }, { on := 8, ground := Ground.phase }, { on := 9, ground := Ground.phase }], guard := none }) rfl (fun K hK => ?_) AllReadyH.nil
    go_simp
    refine hK.out _ _ ?_ (fun hHeld => ?_)
    · exact (hS6.out.close P.users (.slice o5 n5 c5) (.slice o6 n6 c6)).cells
    clear hK K
    try simp only [Act.put, List.setIfInBounds_toArray, List.set_cons_zero, List.set_cons_succ]
    refine wpAnyH_done (by kernel_rfl) ?_ _
    skip
    have hQ := hide' (hS6.out.close P.users (.slice o5 n5 c5) (.slice o6 n6 c6))
    go_wp2
    go_meet
    exact ⟨_, o5, n5, c5, o6, n6, c6, rfl, hQ⟩
  case rest =>
  clear hS3 KW KI
  obtain ⟨gq, oa, na, ca, ob, nb, cb, rfl, hQ⟩ := hcut
  have q3 := hQ.out.pb.c3
  go_upto_block 0 with fail
  clear q3
  go_cut [23, 8, 9] from 24 to 42 (fun _ _ _ wx => ∃ oc nc cc E, Hid (E.map Prod.fst = sprR fr P.rules P.rules.length) ∧ Hid (Fq w P (.slice ow P.who.length cw) (.slice of P.fixed.length cf) (.slice or P.rules.length cr) gq wx P.users (.slice oa na ca) (.slice ob nb cb) (.slice oc nc cc) (.slice oa na ca) (.slice ob nb cb) (.slice oc nc cc) P.who P.fixed E))
  case first =>
    as_aux_lemma =>
    go_wp2
    go_loopw [23, 8, 9] (fun kv _ _ wr => ∃ (j : Nat) (oc : Option Addr) (nc cc : Nat) (E : List (Rl × Value)), j ≤ P.rules.length ∧ kv = .int .i64 (j : Int) ∧ Hid (E.map Prod.fst = sprR fr P.rules j) ∧ Hid (Fq w P (.slice ow P.who.length cw) (.slice of P.fixed.length cf) (.slice or P.rules.length cr) gq wr P.users (.slice oa na ca) (.slice ob nb cb) (.slice oc nc cc) (.slice oa na ca) (.slice ob nb cb) (.slice oc nc cc) P.who P.fixed E)) (fun kv _ _ _ => ((P.rules.length : Int) - intOf kv).toNat)
    case atStart => exact ⟨0, none, 0, 0, [], Nat.zero_le _, rfl, rfl, hQ⟩
    case round =>
      clear hQ
      obtain ⟨j, oc, nc, cc, E, hj, rfl, hE, hQ⟩ := hrel
      by_cases hlt : j < P.rules.length
      · as_aux_lemma =>
        have hlt' : (j : Int) < (P.rules.length : Int) := by omega
        obtain ⟨r, hr⟩ : ∃ r, P.rules[j]? = some r := ⟨_, List.getElem?_eq_getElem hlt⟩
        obtain ⟨oa3, ca3, e3, _, hcr⟩ := h'.out
        obtain ⟨g, o, sv, r3, d1, d2, d3, d4⟩ := hcr j r hr
        injection e3 with e3a e3b e3c
        subst e3a
        subst r3
        have a1 := M.cell_over d1 hQ.out.be
        have a2 := M.cell_over d2 hQ.out.be
        have a3 := M.cell_over d3 hQ.out.be
        have hst := hsr.out r (List.mem_of_getElem? hr)
        obtain ⟨Wg, rfl⟩ : ∃ W, W = wr := ⟨_, rfl⟩
        have d4' := hide' (d4.below hQ.out.be (Nat.le_refl _))
        obtain ⟨os, cs, rfl, _, _⟩ := d4
        have hE2 := hide' (sprR_snoc (fr := fr) hr)
        have hEl : Hid (E.length ≤ 1000000) := by
          have := congrArg List.length hE.out
          rw [List.length_map] at this
          have h2 := sprR_len fr P.rules j
          show E.length ≤ 1000000
          omega
        have hbA : Hid (Below Wg.heap.size Wg (Wg.alloc (.cells #[.int .i64 r.kind, .int .i64 r.k, .slice os r.steps.length cs] 44))) := (Below.refl _ Wg).alloc (Nat.le_refl _) _
        have hbx : Hid ((Wg.alloc (.cells #[.int .i64 r.kind, .int .i64 r.k, .slice os r.steps.length cs] 44)).rowIs Wg.heap.size 44 3 (ruW r.kind r.k (.slice os r.steps.length cs))) := World.rowIs_alloc Wg #[.int .i64 r.kind, .int .i64 r.k, .slice os r.steps.length cs] _ _ fun i hi => by
          have hi : i < 3 := hi
          rcases (show i = 0 ∨ i = 1 ∨ i = 2 by omega) with rfl | rfl | rfl <;> rfl
        have KCh := hide' (hc1'.out.say _ j (hQ.out.be.trans (hbA.out.mono hQ.out.be.size)) (by omega))
        have hz : Hid ((Wg.alloc (.cells #[.int .i64 r.kind, .int .i64 r.k, .slice os r.steps.length cs] 44)).heap.size = Wg.heap.size + 1) := by show _ = _; simp
        clear d1 d2 d3 hr hcr e3b e3c
        have en1 := hc1'.out.en
        cases hfj : fr j with
        | true =>
          as_aux_lemma =>
          rw [hfj] at KCh hE2
          rw [if_pos rfl, List.append_nil] at hE2
          go_wp2_with (go_at_fn k1; refine KCh.out.mono ?_; rintro e w5 ⟨rfl, hb5⟩)
          rw [hz.out] at hb5
          have hQ5 := hide' (hQ.out.over (hbA.out.trans (hb5.mono (Nat.le_succ _))))
          exact ⟨⟨j + 1, oc, nc, cc, E, by omega, by go_num, by rw [hE2.out]; exact hE, hQ5⟩, by simp [intOf]; omega⟩
        | false =>
          as_aux_lemma =>
          rw [hfj] at KCh hE2
          rw [if_neg (by decide)] at hE2
          go_upto_region 6 with (go_at_fn k1; refine KCh.out.mono ?_; rintro e w5 ⟨rfl, hb5⟩)
          clear a1 a2 a3
          rw [hz.out] at hb5
          have hb5' : Hid (Below Wg.heap.size Wg w5) := hbA.out.trans (hb5.mono (Nat.le_succ _))
          have hbx5 := hide' (World.rowIs.of_block hbx.out (hb5.block _ (Nat.lt_succ_self _)))
          have hs5 := hide' (World.rowIs.lt hbx5.out)
          clear hbx hbA KCh hz hb5
          have x2' := World.rowIs.cell hbx5.out (i := 2) (by decide)
          simp [ruW] at x2'
          have KR := hide' (clone r.steps (.slice os r.steps.length cs) w5 (d4'.out.below hb5'.out (Nat.le_refl _)) hst)
          go_wp2_with fail
          clear x2'
          refine KR.out.mono ?_
          rintro e w7 ⟨v7, rfl, hO7, hb7⟩
          obtain ⟨o7, c7, rfl⟩ := own_shp hO7
          have hb7' : Hid (Below Wg.heap.size Wg w7) := hb5'.out.trans (hb7.mono hb5'.out.size)
          have hbx7 := hide' (World.rowIs.of_block hbx5.out (hb7.block _ hs5.out))
          have f2 := World.rowIs.frozen hbx7.out 2
          have y2 := World.rowIs.cell hbx7.out (i := 2) (by decide)
          have hbx8 := World.rowIs.set hbx7.out 2 (.slice o7 r.steps.length c7)
          have x0 := World.rowIs.cell hbx8 (i := 0) (by decide)
          have x1 := World.rowIs.cell hbx8 (i := 1) (by decide)
          have x2 := World.rowIs.cell hbx8 (i := 2) (by decide)
          simp [ruW] at y2 x0 x1 x2
          have hb8 : Hid (Below Wg.heap.size Wg (w7.setCell ⟨Wg.heap.size, 2, none⟩ (.slice o7 r.steps.length c7))) := hb7'.out.setCell (p := ⟨Wg.heap.size, 2, none⟩) (Nat.le_refl _) _
          have hQ8 := hide' (hQ.out.over hb8.out)
          have hq3 := hQ8.out.qb.c3
          have hO8 : Hid ((w7.setCell ⟨Wg.heap.size, 2, none⟩ (.slice o7 r.steps.length c7)).ownsRow w5.heap.size 3 1 (.slice o7 r.steps.length c7) r.steps.length (cellsI r.steps)) := own_same hO7 fun g hg e => Below.heap_setCell _ _ _ _ (by have := own_ge' hO7 e; have := hs5.out; show g ≠ Wg.heap.size; omega)
          have hn2 : Hid (∀ gg, (Value.slice ob nb cb).ownBlock = some gg → (Value.slice o7 r.steps.length c7).ownBlock ≠ some gg) := fun gg h1 h2 => by
            have q1 := own_lt' hQ.out.r2 h1
            have q2 := own_ge' hO7 h2
            have := hs5.out
            omega
          have hp8 : Hid ((w7.setCell ⟨Wg.heap.size, 2, none⟩ (.slice o7 r.steps.length c7)).ownsRow (w.heap.size + 2) 3 1 (.slice o7 r.steps.length c7) r.steps.length (cellsI r.steps)) := own_down hO8.out (by have := hQ.out.sz; have := hs5.out; omega)
          clear hO7 hb7 hb7' hbx7 hbx8 hbx5 hs5 hb5' KR hQ hb8 hO8 d4'
          go_upto_region 7 with fail
          clear f2 y2
          generalize w7.setCell ⟨Wg.heap.size, 2, none⟩ (.slice o7 r.steps.length c7) = W8 at *
          go_wp2_with (at_builtin; refine wpList_plain rfl fun _ hK => Fq.wapp3 (.tmp 37) (.tmp 39) hQ8.out (r, .slice o7 r.steps.length c7) hp8.out hn2.out rfl rfl rfl hEl.out fun oD nD cD wD hD => hK _ _ ?_; have hD' := hide' hD; have fD := hD.qb.frz 3; have dD := hD.qb.c3; clear hD)
          have hE9 := hide' (hD'.out.put (hD'.out.qb.s3 (.slice oD nD cD)))
          exact ⟨⟨j + 1, oD, nD, cD, _, by omega, by go_num, by rw [List.map_append, hE.out, hE2.out]; rfl, hE9⟩, by simp [intOf]; omega⟩
      · as_aux_lemma =>
        obtain rfl : j = P.rules.length := by omega
        go_wp2
        go_meet
        exact ⟨oc, nc, cc, E, hE, hQ⟩
  case rest =>
  clear hQ
  obtain ⟨oc, nc, cc, E, hE, hQ⟩ := hcut
  have q1 := hQ.out.pb.c1
  go_upto_block 2 with fail
  clear q1
  go_cut [46, 10] from 47 to 62 (fun _ _ wx => Hid (Fq w P (.slice ow P.who.length cw) (.slice of P.fixed.length cf) (.slice or P.rules.length cr) gq wx P.users (.slice oa na ca) (.slice ob nb cb) (.slice oc nc cc) (.slice oa na ca) (.slice ob nb cb) (.slice oc nc cc) (sprW fs (allW P.users) P.who P.who.length) (sprW fs (-1) P.fixed P.who.length) E))
  case first =>
    as_aux_lemma =>
    go_wp2
    go_loopw [46, 10] (fun kv _ wr => ∃ j : Nat, j ≤ P.who.length ∧ kv = .int .i64 (j : Int) ∧ Hid (Fq w P (.slice ow P.who.length cw) (.slice of P.fixed.length cf) (.slice or P.rules.length cr) gq wr P.users (.slice oa na ca) (.slice ob nb cb) (.slice oc nc cc) (.slice oa na ca) (.slice ob nb cb) (.slice oc nc cc) (sprW fs (allW P.users) P.who j) (sprW fs (-1) P.fixed j) E)) (fun kv _ _ => ((P.who.length : Int) - intOf kv).toNat)
    case atStart => exact ⟨0, Nat.zero_le _, rfl, hQ⟩
    case round =>
      clear hQ
      obtain ⟨j, hj, rfl, hQ⟩ := hrel
      by_cases hlt : j < P.who.length
      · as_aux_lemma =>
        have hlt' : (j : Int) < (P.who.length : Int) := by omega
        have hwl : P.who.length ≤ 1000 := hk'.out.w
        have en2 := hc2'.out.en
        have KCh := hide' (hc2'.out.say wr j hQ.out.be (by omega))
        cases hfj : fs j with
        | false =>
          as_aux_lemma =>
          rw [hfj] at KCh
          have e1 : Hid (sprW fs (allW P.users) P.who (j + 1) = sprW fs (allW P.users) P.who j) := by unfold Hid; rw [sprW, if_neg (by rw [hfj]; decide)]
          have e2 : Hid (sprW fs (-1) P.fixed (j + 1) = sprW fs (-1) P.fixed j) := by unfold Hid; rw [sprW, if_neg (by rw [hfj]; decide)]
          go_wp2_with (go_at_fn k2; refine KCh.out.mono ?_; rintro e w5 ⟨rfl, hb5⟩)
          exact ⟨⟨j + 1, by omega, by go_num, by rw [e1.out, e2.out]; exact hQ.out.over hb5⟩, by simp [intOf]; omega⟩
        | true =>
          as_aux_lemma =>
          rw [hfj] at KCh
          have e1 : Hid (sprW fs (allW P.users) P.who (j + 1) = (sprW fs (allW P.users) P.who j).set j (allW P.users)) := by unfold Hid; rw [sprW, if_pos hfj]
          have e2 : Hid (sprW fs (-1) P.fixed (j + 1) = (sprW fs (-1) P.fixed j).set j (-1)) := by unfold Hid; rw [sprW, if_pos hfj]
          have l1 := sprW_len fs (allW P.users) P.who j
          have l2 := sprW_len fs (-1 : Int) P.fixed j
          have hf3 := hfl'.out
          generalize sprW fs (allW P.users) P.who j = M1 at *
          generalize sprW fs (-1) P.fixed j = M2 at *
          obtain ⟨gw, hgw⟩ : ∃ gw, Value.slice oa na ca = .slice (some ⟨gw, 0, none⟩) M1.length ca := by
            rcases hQ.out.r1.2 with ⟨_, h0⟩ | ⟨g, cap, cur, e, h1, _⟩
            · omega
            · injection e with e1 e2 e3
              exact ⟨g, by rw [e1, e2]⟩
          obtain ⟨gf, hgf⟩ : ∃ gf, Value.slice ob nb cb = .slice (some ⟨gf, 0, none⟩) M2.length cb := by
            rcases hQ.out.r2.2 with ⟨_, h0⟩ | ⟨g, cap, cur, e, h1, _⟩
            · omega
            · injection e with e1 e2 e3
              exact ⟨g, by rw [e1, e2]⟩
          injection hgw with hw1 hw2 _
          injection hgf with hf1 hf2 _
          subst hw1
          subst hf1
          subst hw2
          subst hf2
          have j1 : (j : Int) < (M1.length : Int) := by omega
          have j2 : (j : Int) < (M2.length : Int) := by omega
          clear l1 l2 hf3
          have KE : Hid (∀ V, Calls Tryz.prog 76 #[.agg #[.int .i64 P.users, .slice ow P.who.length cw, .slice of P.fixed.length cf, .slice or P.rules.length cr]] V fun e w' => e = .returned (.int .u64 (allW P.users : Int)) ∧ Below V.heap.size V w') := fun V => everyF P _ _ _ V ⟨ow, cw, of, cf, or, cr, rfl, rfl, rfl⟩ hU0 hU
          obtain ⟨y1, hy1⟩ : ∃ y, M1[j]? = some y := ⟨_, List.getElem?_eq_getElem (by omega)⟩
          obtain ⟨y2, hy2⟩ : ∃ y, M2[j]? = some y := ⟨_, List.getElem?_eq_getElem (by omega)⟩
          generalize allW P.users = A at *
          have hW1 : Hid (∀ V, Fq w P (.slice ow P.who.length cw) (.slice of P.fixed.length cf) (.slice or P.rules.length cr) gq V P.users (.slice (some ⟨gw, 0, none⟩) M1.length ca) (.slice (some ⟨gf, 0, none⟩) M2.length cb) (.slice oc nc cc) (.slice (some ⟨gw, 0, none⟩) M1.length ca) (.slice (some ⟨gf, 0, none⟩) M2.length cb) (.slice oc nc cc) M1 M2 E → V.cell? ⟨gw, j, none⟩ = some (.int .u64 (y1 : Int)) ∧ V.frozen? ⟨gw, j, none⟩ = false) := fun V hV => ⟨by rw [hV.r1.cellAt j (by omega)]; unfold cellsW; rw [List.getElem?_map, hy1]; rfl, hV.r1.frozenAt j⟩
          have hW2 : Hid (∀ V, Fq w P (.slice ow P.who.length cw) (.slice of P.fixed.length cf) (.slice or P.rules.length cr) gq V P.users (.slice (some ⟨gw, 0, none⟩) M1.length ca) (.slice (some ⟨gf, 0, none⟩) M2.length cb) (.slice oc nc cc) (.slice (some ⟨gw, 0, none⟩) M1.length ca) (.slice (some ⟨gf, 0, none⟩) M2.length cb) (.slice oc nc cc) M1 M2 E → (V.setCell ⟨gw, j, none⟩ (.int .u64 (A : Int))).cell? ⟨gf, j, none⟩ = some (.int .i64 y2) ∧ (V.setCell ⟨gw, j, none⟩ (.int .u64 (A : Int))).frozen? ⟨gf, j, none⟩ = false) := fun V hV => by
            have k := hV.setW j A
            exact ⟨by rw [k.r2.cellAt j (by omega)]; unfold cellsI; rw [List.getElem?_map, hy2]; rfl, k.r2.frozenAt j⟩
          have hS : Hid (∀ V, Fq w P (.slice ow P.who.length cw) (.slice of P.fixed.length cf) (.slice or P.rules.length cr) gq V P.users (.slice (some ⟨gw, 0, none⟩) M1.length ca) (.slice (some ⟨gf, 0, none⟩) M2.length cb) (.slice oc nc cc) (.slice (some ⟨gw, 0, none⟩) M1.length ca) (.slice (some ⟨gf, 0, none⟩) M2.length cb) (.slice oc nc cc) M1 M2 E → V.cell? ⟨gq, 1, none⟩ = some (.slice (some ⟨gw, 0, none⟩) M1.length ca) ∧ V.cell? ⟨gq, 2, none⟩ = some (.slice (some ⟨gf, 0, none⟩) M2.length cb) ∧ V.cell? ⟨w.heap.size, 0, none⟩ = some (.int .i64 P.users) ∧ V.cell? ⟨w.heap.size, 1, none⟩ = some (.slice ow P.who.length cw) ∧ V.cell? ⟨w.heap.size, 2, none⟩ = some (.slice of P.fixed.length cf) ∧ V.cell? ⟨w.heap.size, 3, none⟩ = some (.slice or P.rules.length cr)) := fun V hV => ⟨hV.qb.c1, hV.qb.c2, hV.pb.c0, hV.pb.c1, hV.pb.c2, hV.pb.c3⟩
          go_upto_region 13 with (go_at_fn k2; refine KCh.out.mono ?_; rintro e w5 ⟨rfl, hb5⟩)
          have hQ5 := hide' (hQ.out.over hb5)
          have hQd := hide' (hQ5.out.over (Below.refl _ w5).drew)
          clear hQ hb5 KCh
          have hS7 : Hid (∀ V L1 L2, Fq w P (.slice ow P.who.length cw) (.slice of P.fixed.length cf) (.slice or P.rules.length cr) gq V P.users (.slice (some ⟨gw, 0, none⟩) M1.length ca) (.slice (some ⟨gf, 0, none⟩) M2.length cb) (.slice oc nc cc) (.slice (some ⟨gw, 0, none⟩) M1.length ca) (.slice (some ⟨gf, 0, none⟩) M2.length cb) (.slice oc nc cc) L1 L2 E → V.cell? ⟨gq, 1, none⟩ = some (.slice (some ⟨gw, 0, none⟩) M1.length ca) ∧ V.cell? ⟨gq, 2, none⟩ = some (.slice (some ⟨gf, 0, none⟩) M2.length cb) ∧ V.cell? ⟨w.heap.size, 0, none⟩ = some (.int .i64 P.users) ∧ V.cell? ⟨w.heap.size, 1, none⟩ = some (.slice ow P.who.length cw) ∧ V.cell? ⟨w.heap.size, 2, none⟩ = some (.slice of P.fixed.length cf) ∧ V.cell? ⟨w.heap.size, 3, none⟩ = some (.slice or P.rules.length cr)) := fun V L1 L2 hV => ⟨hV.qb.c1, hV.qb.c2, hV.pb.c0, hV.pb.c1, hV.pb.c2, hV.pb.c3⟩
          have hSW : Hid (∀ V, Fq w P (.slice ow P.who.length cw) (.slice of P.fixed.length cf) (.slice or P.rules.length cr) gq V P.users (.slice (some ⟨gw, 0, none⟩) M1.length ca) (.slice (some ⟨gf, 0, none⟩) M2.length cb) (.slice oc nc cc) (.slice (some ⟨gw, 0, none⟩) M1.length ca) (.slice (some ⟨gf, 0, none⟩) M2.length cb) (.slice oc nc cc) M1 M2 E → Fq w P (.slice ow P.who.length cw) (.slice of P.fixed.length cf) (.slice or P.rules.length cr) gq (V.setCell ⟨gw, j, none⟩ (.int .u64 (A : Int))) P.users (.slice (some ⟨gw, 0, none⟩) M1.length ca) (.slice (some ⟨gf, 0, none⟩) M2.length cb) (.slice oc nc cc) (.slice (some ⟨gw, 0, none⟩) M1.length ca) (.slice (some ⟨gf, 0, none⟩) M2.length cb) (.slice oc nc cc) (M1.set j A) M2 E) := fun V hV => hV.setW j A
          have hSF : Hid (∀ V, Fq w P (.slice ow P.who.length cw) (.slice of P.fixed.length cf) (.slice or P.rules.length cr) gq V P.users (.slice (some ⟨gw, 0, none⟩) M1.length ca) (.slice (some ⟨gf, 0, none⟩) M2.length cb) (.slice oc nc cc) (.slice (some ⟨gw, 0, none⟩) M1.length ca) (.slice (some ⟨gf, 0, none⟩) M2.length cb) (.slice oc nc cc) M1 M2 E → Fq w P (.slice ow P.who.length cw) (.slice of P.fixed.length cf) (.slice or P.rules.length cr) gq ((V.setCell ⟨gw, j, none⟩ (.int .u64 (A : Int))).setCell ⟨gf, j, none⟩ (.int .i64 (-1))) P.users (.slice (some ⟨gw, 0, none⟩) M1.length ca) (.slice (some ⟨gf, 0, none⟩) M2.length cb) (.slice oc nc cc) (.slice (some ⟨gw, 0, none⟩) M1.length ca) (.slice (some ⟨gf, 0, none⟩) M2.length cb) (.slice oc nc cc) (M1.set j A) (M2.set j (-1)) E) := fun V hV => (hV.setW j A).setF j (-1)
          go_region_held3 (fun V => V.cell? ⟨gq, 1, none⟩ = some (.slice (some ⟨gw, 0, none⟩) M1.length ca) ∧ V.cell? ⟨gq, 2, none⟩ = some (.slice (some ⟨gf, 0, none⟩) M2.length cb) ∧ V.cell? ⟨w.heap.size, 0, none⟩ = some (.int .i64 P.users) ∧ V.cell? ⟨w.heap.size, 1, none⟩ = some (.slice ow P.who.length cw) ∧ V.cell? ⟨w.heap.size, 2, none⟩ = some (.slice of P.fixed.length cf) ∧ V.cell? ⟨w.heap.size, 3, none⟩ = some (.slice or P.rules.length cr)) (first | (exact hS7.out _ _ _ hQd.out) | (exact hS7.out _ _ _ hQ6.out) | (exact hS7.out _ _ _ (hSW.out _ hQ6.out)) | (exact hS7.out _ _ _ (hSF.out _ hQ6.out))) (first | (go_at_call 76; refine (KE.out _).mono ?_; rintro e w6 ⟨rfl, hb6⟩; have hQ6 := hide' (hQd.out.over hb6); have z1 := (hW1.out _ hQ6.out).1; have z2 := (hW1.out _ hQ6.out).2; have z3 := (hW2.out _ hQ6.out).1; have z4 := (hW2.out _ hQ6.out).2))
          all_goals
            go_wp2
            exact ⟨⟨j + 1, by omega, by go_num, by rw [e1.out, e2.out]; exact hSF.out _ hQ6.out⟩, by simp [intOf]; omega⟩
      · as_aux_lemma =>
        obtain rfl : j = P.who.length := by omega
        go_wp2
        go_meet
        exact hQ
  case rest =>
  clear hQ
  have hQ := hcut
  clear hc1' hc2' hk' h' hsr hfl'
  obtain ⟨M1, hM1⟩ : ∃ M, M = sprW fs (allW P.users) P.who P.who.length := ⟨_, rfl⟩
  obtain ⟨M2, hM2⟩ : ∃ M, M = sprW fs (-1) P.fixed P.who.length := ⟨_, rfl⟩
  have hX : RsX P fr fs M1 M2 := ⟨by rw [hM1, hM2]; rfl⟩
  rw [← hM1, ← hM2] at hQ
  clear hM1 hM2
  have p0 := hQ.out.qb.c0
  have p1 := hQ.out.qb.c1
  have p2 := hQ.out.qb.c2
  have p3 := hQ.out.qb.c3
  have f0 := hQ.out.z.frz 0
  have y0 := hQ.out.z.c0
  have f1 := (hQ.out.z.s0C P.users).frz 1
  have y1 := (hQ.out.z.s0C P.users).c1
  have f2 := ((hQ.out.z.s0C P.users).s1 (.slice oa na ca)).frz 2
  have y2 := ((hQ.out.z.s0C P.users).s1 (.slice oa na ca)).c2
  have f3 := (((hQ.out.z.s0C P.users).s1 (.slice oa na ca)).s2 (.slice ob nb cb)).frz 3
  have y3 := (((hQ.out.z.s0C P.users).s1 (.slice oa na ca)).s2 (.slice ob nb cb)).c3
  have x0 := ((((hQ.out.z.s0C P.users).s1 (.slice oa na ca)).s2 (.slice ob nb cb)).s3 (.slice oc nc cc)).c0
  have x1 := ((((hQ.out.z.s0C P.users).s1 (.slice oa na ca)).s2 (.slice ob nb cb)).s3 (.slice oc nc cc)).c1
  have x2 := ((((hQ.out.z.s0C P.users).s1 (.slice oa na ca)).s2 (.slice ob nb cb)).s3 (.slice oc nc cc)).c2
  have x3 := ((((hQ.out.z.s0C P.users).s1 (.slice oa na ca)).s2 (.slice ob nb cb)).s3 (.slice oc nc cc)).c3
  have hF := hide' (hQ.out.fin (.int .i64 P.users) (.slice oa na ca) (.slice ob nb cb) (.slice oc nc cc))
  rw [hE.out] at hF
  clear hQ hcut
  go_wp2
  refine bodyPost_ret (v := .agg #[.int .i64 P.users, .slice oa na ca, .slice ob nb cb, .slice oc nc cc]) (by simp [results, Tryz.results47, go_sem, x0, x1, x2, x3]) rfl ?_
  unfold RsP
  rw [hX.x]
  exact ⟨_, _, _, _, _, _, _, _, _, rfl, hF.out.1, hF.out.2.1, hF.out.2.2⟩
end Go.Proofs.YtlijlelejobchaaGreatDoor.S
namespace Go.Proofs.YtlijlelejobchaaGreatDoor.S
open Go.RowKit Go.Shelf
/-- What stands between the calls: a problem's box and rows, a solver and its box. -/
structure Wy (w : World) (P : Pb) (wv fv rv : Value) (gp gb gs a b c : Nat) (V : World) : Prop where
  pb : PbB V gp P wv fv rv
  pv : PbV V P wv fv rv
  bx : V.cell? ⟨gb, 0, none⟩ = some (.pointer (some ⟨gs, 0, none⟩))
  gg : GgAt V gs a b c
  tab : M.Tab V
  be : Below w.heap.size w V
  nep : gp ≠ gs
  neb : gb ≠ gs
  new : ∀ ad n c, wv = .slice (some ad) n c → ad.block ≠ gs
  hG : 1 ≤ gs
  le : w.heap.size ≤ gs
section
variable {w : World} {P : Pb} {wv fv rv : Value} {gp gb gs a b c a' b' c' : Nat} {V V' : World}
theorem Wy.over (h : Wy w P wv fv rv gp gb gs a b c V) (hb : Below V.heap.size V V') : Wy w P wv fv rv gp gb gs a b c V' :=
  ⟨h.pb.below hb, h.pv.below hb, M.cell_over h.bx hb, h.gg.below hb, h.tab.over hb, h.be.trans (hb.mono h.be.size), h.nep, h.neb, h.new, h.hG, h.le⟩
theorem Wy.fr (h : Wy w P wv fv rv gp gb gs a b c V) (hf : M.Fr2 V V' gs gs) (hg : GgAt V' gs a' b' c') : Wy w P wv fv rv gp gb gs a' b' c' V' := by
  refine ⟨(hf.block gp (Array.getElem?_eq_some_iff.1 h.pb).1 h.nep h.nep).trans h.pb, pbV_frame h.pv h.gg h.new hf, ?_, hg, tab_frame h.tab h.hG hf, hf.new h.be h.le h.le h.be.size, h.nep, h.neb, h.new, h.hG, h.le⟩
  have hl := cell_lt h.bx
  have hb := hf.block gb hl h.neb h.neb
  have := h.bx
  simp only [World.cell?] at this ⊢
  rw [hb]; exact this
end
/-- What a closure of Why's answers. -/
def WyP (w : World) (P : Pb) (wv fv rv : Value) (gp gb gs a b c : Nat) (s : Bool) (V : World) (e : Ending) (w' : World) : Prop :=
  e = .returned (.bool s) ∧ ∃ a' b' c', Hid (Wy w P wv fv rv gp gb gs a' b' c' w') ∧ Hid (a' ≤ a + 2000000000000 ∧ b' ≤ b + 2000000000000 ∧ c' ≤ c + 2000000000000) ∧ Hid (M.Fr2 V w' gs gs)
set_option maxRecDepth 100000 in
set_option maxHeartbeats 4000000 in
theorem why1F (w : World) (P : Pb) (wv fv rv : Value) (gp gb gs a b c : Nat) (fk : Nat) (cs : Array Value) (f : Nat → Bool) (V : World) (h : Wy w P wv fv rv gp gb gs a b c V) (hk : Pok P) (hC : chkN P = 0) (hf : Chs V fk cs f) (ha : a ≤ 1152921504606846976) (hb : b ≤ 1152921504606846976) (hc : c ≤ 1152921504606846976) :
    Calls Tryz.prog 46 #[.func (.func fk) #[] cs, .pointer (some ⟨gb, 0, none⟩), .pointer (some ⟨gp, 0, none⟩)] V (WyP w P wv fv rv gp gb gs a b c (stk P f (fun _ => false)) V) := by
  obtain ⟨g12, g0, g64, g32, gF, gW, gR⟩ := chkN_zero hC
  have hfl := (fixB_of gF g64).1
  have h' := hide' h
  have KR := hide' (restF P wv fv rv fk 48 cs #[] f (fun _ => false) V.drew (h.pv.below (Below.refl _ V).drew) hk g0 g64 hfl (hf.over (Below.refl _ V).drew) (nothing_chs _))
  have hXok := hide' (spP_ok hk g64 f (fun _ => false))
  have hbd : Hid (a ≤ 1152921504606846976 ∧ b ≤ 1152921504606846976 ∧ c ≤ 1152921504606846976) := ⟨ha, hb, hc⟩
  have hst : Hid (stk P f (fun _ => false) = !canB (spP P f (fun _ => false))) := rfl
  obtain ⟨ow, cw, of, cf, or, cr, rfl, rfl, rfl⟩ := h.pv.shape
  unfold RsP pbV at KR
  have hWd := hide' (h.over (Below.refl _ V).drew)
  rw [hst.out]
  clear h hk hC hf ha hb hc g12 g0 g64 g32 gF gW gR hfl hst
  generalize spP P f (fun _ => false) = X at *
  have hcl : Hid (∀ W a b c, Wy w P (.slice ow P.who.length cw) (.slice of P.fixed.length cf) (.slice or P.rules.length cr) gp gb gs a b c W → W.cell? ⟨gb, 0, none⟩ = some (.pointer (some ⟨gs, 0, none⟩)) ∧ W.cell? ⟨gp, 0, none⟩ = some (.int .i64 P.users) ∧ W.cell? ⟨gp, 1, none⟩ = some (.slice ow P.who.length cw) ∧ W.cell? ⟨gp, 2, none⟩ = some (.slice of P.fixed.length cf) ∧ W.cell? ⟨gp, 3, none⟩ = some (.slice or P.rules.length cr)) := fun W _ _ _ hW => ⟨hW.bx, hW.pb.c0, hW.pb.c1, hW.pb.c2, hW.pb.c3⟩
  have KCn : Hid (∀ W (x1 x2 x3 : Value), Wy w P (.slice ow P.who.length cw) (.slice of P.fixed.length cf) (.slice or P.rules.length cr) gp gb gs a b c W → PbV W X x1 x2 x3 → Calls Tryz.prog 12 #[.pointer (some ⟨gs, 0, none⟩), .agg #[.int .i64 X.users, x1, x2, x3]] W (CaP W X gs a b c)) := fun W x1 x2 x3 hW hX => canF X x1 x2 x3 gs a b c W hX hXok.out hW.gg hW.hG hW.tab (by have := hbd.out; omega) (by have := hbd.out; omega) (by have := hbd.out; omega)
  unfold CaP at KCn
  unfold WyP
  obtain ⟨bb, hbb⟩ : ∃ q, q = canB X := ⟨_, rfl⟩
  rw [← hbb] at KCn ⊢
  clear hbb
  go_enter Tryz.func46, Tryz.ntmps46
  go_upto_region 1 with fail
  go_region_held3 (fun W => W.cell? ⟨gb, 0, none⟩ = some (.pointer (some ⟨gs, 0, none⟩)) ∧ W.cell? ⟨gp, 0, none⟩ = some (.int .i64 P.users) ∧ W.cell? ⟨gp, 1, none⟩ = some (.slice ow P.who.length cw) ∧ W.cell? ⟨gp, 2, none⟩ = some (.slice of P.fixed.length cf) ∧ W.cell? ⟨gp, 3, none⟩ = some (.slice or P.rules.length cr)) (first | (exact hcl.out _ _ _ _ hWd.out) | (exact hcl.out _ _ _ _ hW1.out) | (exact hcl.out _ _ _ _ hW2.out)) (first | (go_at_call 47; refine KR.out.mono ?_; rintro e w1 ⟨o1, n1, c1, o2, n2, c2, o3, n3, c3, rfl, hV1, hb1, _⟩; have hW1 := hide' (hWd.out.over hb1.out)) | (go_at_call 12; refine (KCn.out _ _ _ _ hW1.out hV1.out).mono ?_; rintro e w2 ⟨rfl, a2, b2, c2', hg2, hgc2, hf2⟩; have hW2 := hide' (hW1.out.fr hf2.out hg2.out)))
  all_goals
    go_wp2
    go_ret
    have hle := hgc2.out.le (by decide)
    refine ⟨rfl, a2, b2, c2', hW2, ⟨by omega, by omega, by omega⟩, ?_⟩
    exact ⟨hf2.out.os.trans (hb1.out.os), hf2.out.tape.trans hb1.out.tape, hf2.out.output.trans hb1.out.output, Nat.le_trans hb1.out.size hf2.out.size, fun k hk h1 h2 => (hf2.out.block k (Nat.lt_of_lt_of_le hk hb1.out.size) h1 h2).trans (hb1.out.block k hk)⟩
set_option maxRecDepth 100000 in
set_option maxHeartbeats 4000000 in
theorem why2F (w : World) (P : Pb) (wv fv rv : Value) (gp gb gs a b c gr : Nat) (K : List Nat) (kv : Value) (fk : Nat) (cs : Array Value) (f : Nat → Bool) (V : World) (h : Wy w P wv fv rv gp gb gs a b c V) (hk : Pok P) (hC : chkN P = 0) (hf : Chs V fk cs f) (hr : V.cell? ⟨gr, 0, none⟩ = some kv) (hK : RowI V kv (ints K)) (hKl : K.length ≤ 1000) (hne : gr ≠ gs) (ha : a ≤ 1152921504606846976) (hb : b ≤ 1152921504606846976) (hc : c ≤ 1152921504606846976) :
    Calls Tryz.prog 49 #[.func (.func fk) #[] cs, .pointer (some ⟨gb, 0, none⟩), .pointer (some ⟨gp, 0, none⟩), .pointer (some ⟨gr, 0, none⟩)] V (WyP w P wv fv rv gp gb gs a b c (stk P (fun i => !K.contains i) f) V) := by
  obtain ⟨g12, g0, g64, g32, gF, gW, gR⟩ := chkN_zero hC
  have hfl := (fixB_of gF g64).1
  have hrd : V.drew.cell? ⟨gr, 0, none⟩ = some kv := hr
  have KB := hide' (besideF K kv V.drew (hK.below (Below.refl _ V).drew (Nat.le_refl _)) hKl)
  have hpv := h.pv
  have KR : Hid (∀ W g, Below V.drew.heap.size V.drew W → Chs W 77 #[.pointer (some ⟨g, 0, none⟩)] (fun i => !K.contains i) → Calls Tryz.prog 47 #[pbV P wv fv rv, .func (.func 77) #[] #[.pointer (some ⟨g, 0, none⟩)], .func (.func fk) #[] cs] W (RsP W (spP P (fun i => !K.contains i) f))) := fun W g hW hc2 => restF P wv fv rv 77 fk #[.pointer (some ⟨g, 0, none⟩)] cs (fun i => !K.contains i) f W ((hpv.below (Below.refl _ V).drew).below hW) hk g0 g64 hfl hc2 ((hf.over (Below.refl _ V).drew).over hW)
  have hXok := hide' (spP_ok hk g64 (fun i => !K.contains i) f)
  have hbd : Hid (a ≤ 1152921504606846976 ∧ b ≤ 1152921504606846976 ∧ c ≤ 1152921504606846976) := ⟨ha, hb, hc⟩
  have hst : Hid (stk P (fun i => !K.contains i) f = !canB (spP P (fun i => !K.contains i) f)) := rfl
  obtain ⟨ow, cw, of, cf, or, cr, rfl, rfl, rfl⟩ := h.pv.shape
  obtain ⟨ok, ck, rfl, _, _⟩ := hK
  unfold RsP pbV at KR
  have hWd := hide' (h.over (Below.refl _ V).drew)
  have hrl : Hid (∀ W : World, (∀ k, k < V.heap.size → k ≠ gs → W.heap[k]? = V.heap[k]?) → W.cell? ⟨gr, 0, none⟩ = some (.slice ok (ints K).length ck)) := fun W hW => by
    have hl := cell_lt hr
    have := hr
    simp only [World.cell?] at this ⊢
    rw [hW gr hl hne]; exact this
  rw [hst.out]
  clear h hk hC hf ha hb hc g12 g0 g64 g32 gF gW gR hfl hst hpv hr
  generalize spP P (fun i => !K.contains i) f = X at *
  have hcl : Hid (∀ W a b c, Wy w P (.slice ow P.who.length cw) (.slice of P.fixed.length cf) (.slice or P.rules.length cr) gp gb gs a b c W → (∀ k, k < V.heap.size → k ≠ gs → W.heap[k]? = V.heap[k]?) → W.cell? ⟨gb, 0, none⟩ = some (.pointer (some ⟨gs, 0, none⟩)) ∧ W.cell? ⟨gp, 0, none⟩ = some (.int .i64 P.users) ∧ W.cell? ⟨gp, 1, none⟩ = some (.slice ow P.who.length cw) ∧ W.cell? ⟨gp, 2, none⟩ = some (.slice of P.fixed.length cf) ∧ W.cell? ⟨gp, 3, none⟩ = some (.slice or P.rules.length cr) ∧ W.cell? ⟨gr, 0, none⟩ = some (.slice ok (ints K).length ck)) := fun W _ _ _ hW h2 => ⟨hW.bx, hW.pb.c0, hW.pb.c1, hW.pb.c2, hW.pb.c3, hrl.out W h2⟩
  have KCn : Hid (∀ W (x1 x2 x3 : Value), Wy w P (.slice ow P.who.length cw) (.slice of P.fixed.length cf) (.slice or P.rules.length cr) gp gb gs a b c W → PbV W X x1 x2 x3 → Calls Tryz.prog 12 #[.pointer (some ⟨gs, 0, none⟩), .agg #[.int .i64 X.users, x1, x2, x3]] W (CaP W X gs a b c)) := fun W x1 x2 x3 hW hX => canF X x1 x2 x3 gs a b c W hX hXok.out hW.gg hW.hG hW.tab (by have := hbd.out; omega) (by have := hbd.out; omega) (by have := hbd.out; omega)
  unfold CaP at KCn
  unfold WyP
  obtain ⟨bb, hbb⟩ : ∃ q, q = canB X := ⟨_, rfl⟩
  rw [← hbb] at KCn ⊢
  clear hbb hrl
  generalize (ints K).length = nk at *
  go_enter Tryz.func49, Tryz.ntmps49
  go_upto_region 1 with fail
  go_region_held3 (fun W => W.cell? ⟨gb, 0, none⟩ = some (.pointer (some ⟨gs, 0, none⟩)) ∧ W.cell? ⟨gp, 0, none⟩ = some (.int .i64 P.users) ∧ W.cell? ⟨gp, 1, none⟩ = some (.slice ow P.who.length cw) ∧ W.cell? ⟨gp, 2, none⟩ = some (.slice of P.fixed.length cf) ∧ W.cell? ⟨gp, 3, none⟩ = some (.slice or P.rules.length cr) ∧ W.cell? ⟨gr, 0, none⟩ = some (.slice ok nk ck)) (first | (exact hcl.out _ _ _ _ hWd.out (fun _ _ _ => rfl)) | (exact hcl.out _ _ _ _ hW0.out (fun k hk _ => hB0.out.block k hk)) | (exact hcl.out _ _ _ _ hW1.out (fun k hk _ => hB1.out.block k hk)) | (exact hcl.out _ _ _ _ hW2.out (fun k hk h1 => (hf2.out.block k (Nat.lt_of_lt_of_le hk hB1.out.size) h1 h1).trans (hB1.out.block k hk)))) (first | (go_at_call 50; refine KB.out.mono ?_; rintro e w0 ⟨g, rfl, hch, hB0⟩; have hW0 := hide' (hWd.out.over hB0.out)) | (go_at_call 47; refine (KR.out _ _ hB0.out hch.out).mono ?_; rintro e w1 ⟨o1, n1, c1, o2, n2, c2, o3, n3, c3, rfl, hV1, hb1, _⟩; have hW1 := hide' (hW0.out.over hb1.out); have hB1 : Hid (Below V.drew.heap.size V.drew w1) := hB0.out.trans (hb1.out.mono hB0.out.size)) | (go_at_call 12; refine (KCn.out _ _ _ _ hW1.out hV1.out).mono ?_; rintro e w2 ⟨rfl, a2, b2, c2', hg2, hgc2, hf2⟩; have hW2 := hide' (hW1.out.fr hf2.out hg2.out)))
  all_goals
    go_wp2
    go_ret
    have hle := hgc2.out.le (by decide)
    refine ⟨rfl, a2, b2, c2', hW2, ⟨by omega, by omega, by omega⟩, ?_⟩
    exact ⟨hf2.out.os.trans (hB1.out.os), hf2.out.tape.trans hB1.out.tape, hf2.out.output.trans hB1.out.output, Nat.le_trans hB1.out.size hf2.out.size, fun k hk h1 h2 => (hf2.out.block k (Nat.lt_of_lt_of_le hk hB1.out.size) h1 h2).trans (hB1.out.block k hk)⟩
end Go.Proofs.YtlijlelejobchaaGreatDoor.S
namespace Go.Proofs.YtlijlelejobchaaGreatDoor.S
open Go.RowKit Go.Shelf
/-- try, as it is called. -/
def leftV (B : Nat) : Value := .func (.func 73) #[] #[.pointer (some ⟨B + 1, 0, none⟩), .pointer (some ⟨B, 0, none⟩), .pointer (some ⟨B + 1 + 1, 0, none⟩)]
/-- What is asked of stuck. -/
def StkC (V0 : World) (gs : Nat) (fk : Nat) (cs : Array Value) (F : (Nat → Bool) → Bool) : Prop :=
  ∀ (V : World) (a b c fk' : Nat) (cs' : Array Value) (f : Nat → Bool), M.Fr2 V0 V gs gs → GgAt V gs a b c → a ≤ 1152921504606846976 → b ≤ 1152921504606846976 → c ≤ 1152921504606846976 → Chs V fk' cs' f →
    Calls Tryz.prog fk (#[.func (.func fk') #[] cs'] ++ cs) V fun e w' => e = .returned (.bool (F f)) ∧ ∃ a' b' c', Hid (GgAt w' gs a' b' c') ∧ Hid (a' ≤ a + 2000000000000 ∧ b' ≤ b + 2000000000000 ∧ c' ≤ c + 2000000000000) ∧ Hid (M.Fr2 V w' gs gs)
/-- What stands while left tries. -/
structure Lf (V0 : World) (gs : Nat) (fk : Nat) (cs : Array Value) (K : List Nat) (kv : Value) (a b c : Nat) (W : World) : Prop where
  fr : M.Fr2 V0 W gs gs
  gg : GgAt W gs a b c
  bu : Bo W V0.heap.size (.func (.func fk) #[] cs)
  bk : Bo W (V0.heap.size + 1) kv
  bt : Bo W (V0.heap.size + 1 + 1) (leftV V0.heap.size)
  row : W.ownsRow (V0.heap.size + 3) 3 1 kv K.length (cellsI (ints K))
  gl : gs < V0.heap.size
section
variable {V0 W W' : World} {gs fk : Nat} {cs : Array Value} {K : List Nat} {kv : Value} {a b c a' b' c' : Nat}
theorem Lf.sz (h : Lf V0 gs fk cs K kv a b c W) : V0.heap.size + 3 ≤ W.heap.size := h.bt.lt
theorem Lf.frame (h : Lf V0 gs fk cs K kv a b c W) (hf : M.Fr2 W W' gs gs) (hg : GgAt W' gs a' b' c') : Lf V0 gs fk cs K kv a' b' c' W' := by
  have hl := h.gl
  have k : ∀ g, g < W.heap.size → g ≠ gs → W'.heap[g]? = W.heap[g]? := fun g h1 h2 => hf.block g h1 h2 h2
  refine ⟨h.fr.trans hf, hg, h.bu.of (k _ h.bu.lt (by omega)), h.bk.of (k _ h.bk.lt (by omega)), h.bt.of (k _ h.bt.lt (by omega)), ?_, hl⟩
  exact own_same h.row fun g hg1 hg2 => k g hg1 (by have := own_ge' h.row hg2; omega)
theorem Lf.over (h : Lf V0 gs fk cs K kv a b c W) (hb : Below W.heap.size W W') : Lf V0 gs fk cs K kv a b c W' := h.frame (.below hb) (h.gg.below hb)
end
/-- What a call of try leaves as it was, and where the row lies behind it. -/
def Lk (V0 : World) (gs : Nat) (W w' : World) (kv kv' : Value) : Prop :=
  (∀ g, g < W.heap.size → g ≠ gs → g ≠ V0.heap.size + 1 → kv.ownBlock ≠ some g → w'.heap[g]? = W.heap[g]?) ∧ (∀ g, kv'.ownBlock = some g → kv.ownBlock = some g ∨ W.heap.size ≤ g) ∧ W.heap.size ≤ w'.heap.size
theorem Lk.of_fr {V0 W W' : World} {gs : Nat} {kv : Value} (h : M.Fr2 W W' gs gs) : Lk V0 gs W W' kv kv := ⟨fun g h1 h2 _ _ => h.block g h1 h2 h2, fun _ h => .inl h, h.size⟩
theorem Lk.trans {V0 W W1 W2 : World} {gs : Nat} {k0 k1 k2 : Value} (h : Lk V0 gs W W1 k0 k1) (k : Lk V0 gs W1 W2 k1 k2) : Lk V0 gs W W2 k0 k2 := by
  refine ⟨fun g h1 h2 h3 h4 => ?_, fun g hg => ?_, Nat.le_trans h.2.2 k.2.2⟩
  · rw [k.1 g (Nat.lt_of_lt_of_le h1 h.2.2) h2 h3 (fun e => ?_), h.1 g h1 h2 h3 h4]
    rcases h.2.1 g e with q | q
    · exact h4 q
    · omega
  · rcases k.2.1 g hg with q | q
    · exact h.2.1 g q
    · exact .inr (Nat.le_trans h.2.2 q)
/-- What a call of try answers. -/
def LfP (V0 : World) (gs : Nat) (fk : Nat) (cs : Array Value) (K' : List Nat) (kv : Value) (a b c d : Nat) (W : World) (e : Ending) (w' : World) : Prop :=
  e = .returned (.tuple #[]) ∧ ∃ kv' a' b' c', Hid (Lf V0 gs fk cs K' kv' a' b' c' w') ∧ Hid (a' ≤ a + 2000000000000 * (2 * d - 1) ∧ b' ≤ b + 2000000000000 * (2 * d - 1) ∧ c' ≤ c + 2000000000000 * (2 * d - 1)) ∧ Hid (Lk V0 gs W w' kv kv')
theorem grd_len (F : (Nat → Bool) → Bool) : ∀ (d : Nat) (K : List Nat) (f : Nat), (grd F K f d).length ≤ K.length + d
  | 0, K, _ => Nat.le_refl _
  | d + 1, K, f => by
    have := grd_len F d (if F (sprd K (f + 1)) = true then K else K ++ [f]) (f + 1)
    show (grd F (if F (sprd K (f + 1)) = true then K else K ++ [f]) (f + 1) d).length ≤ _
    split at this
    · rename_i h; rw [if_pos h]; omega
    · rename_i h; rw [if_neg h]; simp at this; omega
theorem ints_snoc1 (K : List Nat) (x : Nat) : cellsI (ints (K ++ [x])) = cellsI (ints K) ++ [.int .i64 (x : Int)] := by
  unfold cellsI ints
  simp
theorem Lf.app {V0 W w1 : World} {gs fk : Nat} {cs : Array Value} {K : List Nat} {kv : Value} {a b c x g cap : Nat} (h : Lf V0 gs fk cs K kv a b c W)
    (hown : w1.ownsRow (V0.heap.size + 3) 3 1 (.slice (some ⟨g, 0, none⟩) (K.length + 1) cap) (K.length + 1) (cellsI (ints K) ++ [.int .i64 (x : Int)])) (hgr : (W.alloc (.cells #[.int .i64 (x : Int)] 3)).grownBy w1 kv.ownBlock) (hat : kv.ownBlock = some g ∨ g = W.heap.size + 1) :
    Bo w1 (V0.heap.size + 1) kv ∧ Lf V0 gs fk cs (K ++ [x]) (.slice (some ⟨g, 0, none⟩) (K.length + 1) cap) a b c (w1.setCell ⟨V0.heap.size + 1, 0, none⟩ (.slice (some ⟨g, 0, none⟩) (K.length + 1) cap)) ∧ Lk V0 gs W (w1.setCell ⟨V0.heap.size + 1, 0, none⟩ (.slice (some ⟨g, 0, none⟩) (K.length + 1) cap)) kv (.slice (some ⟨g, 0, none⟩) (K.length + 1) cap) := by
  have hA : Below W.heap.size W (W.alloc (.cells #[.int .i64 (x : Int)] 3)) := (Below.refl _ W).alloc (Nat.le_refl _) _
  have h1 := h.over hA
  have hg0 : ∀ k, kv.ownBlock = some k → V0.heap.size + 3 ≤ k := fun k e => own_ge' h.row e
  have hl := h.gl
  have hs := h.sz
  have hsz : (W.alloc (.cells #[.int .i64 (x : Int)] 3)).heap.size = W.heap.size + 1 := World.size_alloc _ _
  have hz := hgr.size
  rw [hsz] at hz
  have hk : ∀ k, k < W.heap.size → kv.ownBlock ≠ some k → w1.heap[k]? = W.heap[k]? := fun k h2 h3 => by
    rw [hgr.block k (by rw [hsz]; omega) (fun e => h3 e.symm), hA.block k h2]
  have hlo : ∀ k, k < V0.heap.size + 3 → w1.heap[k]? = W.heap[k]? := fun k h2 => hk k (by omega) (fun e => by have := hg0 k e; omega)
  have bk : Bo w1 (V0.heap.size + 1) kv := h.bk.of (hlo _ (by omega))
  have hset : ∀ (u : Value) k, k ≠ V0.heap.size + 1 → (w1.setCell ⟨V0.heap.size + 1, 0, none⟩ u).heap[k]? = w1.heap[k]? := fun u k hk => Below.heap_setCell _ _ _ _ hk
  have hss : ∀ u : Value, (w1.setCell ⟨V0.heap.size + 1, 0, none⟩ u).heap.size = w1.heap.size := fun u => by simp [World.setCell]
  have hgge : V0.heap.size + 3 ≤ g := by
    rcases hat with e | e
    · exact hg0 g e
    · omega
  refine ⟨bk, ⟨?_, ?_, ?_, bk.set _, ?_, ?_, hl⟩, ⟨fun k h2 h3 h4 h5 => ?_, fun k e => ?_, ?_⟩⟩
  · refine ⟨hgr.os.trans h1.fr.os, hgr.tape.trans h1.fr.tape, hgr.output.trans h1.fr.output, ?_, fun k h2 h3 h4 => ?_⟩
    · rw [hss]; omega
    · rw [hset _ k (by omega), hlo k (by omega)]
      exact h.fr.block k h2 h3 h4
  · exact World.rowIs.of_block h.gg (by rw [hset _ gs (by omega), hlo gs (by omega)])
  · exact h.bu.of (by rw [hset _ _ (by omega), hlo _ (by omega)])
  · exact h.bt.of (by rw [hset _ _ (by omega), hlo _ (by omega)])
  · rw [List.length_append, ints_snoc1]
    exact own_set hown (by omega) _
  · rw [hset _ k (by omega), hk k h2 h5]
  · have e' : g = k := by simpa [Value.ownBlock] using e
    subst e'
    rcases hat with q | q
    · exact .inl q
    · exact .inr (by omega)
  · rw [hss]; omega
end Go.Proofs.YtlijlelejobchaaGreatDoor.S
namespace Go.Proofs.YtlijlelejobchaaGreatDoor.S
open Go.RowKit Go.Shelf
theorem news1 (w : World) (x : Value) (t : TypeId) : ∀ j u, ([x] : List Value)[j]? = some u → (w.alloc (.cells #[x] t)).cell? ((⟨w.heap.size, 0, none⟩ : Addr).add j) = some u := World.news_of_block (cs := #[x]) (B := w.heap.size) (w := w.alloc (.cells #[x] t)) (World.alloc_heap_new w _)
theorem ent_left : ∀ args w, (callFunc 73 args).run Tryz.prog w = .ok (.enter 73 args) w := enters_of Tryz.func73 (by kernel_rfl) rfl
set_option maxRecDepth 100000 in
set_option maxHeartbeats 4000000 in
theorem leftF1 (V0 : World) (gs fk : Nat) (cs : Array Value) (F : (Nat → Bool) → Bool) (hS : StkC V0 gs fk cs F) (en : ∀ args w, (callFunc fk args).run Tryz.prog w = .ok (.enter fk args) w) (hA : Anti F) : ∀ (d lo hi : Nat), lo + d = hi → hi ≤ 100 → ∀ (K : List Nat) (kv : Value) (a b c : Nat) (W : World), K.length ≤ lo → Lf V0 gs fk cs K kv a b c W → a + 2000000000000 * (2 * d) ≤ 1152921504606846976 → b + 2000000000000 * (2 * d) ≤ 1152921504606846976 → c + 2000000000000 * (2 * d) ≤ 1152921504606846976 →
    Calls Tryz.prog 73 #[.int .i64 (lo : Int), .int .i64 (hi : Int), .pointer (some ⟨V0.heap.size + 1, 0, none⟩), .pointer (some ⟨V0.heap.size, 0, none⟩), .pointer (some ⟨V0.heap.size + 1 + 1, 0, none⟩)] W (LfP V0 gs fk cs (grd F K lo d) kv a b c d W) := by
  intro d
  induction d using Nat.strongRecOn with
  | ind d ih =>
  intro lo hi hhi h100 K kv a b c W hKl hW ha hb hc
  have hB1 : Hid (Below W.heap.size W (W.alloc (.cells #[.int .i64 (hi : Int)] 3))) := (Below.refl _ W).alloc (Nat.le_refl _) _
  have hW' := hide' hW
  unfold LfP
  by_cases hd : d = 0
  · obtain rfl : lo = hi := by omega
    subst hd
    clear ih
    have hG : Hid (grd F K lo 0 = K) := rfl
    have hee : ((lo : Int) == (lo : Int)) = true := by simp
    clear hW ha hb hc hhi
    go_enter Tryz.func73, Tryz.ntmps73
    go_wp2
    first | go_end0 | refine bodyPost_ret (results_none rfl _ _ _) rfl ?_
    refine ⟨rfl, kv, a, b, c, ?_, ⟨by omega, by omega, by omega⟩, Lk.of_fr (.below hB1.out)⟩
    rw [hG.out]
    exact hW'.out.over hB1.out
  have hne : ((lo : Int) == (hi : Int)) = false := by simp; omega
  have hlo : lo ≤ 100 := by omega
  have hW1 := hide' (hW.over hB1.out)
  have hC1 := spared_chs (K := K) (v := kv) (gt := W.heap.size) (gk := V0.heap.size + 1) (hi := hi) (V := W.alloc (.cells #[.int .i64 (hi : Int)] 3)) (Bo.new W _ _).c hW1.out.bk.c (RowI.of_owns hW1.out.row) (by omega)
  have KS := hide' (hS _ a b c _ _ _ hW1.out.fr hW1.out.gg (by omega) (by omega) (by omega) hC1)
  have cu := hW1.out.bu.c
  have ct : (W.alloc (.cells #[.int .i64 (hi : Int)] 3)).cell? ⟨W.heap.size, 0, none⟩ = some (.int .i64 (hi : Int)) := (Bo.new W _ _).c
  have hBt : Hid (Bo (W.alloc (.cells #[.int .i64 (hi : Int)] 3)) W.heap.size (.int .i64 (hi : Int))) := Bo.new W _ _
  have hkvl : Hid (∀ g, kv.ownBlock = some g → g < W.heap.size) := fun g e => (hW.row.lt g e).2
  have hgl := hW.gl
  have hsz := hW.sz
  have hbd : Hid (a + 2000000000000 * (2 * d) ≤ 1152921504606846976 ∧ b + 2000000000000 * (2 * d) ≤ 1152921504606846976 ∧ c + 2000000000000 * (2 * d) ≤ 1152921504606846976) := ⟨ha, hb, hc⟩
  have hLe : Hid (∀ w2, M.Fr2 (W.alloc (.cells #[.int .i64 (hi : Int)] 3)) w2 gs gs → Bo w2 W.heap.size (.int .i64 (hi : Int)) ∧ Lk V0 gs W w2 kv kv) := fun w2 hf => ⟨hBt.out.of (hf.block _ hBt.out.lt (by omega) (by omega)), (Lk.of_fr (.below hB1.out)).trans (Lk.of_fr hf)⟩
  have hA' := hide' hA
  have ih' := hide' ih
  have hhi' := hide' hhi
  clear hW ha hb hc hS hC1 hA ih hBt
  cases hF : F (sprd K hi)
  · rw [hF] at KS
    by_cases hd1 : d = 1
    · subst hd1
      have hG : Hid (grd F K lo 1 = K ++ [lo]) := grd_one F K lo (by rw [hhi'.out]; exact hF)
      have hee : ((lo : Int) + 1 == (hi : Int)) = true := by have := hhi'.out; simp; omega
      clear ih' hF hhi
      obtain ⟨i0, hi0, hz0, hz1, hz2⟩ := info_parts info3
      obtain ⟨ok, ck, rfl⟩ := own_shp hW1.out.row
      go_enter Tryz.func73, Tryz.ntmps73
      go_wp2_with (first | (go_at_fn fk; refine KS.out.mono ?_; rintro e w2 ⟨rfl, a2, b2, c2, hg2, hle2, hf2⟩; have hL2 := hide' (hW1.out.frame hf2.out hg2.out); have hX2 := hide' (hLe.out w2 hf2.out); have ck2 := hL2.out.bk.c; have cf2 := hL2.out.bk.fz; have ct2 := hX2.out.1.c; have hs2 := hL2.out.sz) | (at_builtin; go_loud (refine wpList_append_lies _ rfl _ _ 23 rfl (V0.heap.size + 3) 3 i0 (.int .i64 0) 1 8 Tryz.underlying23 hi0 hz0 hz1 hz2 rfl (by decide) (.slice ok K.length ck) K.length (cellsI (ints K)) rfl (hL2.out.row.alloc _) ⟨w2.heap.size, 0, none⟩ 1 1 [.int .i64 (lo : Int)] rfl rfl (news1 _ _ _) (by simp [Value.oneCell']) (by decide) (by unfold maxLen; omega) (by omega) (by simp; omega) _ rfl ?_); intro g3 cap3 w3 hown3 hgr3 hat3 hlt3; have hX := hide' (hL2.out.app hown3 hgr3 (hat3.imp id (fun e => by simpa using e))); have cX := hX.out.1.c; have fX := hX.out.1.fz))
      first | go_end0 | refine bodyPost_ret (results_none rfl _ _ _) rfl ?_
      refine ⟨rfl, _, a2, b2, c2, ?_, ?_, hX2.out.2.trans hX.out.2.2⟩
      · rw [hG.out]; exact hX.out.2.1
      · have := hle2.out
        exact ⟨by omega, by omega, by omega⟩
    · obtain ⟨m, hm⟩ : ∃ m, m = (lo + hi) / 2 := ⟨_, rfl⟩
      obtain ⟨d1, hd1'⟩ : ∃ d1, lo + d1 = m := ⟨m - lo, by have := hhi'.out; omega⟩
      obtain ⟨d2, hd2⟩ : ∃ d2, m + d2 = hi := ⟨hi - m, by have := hhi'.out; omega⟩
      have hdd : Hid (d1 + d2 = d ∧ 0 < d1 ∧ 0 < d2) := by have := hhi'.out; exact ⟨by omega, by omega, by omega⟩
      have hee : ((lo : Int) + 1 == (hi : Int)) = false := by have := hhi'.out; simp; omega
      have hq : ((lo : Int) + (hi : Int)).tdiv 2 = (m : Int) := by rw [Int.tdiv_eq_ediv_of_nonneg (by omega)]; omega
      have hm100 : m ≤ 100 := by omega
      have hG : Hid (grd F K lo d = grd F (grd F K lo d1) m d2) := by
        show _ = _
        rw [← hdd.out.1, grd_add, hd1']
      have hgl1 := grd_len F d1 K lo
      have KR1 : Hid (∀ V a b c, Lf V0 gs fk cs K kv a b c V → a + 2000000000000 * (2 * d1) ≤ 1152921504606846976 → b + 2000000000000 * (2 * d1) ≤ 1152921504606846976 → c + 2000000000000 * (2 * d1) ≤ 1152921504606846976 → Calls Tryz.prog 73 #[.int .i64 (lo : Int), .int .i64 (m : Int), .pointer (some ⟨V0.heap.size + 1, 0, none⟩), .pointer (some ⟨V0.heap.size, 0, none⟩), .pointer (some ⟨V0.heap.size + 1 + 1, 0, none⟩)] V (LfP V0 gs fk cs (grd F K lo d1) kv a b c d1 V)) := fun V a b c hV q1 q2 q3 => ih'.out d1 (by have := hdd.out; omega) lo m hd1' hm100 K kv a b c V hKl hV q1 q2 q3
      generalize hK1 : grd F K lo d1 = K1 at *
      have KR2 : Hid (∀ V kv1 a b c, Lf V0 gs fk cs K1 kv1 a b c V → a + 2000000000000 * (2 * d2) ≤ 1152921504606846976 → b + 2000000000000 * (2 * d2) ≤ 1152921504606846976 → c + 2000000000000 * (2 * d2) ≤ 1152921504606846976 → Calls Tryz.prog 73 #[.int .i64 (m : Int), .int .i64 (hi : Int), .pointer (some ⟨V0.heap.size + 1, 0, none⟩), .pointer (some ⟨V0.heap.size, 0, none⟩), .pointer (some ⟨V0.heap.size + 1 + 1, 0, none⟩)] V (LfP V0 gs fk cs (grd F K1 m d2) kv1 a b c d2 V)) := fun V kv1 a b c hV q1 q2 q3 => ih'.out d2 (by have := hdd.out; omega) m hi hd2 h100 K1 kv1 a b c V (by omega) hV q1 q2 q3
      unfold LfP at KR1 KR2
      clear ih' hF hm hd1' hd2 hK1 hgl1 hhi
      go_enter Tryz.func73, Tryz.ntmps73
      go_wp2_with (first | (go_at_fn fk; refine KS.out.mono ?_; rintro e w2 ⟨rfl, a2, b2, c2, hg2, hle2, hf2⟩; have hL2 := hide' (hW1.out.frame hf2.out hg2.out); have hX2 := hide' (hLe.out w2 hf2.out); have cb2 := hL2.out.bt.c; unfold leftV at cb2; have ct2 := hX2.out.1.c; have hs2 := hL2.out.sz))
      refine (KR1.out w2 a2 b2 c2 hL2.out (by have := hle2.out; have := hbd.out; have := hdd.out; omega) (by have := hle2.out; have := hbd.out; have := hdd.out; omega) (by have := hle2.out; have := hbd.out; have := hdd.out; omega)).mono ?_
      rintro e w3 ⟨rfl, kv3, a3, b3, c3, hL3, hle3, hk3⟩
      have cb3 := hL3.out.bt.c
      unfold leftV at cb3
      have ct3 := (hX2.out.1.of (hk3.out.1 _ hX2.out.1.lt (by omega) (by omega) (fun e => by have := hkvl.out _ e; omega))).c
      clear cb2 ct2
      go_wp2_with fail
      refine (KR2.out w3 kv3 a3 b3 c3 hL3.out (by have := hle2.out; have := hle3.out; have := hbd.out; have := hdd.out; omega) (by have := hle2.out; have := hle3.out; have := hbd.out; have := hdd.out; omega) (by have := hle2.out; have := hle3.out; have := hbd.out; have := hdd.out; omega)).mono ?_
      rintro e w4 ⟨rfl, kv4, a4, b4, c4, hL4, hle4, hk4⟩
      go_wp2
      first | go_end0 | refine bodyPost_ret (results_none rfl _ _ _) rfl ?_
      refine ⟨rfl, kv4, a4, b4, c4, ?_, ?_, (hX2.out.2.trans hk3.out).trans hk4.out⟩
      · rw [hG.out]; exact hL4
      · have := hle2.out
        have := hle3.out
        have := hle4.out
        have := hdd.out
        exact ⟨by omega, by omega, by omega⟩
  · rw [hF] at KS
    have hG := hide' (grd_all hA'.out d K lo (by rw [hhi'.out]; exact hF))
    clear ih' hF
    go_enter Tryz.func73, Tryz.ntmps73
    go_wp2_with (first | (go_at_fn fk; refine KS.out.mono ?_; rintro e w2 ⟨rfl, a2, b2, c2, hg2, hle2, hf2⟩))
    first | go_end0 | refine bodyPost_ret (results_none rfl _ _ _) rfl ?_
    refine ⟨rfl, kv, a2, b2, c2, ?_, ?_, (hLe.out _ hf2.out).2⟩
    · rw [hG.out]
      exact hW1.out.frame hf2.out hg2.out
    · have := hle2.out
      exact ⟨by omega, by omega, by omega⟩
end Go.Proofs.YtlijlelejobchaaGreatDoor.S
namespace Go.Proofs.YtlijlelejobchaaGreatDoor.S
open Go.RowKit Go.Shelf
theorem sprW_none {α : Type} (x : α) (L : List α) : ∀ j, sprW (fun _ => false) x L j = L
  | 0 => rfl
  | j + 1 => by unfold sprW; rw [if_neg (by decide)]; exact sprW_none x L j
theorem sprR_none (R : List Rl) : ∀ k, k ≤ R.length → sprR (fun _ => false) R k = R.take k
  | 0, _ => by simp [sprR]
  | k + 1, h => by
    unfold sprR
    rw [sprR_none R k (by omega), if_neg (by decide), List.take_add_one]
theorem spP_none (P : Pb) : spP P (fun _ => false) (fun _ => false) = P := by
  unfold spP
  rw [sprW_none, sprW_none, sprR_none _ _ (Nat.le_refl _), List.take_length]
/-- The choice of those that are not kept. -/
def ntC (K : List Nat) : Nat → Bool := fun i => !K.contains i
noncomputable def stF1 (P : Pb) (f : Nat → Bool) : Bool := stk P f (fun _ => false)
noncomputable def stF2 (P : Pb) (K : List Nat) (f : Nat → Bool) : Bool := stk P (ntC K) f
theorem stF1_anti {P : Pb} (h : chkN P = 0) : Anti (stF1 P) := fun _ _ hfg hg => stk_mono h (fun i _ e => hfg i e) (fun _ _ e => e) hg
theorem stF2_anti {P : Pb} (h : chkN P = 0) (K : List Nat) : Anti (stF2 P K) := fun _ _ hfg hg => stk_mono h (fun _ _ e => e) (fun i _ e => hfg i e) hg
noncomputable def whyA (P : Pb) : List Nat := grd (stF1 P) [] 0 P.rules.length
noncomputable def whyB (P : Pb) : List Nat := grd (stF2 P (whyA P)) [] 0 P.who.length
theorem sprd_nt (K : List Nat) {n i : Nat} (h : i < n) : sprd K n i = ntC K i := by
  unfold sprd ntC
  rw [decide_eq_true h, Bool.true_and]
structure Need (P : Pb) (a b : List Nat) : Prop where
  ok : stk P (ntC a) (ntC b) = true
  ra : ∀ x ∈ a, x < P.rules.length ∧ stk P (fun i => ntC a i || decide (i = x)) (ntC b) = false
  rb : ∀ x ∈ b, x < P.who.length ∧ stk P (ntC a) (fun i => ntC b i || decide (i = x)) = false
theorem sprd_le_nt {K K0 : List Nat} {x : Nat} (h : ∀ k ∈ K, k < x → k ∈ K0) (i : Nat) (hi : sprd K0 (x + 1) i = true) : (ntC K i || decide (i = x)) = true := by
  unfold sprd at hi
  rw [Bool.and_eq_true] at hi
  have h1 := of_decide_eq_true hi.1
  have h2 : i ∉ K0 := by simpa using hi.2
  by_cases e : i = x
  · rw [decide_eq_true e, Bool.or_true]
  · have h3 : i ∉ K := fun q => h2 (h i q (by omega))
    unfold ntC
    rw [Bool.or_eq_true]
    exact .inl (by simpa using h3)
theorem stk_false_mono {P : Pb} (h : chkN P = 0) {fr fs fr' fs' : Nat → Bool} (hr : ∀ i, i < P.rules.length → fr i = true → fr' i = true) (hs : ∀ t, t < P.who.length → fs t = true → fs' t = true) (hb : stk P fr fs = false) : stk P fr' fs' = false := by
  cases e : stk P fr' fs' with
  | false => rfl
  | true => rw [stk_mono h hr hs e] at hb; cases hb
theorem need_of {P : Pb} (h : chkN P = 0) (hc : canB P = false) : Need P (whyA P) (whyB P) := by
  have k1 : Kpt (stF1 P) (whyA P) (0 + P.rules.length) := Kpt.grd (stF1_anti h) P.rules.length (Kpt.start (by
    show stk P (sprd [] 0) (fun _ => false) = true
    rw [stk_congr h (fr' := fun _ => false) (fs' := fun _ => false) (fun i _ => by unfold sprd; rw [decide_eq_false (by omega)]; rfl) (fun _ _ => rfl)]
    unfold stk
    rw [spP_none, hc]; rfl))
  rw [Nat.zero_add] at k1
  have k2 : Kpt (stF2 P (whyA P)) (whyB P) (0 + P.who.length) := Kpt.grd (stF2_anti h _) P.who.length (Kpt.start (by
    show stk P (ntC (whyA P)) (sprd [] 0) = true
    rw [stk_congr h (fr' := sprd (whyA P) P.rules.length) (fs' := fun _ => false) (fun i hi => (sprd_nt _ hi).symm) (fun i _ => by unfold sprd; rw [decide_eq_false (by omega)]; rfl)]
    exact k1.ok))
  rw [Nat.zero_add] at k2
  refine ⟨?_, fun x hx => ⟨k1.lt x hx, ?_⟩, fun x hx => ⟨k2.lt x hx, ?_⟩⟩
  · have := k2.ok
    unfold stF2 at this
    rw [stk_congr h (fr' := ntC (whyA P)) (fs' := ntC (whyB P)) (fun _ _ => rfl) (fun i hi => sprd_nt _ hi)] at this
    exact this
  · obtain ⟨K0, a1, a2, a3⟩ := k1.need x hx
    exact stk_false_mono h (fun i _ e => sprd_le_nt a2 i e) (fun _ _ e => by cases e) a3
  · obtain ⟨K0, a1, a2, a3⟩ := k2.need x hx
    exact stk_false_mono h (fun _ _ e => e) (fun i _ e => sprd_le_nt a2 i e) a3
/-- The numbers that are left. -/
def rsL (n : Nat) (K : List Nat) : List Nat := (List.range n).filter fun i => ntC K i
theorem mem_rsL {n : Nat} {K : List Nat} {i : Nat} : i ∈ rsL n K ↔ i < n ∧ ntC K i = true := by
  unfold rsL
  rw [List.mem_filter, List.mem_range]
theorem rsL_succ (n : Nat) (K : List Nat) : rsL (n + 1) K = rsL n K ++ (if ntC K n = true then [n] else []) := by
  unfold rsL
  rw [List.range_succ, List.filter_append]
  simp only [List.filter_cons, List.filter_nil]
theorem rsL_len (n : Nat) (K : List Nat) : (rsL n K).length ≤ n := by
  unfold rsL
  have := List.length_filter_le (fun i => ntC K i) (List.range n)
  rw [List.length_range] at this
  exact this
end Go.Proofs.YtlijlelejobchaaGreatDoor.S
namespace Go.Proofs.YtlijlelejobchaaGreatDoor.S
open Go.RowKit Go.Shelf
theorem Lf.start {w : World} {gs fk : Nat} {cs : Array Value} {a b c : Nat} (hg : GgAt w gs a b c) (T1 T2 T3 : TypeId) :
    Lf w gs fk cs [] (.slice none 0 0) a b c (((w.alloc (.cells #[.func (.func fk) #[] cs] T1)).alloc (.cells #[.slice none 0 0] T2)).alloc (.cells #[leftV w.heap.size] T3)) := by
  have hl := hg.lt
  have b1 : Below w.heap.size w (w.alloc (.cells #[.func (.func fk) #[] cs] T1)) := (Below.refl _ w).alloc (Nat.le_refl _) _
  have n1 := Bo.new w (.func (.func fk) #[] cs) T1
  have s1 : (w.alloc (.cells #[.func (.func fk) #[] cs] T1)).heap.size = w.heap.size + 1 := World.size_alloc _ _
  generalize w.alloc (.cells #[.func (.func fk) #[] cs] T1) = w1 at *
  have b2 : Below w1.heap.size w1 (w1.alloc (.cells #[.slice none 0 0] T2)) := (Below.refl _ w1).alloc (Nat.le_refl _) _
  have n2 := Bo.new w1 (.slice none 0 0) T2
  have s2 : (w1.alloc (.cells #[.slice none 0 0] T2)).heap.size = w.heap.size + 1 + 1 := by rw [World.size_alloc, s1]
  generalize w1.alloc (.cells #[.slice none 0 0] T2) = w2 at *
  have b3 : Below w2.heap.size w2 (w2.alloc (.cells #[leftV w.heap.size] T3)) := (Below.refl _ w2).alloc (Nat.le_refl _) _
  have n3 := Bo.new w2 (leftV w.heap.size) T3
  generalize w2.alloc (.cells #[leftV w.heap.size] T3) = w3 at *
  rw [s2] at n3
  rw [s1] at n2
  have b12 : Below w.heap.size w w2 := b1.trans (b2.mono b1.size)
  have b13 : Below w.heap.size w w3 := b12.trans (b3.mono b12.size)
  exact ⟨.below b13, hg.below b13, (n1.over b2).over b3, n2.over b3, n3, World.ownsRow_nil _ _ _ _, hl⟩
set_option maxRecDepth 100000 in
set_option maxHeartbeats 2000000 in
theorem leftF (n : Nat) (hn : n ≤ 90) (w : World) (gs fk : Nat) (cs : Array Value) (F : (Nat → Bool) → Bool) (hS : StkC w gs fk cs F) (en : ∀ args w, (callFunc fk args).run Tryz.prog w = .ok (.enter fk args) w) (hA : Anti F) (a b c : Nat) (hg : GgAt w gs a b c) (ha : a + 2000000000000 * (2 * n) ≤ 1152921504606846976) (hb : b + 2000000000000 * (2 * n) ≤ 1152921504606846976) (hc : c + 2000000000000 * (2 * n) ≤ 1152921504606846976) :
    Calls Tryz.prog 45 #[.int .i64 (n : Int), .func (.func fk) #[] cs] w fun e w' => ∃ o k a' b' c', e = .returned (.slice o (grd F [] 0 n).length k) ∧ Hid (w'.ownsRow (w.heap.size + 3) 3 1 (.slice o (grd F [] 0 n).length k) (grd F [] 0 n).length (cellsI (ints (grd F [] 0 n)))) ∧ Hid (GgAt w' gs a' b' c') ∧ Hid (a' ≤ a + 2000000000000 * (2 * n) ∧ b' ≤ b + 2000000000000 * (2 * n) ∧ c' ≤ c + 2000000000000 * (2 * n)) ∧ Hid (M.Fr2 w w' gs gs) := by
  have KL : Hid (∀ W, Lf w gs fk cs [] (.slice none 0 0) a b c W → Calls Tryz.prog 73 #[.int .i64 0, .int .i64 (n : Int), .pointer (some ⟨w.heap.size + 1, 0, none⟩), .pointer (some ⟨w.heap.size, 0, none⟩), .pointer (some ⟨w.heap.size + 1 + 1, 0, none⟩)] W (LfP w gs fk cs (grd F [] 0 n) (.slice none 0 0) a b c n W)) := fun W hW => leftF1 w gs fk cs F hS en hA n 0 n (by omega) (by omega) [] _ a b c W (Nat.le_refl _) hW ha hb hc
  unfold LfP at KL
  have hst : Hid (∀ T1 T2 T3 : TypeId, Lf w gs fk cs [] (.slice none 0 0) a b c (((w.alloc (.cells #[.func (.func fk) #[] cs] T1)).alloc (.cells #[.slice none 0 0] T2)).alloc (.cells #[leftV w.heap.size] T3))) := fun T1 T2 T3 => Lf.start hg T1 T2 T3
  unfold leftV at hst
  clear hS hA hg ha hb hc en
  generalize grd F [] 0 n = K at *
  go_enter Tryz.func45, Tryz.ntmps45
  go_wp2_with fail
  refine (KL.out _ (hst.out _ _ _)).mono ?_
  rintro e w1 ⟨rfl, kv, a1, b1, c1, hL1, hle1, hk1⟩
  have ck := hL1.out.bk.c
  have hR := hide' hL1.out.row
  have hgg := hide' hL1.out.gg
  have hfr := hide' hL1.out.fr
  obtain ⟨ok, kk, rfl⟩ := own_shp hR.out
  clear hL1 hk1 KL hst
  go_wp2
  go_ret
  have := hle1.out
  exact ⟨ok, kk, a1, b1, c1, rfl, hR, hgg, ⟨by omega, by omega, by omega⟩, hfr⟩
theorem stkC1 {w : World} {P : Pb} {wv fv rv : Value} {gp gb gs a b c : Nat} {V0 : World} (h : Wy w P wv fv rv gp gb gs a b c V0) (hk : Pok P) (hC : chkN P = 0) : StkC V0 gs 46 #[.pointer (some ⟨gb, 0, none⟩), .pointer (some ⟨gp, 0, none⟩)] (stF1 P) :=
  fun V a' b' c' fk' cs' f hf hg ha hb hc hch => (why1F w P wv fv rv gp gb gs a' b' c' fk' cs' f V (h.fr hf hg) hk hC hch ha hb hc).mono fun _ _ ⟨h1, a2, b2, c2, h2, h3, h4⟩ => ⟨h1, a2, b2, c2, h2.out.gg, h3, h4⟩
theorem stkC2 {w : World} {P : Pb} {wv fv rv : Value} {gp gb gs a b c gr : Nat} {K : List Nat} {kv : Value} {V0 : World} (h : Wy w P wv fv rv gp gb gs a b c V0) (hk : Pok P) (hC : chkN P = 0) (hr : V0.cell? ⟨gr, 0, none⟩ = some kv) (hK : RowI V0 kv (ints K)) (hKl : K.length ≤ 1000) (hne : gr ≠ gs) : StkC V0 gs 49 #[.pointer (some ⟨gb, 0, none⟩), .pointer (some ⟨gp, 0, none⟩), .pointer (some ⟨gr, 0, none⟩)] (stF2 P K) :=
  fun V a' b' c' fk' cs' f hf hg ha hb hc hch => (why2F w P wv fv rv gp gb gs a' b' c' gr K kv fk' cs' f V (h.fr hf hg) hk hC hch (by
      have hb := hf.block gr (cell_lt hr) hne hne
      simp only [World.cell?] at hr ⊢
      rw [hb]; exact hr) (rowI_frame hK h.gg fun k hk e => hf.block k hk e e) hKl hne ha hb hc).mono fun _ _ ⟨h1, a2, b2, c2, h2, h3, h4⟩ => ⟨h1, a2, b2, c2, h2.out.gg, h3, h4⟩
theorem ent_why1 : ∀ args w, (callFunc 46 args).run Tryz.prog w = .ok (.enter 46 args) w := enters_of Tryz.func46 (by kernel_rfl) rfl
theorem ent_why2 : ∀ args w, (callFunc 49 args).run Tryz.prog w = .ok (.enter 49 args) w := enters_of Tryz.func49 (by kernel_rfl) rfl
/-- What Why tells. -/
structure WhS (P : Pb) (A B : List Nat) (s : Bool) : Prop where
  y : chkN P = 0 → canB P = false → s = true ∧ A = whyA P ∧ B = whyB P
  n : (chkN P ≠ 0 ∨ canB P = true) → s = false ∧ A = [] ∧ B = []
def WhP (w : World) (P : Pb) (e : Ending) (w' : World) : Prop :=
  ∃ o1 k1 o2 k2 A B s, e = .returned (.tuple #[.slice o1 A.length k1, .slice o2 B.length k2, .bool s]) ∧ Hid (RowI w' (.slice o1 A.length k1) (ints A)) ∧ Hid (RowI w' (.slice o2 B.length k2) (ints B)) ∧ Hid (Below w.heap.size w w') ∧ Hid (WhS P A B s)
/-- Besides, the rules' box. -/
structure Wq (w : World) (P : Pb) (wv fv rv : Value) (gb : Nat) (kv : Value) (a b c : Nat) (V : World) : Prop where
  y : Wy w P wv fv rv w.heap.size gb (w.heap.size + 1 + 1) a b c V
  r : Bo V (w.heap.size + 1) kv
  h0 : PbV w P wv fv rv
  t0 : M.Tab w
  nb : gb ≠ w.heap.size + 1
section
variable {w : World} {P : Pb} {wv fv rv : Value} {gb : Nat} {kv : Value} {a b c a' b' c' : Nat} {V V' : World}
theorem Wq.over (h : Wq w P wv fv rv gb kv a b c V) (hb : Below V.heap.size V V') : Wq w P wv fv rv gb kv a b c V' := ⟨h.y.over hb, h.r.over hb, h.h0, h.t0, h.nb⟩
theorem Wq.fr (h : Wq w P wv fv rv gb kv a b c V) (hf : M.Fr2 V V' (w.heap.size + 1 + 1) (w.heap.size + 1 + 1)) (hg : GgAt V' (w.heap.size + 1 + 1) a' b' c') : Wq w P wv fv rv gb kv a' b' c' V' := ⟨h.y.fr hf hg, h.r.of (hf.block _ h.r.lt (by omega) (by omega)), h.h0, h.t0, h.nb⟩
theorem Wq.setR (h : Wq w P wv fv rv gb kv a b c V) (u : Value) : Wq w P wv fv rv gb u a b c (V.setCell ⟨w.heap.size + 1, 0, none⟩ u) := by
  have hk : ∀ k, k ≠ w.heap.size + 1 → (V.setCell ⟨w.heap.size + 1, 0, none⟩ u).heap[k]? = V.heap[k]? := fun k e => Below.heap_setCell _ _ _ _ e
  have hbe : Below w.heap.size w (V.setCell ⟨w.heap.size + 1, 0, none⟩ u) := h.y.be.setCell (p := ⟨w.heap.size + 1, 0, none⟩) (Nat.le_succ _) u
  refine ⟨⟨(hk _ (by omega)).trans h.y.pb, h.h0.below hbe, ?_, World.rowIs.of_block h.y.gg (hk _ (by omega)), h.t0.over hbe, hbe, h.y.nep, h.y.neb, h.y.new, h.y.hG, h.y.le⟩, h.r.set u, h.h0, h.t0, h.nb⟩
  have := h.y.bx
  simp only [World.cell?] at this ⊢
  rw [hk _ h.nb]; exact this
theorem Wq.start {w3 : World} (h : PbV w P wv fv rv) (ht : M.Tab w) (hn : ∀ ad n c, wv = .slice (some ad) n c → ad.block < w.heap.size) (hg : GgAt w3 ((w.alloc (.cells #[.int .i64 P.users, wv, fv, rv] 26)).alloc (.cells #[.slice none 0 0] 23)).heap.size 0 0 0) (hb : Below ((w.alloc (.cells #[.int .i64 P.users, wv, fv, rv] 26)).alloc (.cells #[.slice none 0 0] 23)).heap.size ((w.alloc (.cells #[.int .i64 P.users, wv, fv, rv] 26)).alloc (.cells #[.slice none 0 0] 23)) w3) (T : TypeId) :
    Wq w P wv fv rv w3.heap.size (.slice none 0 0) 0 0 0 (w3.alloc (.cells #[.pointer (some ⟨w.heap.size + 1 + 1, 0, none⟩)] T)) := by
  have b1 : Below w.heap.size w (w.alloc (.cells #[.int .i64 P.users, wv, fv, rv] 26)) := (Below.refl _ w).alloc (Nat.le_refl _) _
  have n1 : PbB (w.alloc (.cells #[.int .i64 P.users, wv, fv, rv] 26)) w.heap.size P wv fv rv := heap_new w _
  have s1 := World.size_alloc w (.cells #[.int .i64 P.users, wv, fv, rv] 26)
  generalize w.alloc (.cells #[.int .i64 P.users, wv, fv, rv] 26) = w1 at *
  have b2 : Below w1.heap.size w1 (w1.alloc (.cells #[.slice none 0 0] 23)) := (Below.refl _ w1).alloc (Nat.le_refl _) _
  have n2 := Bo.new w1 (.slice none 0 0) 23
  have s2 := World.size_alloc w1 (.cells #[.slice none 0 0] 23)
  generalize w1.alloc (.cells #[.slice none 0 0] 23) = w2 at *
  have b4 : Below w3.heap.size w3 (w3.alloc (.cells #[.pointer (some ⟨w.heap.size + 1 + 1, 0, none⟩)] T)) := (Below.refl _ w3).alloc (Nat.le_refl _) _
  have n4 := Bo.new w3 (.pointer (some ⟨w.heap.size + 1 + 1, 0, none⟩)) T
  have s3 := hb.size
  have hgl := hg.lt
  generalize w3.alloc (.cells #[.pointer (some ⟨w.heap.size + 1 + 1, 0, none⟩)] T) = w4 at *
  rw [s2, s1] at hg hgl
  rw [s1] at n2
  have b24 : Below w2.heap.size w2 w4 := hb.trans (b4.mono hb.size)
  have b14 : Below w1.heap.size w1 w4 := b2.trans (b24.mono b2.size)
  have b04 : Below w.heap.size w w4 := b1.trans (b14.mono b1.size)
  refine ⟨⟨n1.below b14, h.below b04, n4.c, hg.below b4, ht.over b04, b04, by omega, by omega, fun ad n c e => by have := hn ad n c e; omega, by have := ht.2; omega, by omega⟩, n2.over b24, h, ht, by omega⟩
end
/-- Besides, the rules that are left. -/
structure Ws (w : World) (P : Pb) (wv fv rv : Value) (gb : Nat) (kv : Value) (B : Nat) (v : Value) (A : List Nat) (a b c : Nat) (V : World) : Prop where
  q : Wq w P wv fv rv gb kv a b c V
  row : V.ownsRow (B + 3) 3 1 v A.length (cellsI (ints A))
  le : B ≤ V.heap.size
  lt : w.heap.size + 1 + 1 < B
section
variable {w : World} {P : Pb} {wv fv rv : Value} {gb : Nat} {kv : Value} {B : Nat} {v : Value} {A : List Nat} {a b c a' b' c' : Nat} {V V' : World}
theorem Ws.fr (h : Ws w P wv fv rv gb kv B v A a b c V) (hf : M.Fr2 V V' (w.heap.size + 1 + 1) (w.heap.size + 1 + 1)) (hg : GgAt V' (w.heap.size + 1 + 1) a' b' c') : Ws w P wv fv rv gb kv B v A a' b' c' V' :=
  ⟨h.q.fr hf hg, own_same h.row fun g h1 h2 => (by have := own_ge' h.row h2; have := h.lt; exact hf.block g h1 (by omega) (by omega)), Nat.le_trans h.le hf.size, h.lt⟩
theorem Ws.setR (h : Ws w P wv fv rv gb kv B v A a b c V) (u : Value) : Ws w P wv fv rv gb u B v A a b c (V.setCell ⟨w.heap.size + 1, 0, none⟩ u) :=
  ⟨h.q.setR u, own_set h.row (by have := h.lt; omega) u, by have := h.le; simpa [World.setCell] using this, h.lt⟩
end
theorem row_nilC (W : World) : RowI W (.slice none 0 0) (ints []) := ⟨none, 0, rfl, ⟨Nat.le_refl _, fun _ => rfl⟩, fun i z hz => by cases hz⟩
set_option maxRecDepth 100000 in
set_option maxHeartbeats 4000000 in
theorem whyF (P : Pb) (wv fv rv : Value) (w : World) (h : PbV w P wv fv rv) (hk : Pok P) (ht : M.Tab w) (hn : ∀ ad n c, wv = .slice (some ad) n c → ad.block < w.heap.size) :
    Calls Tryz.prog 20 #[pbV P wv fv rv] w (WhP w P) := by
  have hk' := hide' hk
  have ht' := hide' ht
  have hG := ht.2
  have h' := hide' h
  have hn' := hide' hn
  obtain ⟨ow, cw, of, cf, or, cr, rfl, rfl, rfl⟩ := h.shape
  unfold pbV
  clear h hk ht hn
  have KN : Hid (∀ V, Calls Tryz.prog 6 #[] V fun e w' => e = .returned (.pointer (some ⟨V.heap.size, 0, none⟩)) ∧ Hid (GgAt w' V.heap.size 0 0 0) ∧ Hid (Below V.heap.size V w')) := fun V => newF V
  have hB3 : Hid (∀ w3 T, GgAt w3 ((w.alloc (.cells #[.int .i64 P.users, .slice ow P.who.length cw, .slice of P.fixed.length cf, .slice or P.rules.length cr] 26)).alloc (.cells #[.slice none 0 0] 23)).heap.size 0 0 0 → Below ((w.alloc (.cells #[.int .i64 P.users, .slice ow P.who.length cw, .slice of P.fixed.length cf, .slice or P.rules.length cr] 26)).alloc (.cells #[.slice none 0 0] 23)).heap.size ((w.alloc (.cells #[.int .i64 P.users, .slice ow P.who.length cw, .slice of P.fixed.length cf, .slice or P.rules.length cr] 26)).alloc (.cells #[.slice none 0 0] 23)) w3 → Wq w P (.slice ow P.who.length cw) (.slice of P.fixed.length cf) (.slice or P.rules.length cr) w3.heap.size (.slice none 0 0) 0 0 0 (w3.alloc (.cells #[.pointer (some ⟨w.heap.size + 1 + 1, 0, none⟩)] T))) := fun w3 T h1 h2 => Wq.start h'.out ht'.out hn'.out h1 h2 T
  go_enter Tryz.func20, Tryz.ntmps20
  go_upto_region 2 with (go_at_call 6; refine (KN.out _).mono ?_; rintro e w3 ⟨rfl, hg3, hb3⟩)
  have hQ := hide' (hB3.out w3 28 hg3.out hb3.out)
  clear hB3 hg3 hb3 KN
  generalize w3.heap.size = gb at *
  generalize w3.alloc (.cells #[.pointer (some ⟨w.heap.size + 1 + 1, 0, none⟩)] 28) = w4 at *
  have KC := hide' (checkPF P _ _ _ w4 hQ.out.y.pv hk'.out.w hk'.out.f hk'.out.r hk'.out.s hk'.out.b)
  unfold pbV at KC
  have q0 := hQ.out.y.pb.c0
  have q1 := hQ.out.y.pb.c1
  have q2 := hQ.out.y.pb.c2
  have q3 := hQ.out.y.pb.c3
  go_wp2_with fail
  refine KC.out.mono ?_
  rintro e w5 ⟨rfl, hb5⟩
  have hQ5 := hide' (hQ.out.over hb5)
  clear hQ q0 q1 q2 q3 KC hb5
  by_cases hC : chkN P = 0
  case neg =>
    as_aux_lemma =>
    have hne : (((chkN P : Nat) : Int) != 0) = true := by rw [bne_iff_ne]; omega
    have hW : Hid (WhS P [] [] false) := ⟨fun e => absurd e hC, fun _ => ⟨rfl, rfl, rfl⟩⟩
    have f0 := hQ5.out.r.fz
    have y0 := hQ5.out.r.c
    have x0 := (hQ5.out.r.set (.slice none 0 0)).c
    have hBe := hide' ((hQ5.out.setR (.slice none 0 0)).y.be)
    generalize chkN P = cc at *
    clear hQ5 hC hk' ht' h' hn'
    go_wp2
    refine bodyPost_ret (v := .tuple #[.slice none 0 0, .slice none 0 0, .bool false]) (by simp [results, Tryz.results20, go_sem, x0]) rfl ?_
    unfold WhP
    exact ⟨none, 0, none, 0, [], [], false, rfl, row_nilC _, row_nilC _, hBe, hW⟩
  have hne : (((chkN P : Nat) : Int) != 0) = false := by rw [hC]; rfl
  have KCn := hide' (canF P _ _ _ (w.heap.size + 1 + 1) 0 0 0 w5 hQ5.out.y.pv hk'.out hQ5.out.y.gg hQ5.out.y.hG hQ5.out.y.tab (by decide) (by decide) (by decide))
  unfold pbV CaP at KCn
  have q0 := hQ5.out.y.pb.c0
  have q1 := hQ5.out.y.pb.c1
  have q2 := hQ5.out.y.pb.c2
  have q3 := hQ5.out.y.pb.c3
  have qb := hQ5.out.y.bx
  cases hcb : canB P
  case true =>
    as_aux_lemma =>
    rw [hcb] at KCn
    have hW : Hid (WhS P [] [] false) := ⟨fun _ e => (by rw [hcb] at e; cases e), fun _ => ⟨rfl, rfl, rfl⟩⟩
    clear hC hk' ht' h' hn' hcb
    generalize ((chkN P : Nat) : Int) = cc at *
    go_wp2_with (go_at_call 12; refine KCn.out.mono ?_; rintro e w6 ⟨rfl, a6, b6, c6, hg6, hgc6, hf6⟩; have hQ6 := hide' (hQ5.out.fr hf6.out hg6.out); have f0 := hQ6.out.r.fz; have y0 := hQ6.out.r.c; have x0 := (hQ6.out.r.set (.slice none 0 0)).c)
    refine bodyPost_ret (v := .tuple #[.slice none 0 0, .slice none 0 0, .bool false]) (by simp [results, Tryz.results20, go_sem, x0]) rfl ?_
    unfold WhP
    exact ⟨none, 0, none, 0, [], [], false, rfl, row_nilC _, row_nilC _, (hQ6.out.setR (.slice none 0 0)).y.be, hW⟩
  rw [hcb] at KCn
  obtain ⟨g12, g0, g64, g32, gF, gW, gR⟩ := chkN_zero hC
  have hW : Hid (WhS P (whyA P) (whyB P) true) := ⟨fun _ _ => ⟨rfl, rfl, rfl⟩, fun e => (by rcases e with e | e; exact absurd hC e; rw [hcb] at e; cases e)⟩
  have hbd : Hid (P.who.length ≤ 12 ∧ P.rules.length ≤ 32) := ⟨g12, by omega⟩
  have hC' := hide' hC
  have hA1 := hide' (stF1_anti hC)
  have hA2 := hide' (stF2_anti hC (whyA P))
  have hA : Hid (grd (stF1 P) [] 0 P.rules.length = whyA P) := rfl
  have hB : Hid (grd (stF2 P (whyA P)) [] 0 P.who.length = whyB P) := rfl
  have hAl : Hid ((whyA P).length ≤ 1000) := by
    have := grd_len (stF1 P) P.rules.length [] 0
    show (grd (stF1 P) [] 0 P.rules.length).length ≤ 1000
    simp at this; omega
  clear hC hcb g12 g0 g64 g32 gF gW gR
  generalize ((chkN P : Nat) : Int) = cc at *
  have KL1 : Hid (∀ V a b c, Wq w P (.slice ow P.who.length cw) (.slice of P.fixed.length cf) (.slice or P.rules.length cr) gb (.slice none 0 0) a b c V → a ≤ 1000000000000000 → b ≤ 1000000000000000 → c ≤ 1000000000000000 → Calls Tryz.prog 45 #[.int .i64 (P.rules.length : Int), .func (.func 46) #[] #[.pointer (some ⟨gb, 0, none⟩), .pointer (some ⟨w.heap.size, 0, none⟩)]] V fun e w' => ∃ o k, e = .returned (.slice o (whyA P).length k) ∧ Hid (∃ a b c, Ws w P (.slice ow P.who.length cw) (.slice of P.fixed.length cf) (.slice or P.rules.length cr) gb (.slice none 0 0) V.heap.size (.slice o (whyA P).length k) (whyA P) a b c w' ∧ a ≤ 1000000000000000 + 1000000000000000 ∧ b ≤ 1000000000000000 + 1000000000000000 ∧ c ≤ 1000000000000000 + 1000000000000000)) := fun V a b c hV ha hb hc => by
    have hbd := hbd.out
    have := leftF P.rules.length (by omega) V (w.heap.size + 1 + 1) _ _ _ (stkC1 hV.y hk'.out hC'.out) ent_why1 hA1.out a b c hV.y.gg (by omega) (by omega) (by omega)
    rw [hA.out] at this
    refine this.mono ?_
    rintro e w' ⟨o, k, a', b', c', rfl, h1, h2, h3, h4⟩
    have h3 := h3.out
    exact ⟨o, k, rfl, a', b', c', ⟨hV.fr h4.out h2.out, h1.out, h4.out.size, hV.y.gg.lt⟩, by omega, by omega, by omega⟩
  have KL2 : Hid (∀ V a b c B o k, Ws w P (.slice ow P.who.length cw) (.slice of P.fixed.length cf) (.slice or P.rules.length cr) gb (.slice o (whyA P).length k) B (.slice o (whyA P).length k) (whyA P) a b c V → a ≤ 1000000000000000 + 1000000000000000 → b ≤ 1000000000000000 + 1000000000000000 → c ≤ 1000000000000000 + 1000000000000000 → Calls Tryz.prog 45 #[.int .i64 (P.who.length : Int), .func (.func 49) #[] #[.pointer (some ⟨gb, 0, none⟩), .pointer (some ⟨w.heap.size, 0, none⟩), .pointer (some ⟨w.heap.size + 1, 0, none⟩)]] V fun e w' => ∃ o2 k2, e = .returned (.slice o2 (whyB P).length k2) ∧ Hid (w'.ownsRow (V.heap.size + 3) 3 1 (.slice o2 (whyB P).length k2) (whyB P).length (cellsI (ints (whyB P)))) ∧ Hid (∃ a b c, Ws w P (.slice ow P.who.length cw) (.slice of P.fixed.length cf) (.slice or P.rules.length cr) gb (.slice o (whyA P).length k) B (.slice o (whyA P).length k) (whyA P) a b c w') ∧ Hid (w.heap.size + 1 < V.heap.size)) := fun V a b c B o k hV ha hb hc => by
    have hbd := hbd.out
    have := leftF P.who.length (by omega) V (w.heap.size + 1 + 1) _ _ _ (stkC2 hV.q.y hk'.out hC'.out hV.q.r.c (RowI.of_owns hV.row) hAl.out (by omega)) ent_why2 hA2.out a b c hV.q.y.gg (by omega) (by omega) (by omega)
    rw [hB.out] at this
    refine this.mono ?_
    rintro e w' ⟨o2, k2, a', b', c', rfl, h1, h2, h3, h4⟩
    exact ⟨o2, k2, rfl, h1, ⟨a', b', c', hV.fr h4.out h2.out⟩, hV.q.r.lt⟩
  generalize whyA P = A at *
  generalize whyB P = B at *
  clear hk' ht' h' hn' hA1 hA2 hA hB hC'
  have hrl : P.rules.length ≤ 32 := hbd.out.2
  have hwl : P.who.length ≤ 12 := hbd.out.1
  go_wp2_with (first | (go_at_call 12; refine KCn.out.mono ?_; rintro e w6 ⟨rfl, a6, b6, c6, hg6, hgc6, hf6⟩; have hQ6 := hide' (hQ5.out.fr hf6.out hg6.out); have hle6 := hide' (hgc6.out.le (by decide)); have p3 := hQ6.out.y.pb.c3))
  refine (KL1.out w6 a6 b6 c6 hQ6.out (by have := hle6.out; omega) (by have := hle6.out; omega) (by have := hle6.out; omega)).mono ?_
  rintro e w7 ⟨o1, k1, rfl, hX7⟩
  obtain ⟨a7, b7, c7, hS7, hl7⟩ := hX7.out
  have f7 := hS7.q.r.fz
  have y7 := hS7.q.r.c
  have hS8 := hide' (hS7.setR (.slice o1 A.length k1))
  have hl7' := hide' hl7
  have p1 := hS8.out.q.y.pb.c1
  clear hS7 hX7 hl7 KL1 KCn hQ5 hQ6 hgc6 hg6 hf6 p3 q0 q1 q2 q3 qb hle6
  go_wp2_with fail
  refine (KL2.out _ a7 b7 c7 _ o1 k1 hS8.out (by have := hl7'.out; omega) (by have := hl7'.out; omega) (by have := hl7'.out; omega)).mono ?_
  rintro e w9 ⟨o2, k2, rfl, hR9, hX9, hz9⟩
  obtain ⟨a9, b9, c9, hS9⟩ := hX9.out
  have f9 := hS9.q.r.fz
  have y9 := hS9.q.r.c
  have x9 := (hS9.q.r.set (.slice o1 A.length k1)).c
  have hS10 := hide' (hS9.setR (.slice o1 A.length k1))
  have hR10 := hide' (RowI.of_owns (own_set (g := w.heap.size + 1) (o := 0) hR9.out (by have := hz9.out; omega) (.slice o1 A.length k1)))
  clear hS9 hX9 KL2 hR9 hz9 hS8 hl7' p1 f7 y7
  go_wp2
  refine bodyPost_ret (v := .tuple #[.slice o1 A.length k1, .slice o2 B.length k2, .bool true]) (by simp [results, Tryz.results20, go_sem, x9]) rfl ?_
  unfold WhP
  exact ⟨o1, k1, o2, k2, A, B, true, rfl, RowI.of_owns hS10.out.row, hR10, hS10.out.q.y.be, hW⟩
end Go.Proofs.YtlijlelejobchaaGreatDoor.S
namespace Go.Proofs.YtlijlelejobchaaGreatDoor.S
open Go.RowKit Go.Shelf
def WvP (w : World) (_ : Pb) (e : Ending) (w' : World) : Prop :=
  ∃ o1 k1 o2 k2 A B s, e = .returned (.tuple #[.slice o1 (A : List Nat).length k1, .slice o2 (B : List Nat).length k2, .bool s]) ∧ Hid (w'.ownsRow w.heap.size 3 1 (.slice o1 A.length k1) A.length (cellsI (ints A))) ∧ Hid (w'.ownsRow w.heap.size 3 1 (.slice o2 B.length k2) B.length (cellsI (ints B))) ∧ Hid (∀ g, (Value.slice o1 A.length k1).ownBlock = some g → (Value.slice o2 B.length k2).ownBlock ≠ some g) ∧ Hid (A.length ≤ 1000 ∧ B.length ≤ 1000) ∧ Hid (Below w.heap.size w w')
set_option maxRecDepth 100000 in
set_option maxHeartbeats 4000000 in
theorem whyV (P : Pb) (wv fv rv : Value) (w : World) (h : PbV w P wv fv rv) (hk : Pok P) (ht : M.Tab w) (hn : ∀ ad n c, wv = .slice (some ad) n c → ad.block < w.heap.size) :
    Calls Tryz.prog 20 #[pbV P wv fv rv] w (WvP w P) := by
  have hk' := hide' hk
  have ht' := hide' ht
  have hG := ht.2
  have h' := hide' h
  have hn' := hide' hn
  obtain ⟨ow, cw, of, cf, or, cr, rfl, rfl, rfl⟩ := h.shape
  unfold pbV
  clear h hk ht hn
  have KN : Hid (∀ V, Calls Tryz.prog 6 #[] V fun e w' => e = .returned (.pointer (some ⟨V.heap.size, 0, none⟩)) ∧ Hid (GgAt w' V.heap.size 0 0 0) ∧ Hid (Below V.heap.size V w')) := fun V => newF V
  have hB3 : Hid (∀ w3 T, GgAt w3 ((w.alloc (.cells #[.int .i64 P.users, .slice ow P.who.length cw, .slice of P.fixed.length cf, .slice or P.rules.length cr] 26)).alloc (.cells #[.slice none 0 0] 23)).heap.size 0 0 0 → Below ((w.alloc (.cells #[.int .i64 P.users, .slice ow P.who.length cw, .slice of P.fixed.length cf, .slice or P.rules.length cr] 26)).alloc (.cells #[.slice none 0 0] 23)).heap.size ((w.alloc (.cells #[.int .i64 P.users, .slice ow P.who.length cw, .slice of P.fixed.length cf, .slice or P.rules.length cr] 26)).alloc (.cells #[.slice none 0 0] 23)) w3 → Wq w P (.slice ow P.who.length cw) (.slice of P.fixed.length cf) (.slice or P.rules.length cr) w3.heap.size (.slice none 0 0) 0 0 0 (w3.alloc (.cells #[.pointer (some ⟨w.heap.size + 1 + 1, 0, none⟩)] T))) := fun w3 T h1 h2 => Wq.start h'.out ht'.out hn'.out h1 h2 T
  go_enter Tryz.func20, Tryz.ntmps20
  go_upto_region 2 with (go_at_call 6; refine (KN.out _).mono ?_; rintro e w3 ⟨rfl, hg3, hb3⟩)
  have hQ := hide' (hB3.out w3 28 hg3.out hb3.out)
  clear hB3 hg3 hb3 KN
  generalize w3.heap.size = gb at *
  generalize w3.alloc (.cells #[.pointer (some ⟨w.heap.size + 1 + 1, 0, none⟩)] 28) = w4 at *
  have KC := hide' (checkPF P _ _ _ w4 hQ.out.y.pv hk'.out.w hk'.out.f hk'.out.r hk'.out.s hk'.out.b)
  unfold pbV at KC
  have q0 := hQ.out.y.pb.c0
  have q1 := hQ.out.y.pb.c1
  have q2 := hQ.out.y.pb.c2
  have q3 := hQ.out.y.pb.c3
  go_wp2_with fail
  refine KC.out.mono ?_
  rintro e w5 ⟨rfl, hb5⟩
  have hQ5 := hide' (hQ.out.over hb5)
  clear hQ q0 q1 q2 q3 KC hb5
  by_cases hC : chkN P = 0
  case neg =>
    as_aux_lemma =>
    have hne : (((chkN P : Nat) : Int) != 0) = true := by rw [bne_iff_ne]; omega
    have f0 := hQ5.out.r.fz
    have y0 := hQ5.out.r.c
    have x0 := (hQ5.out.r.set (.slice none 0 0)).c
    have hBe := hide' ((hQ5.out.setR (.slice none 0 0)).y.be)
    generalize chkN P = cc at *
    clear hQ5 hC hk' ht' h' hn'
    go_wp2
    refine bodyPost_ret (v := .tuple #[.slice none 0 0, .slice none 0 0, .bool false]) (by simp [results, Tryz.results20, go_sem, x0]) rfl ?_
    unfold WvP
    exact ⟨none, 0, none, 0, [], [], false, rfl, World.ownsRow_nil _ _ _ _, World.ownsRow_nil _ _ _ _, (fun g e => by simp [Value.ownBlock] at e), ⟨by decide, by decide⟩, hBe⟩
  have hne : (((chkN P : Nat) : Int) != 0) = false := by rw [hC]; rfl
  have KCn := hide' (canF P _ _ _ (w.heap.size + 1 + 1) 0 0 0 w5 hQ5.out.y.pv hk'.out hQ5.out.y.gg hQ5.out.y.hG hQ5.out.y.tab (by decide) (by decide) (by decide))
  unfold pbV CaP at KCn
  have q0 := hQ5.out.y.pb.c0
  have q1 := hQ5.out.y.pb.c1
  have q2 := hQ5.out.y.pb.c2
  have q3 := hQ5.out.y.pb.c3
  have qb := hQ5.out.y.bx
  cases hcb : canB P
  case true =>
    as_aux_lemma =>
    rw [hcb] at KCn
    clear hC hk' ht' h' hn' hcb
    generalize ((chkN P : Nat) : Int) = cc at *
    go_wp2_with (go_at_call 12; refine KCn.out.mono ?_; rintro e w6 ⟨rfl, a6, b6, c6, hg6, hgc6, hf6⟩; have hQ6 := hide' (hQ5.out.fr hf6.out hg6.out); have f0 := hQ6.out.r.fz; have y0 := hQ6.out.r.c; have x0 := (hQ6.out.r.set (.slice none 0 0)).c)
    refine bodyPost_ret (v := .tuple #[.slice none 0 0, .slice none 0 0, .bool false]) (by simp [results, Tryz.results20, go_sem, x0]) rfl ?_
    unfold WvP
    exact ⟨none, 0, none, 0, [], [], false, rfl, World.ownsRow_nil _ _ _ _, World.ownsRow_nil _ _ _ _, (fun g e => by simp [Value.ownBlock] at e), ⟨by decide, by decide⟩, (hQ6.out.setR (.slice none 0 0)).y.be⟩
  rw [hcb] at KCn
  obtain ⟨g12, g0, g64, g32, gF, gW, gR⟩ := chkN_zero hC
  have hbd : Hid (P.who.length ≤ 12 ∧ P.rules.length ≤ 32) := ⟨g12, by omega⟩
  have hC' := hide' hC
  have hA1 := hide' (stF1_anti hC)
  have hA2 := hide' (stF2_anti hC (whyA P))
  have hA : Hid (grd (stF1 P) [] 0 P.rules.length = whyA P) := rfl
  have hB : Hid (grd (stF2 P (whyA P)) [] 0 P.who.length = whyB P) := rfl
  have hAl : Hid ((whyA P).length ≤ 1000) := by
    have := grd_len (stF1 P) P.rules.length [] 0
    show (grd (stF1 P) [] 0 P.rules.length).length ≤ 1000
    simp at this; omega
  clear hC hcb g12 g0 g64 g32 gF gW gR
  generalize ((chkN P : Nat) : Int) = cc at *
  have KL1 : Hid (∀ V a b c, Wq w P (.slice ow P.who.length cw) (.slice of P.fixed.length cf) (.slice or P.rules.length cr) gb (.slice none 0 0) a b c V → a ≤ 1000000000000000 → b ≤ 1000000000000000 → c ≤ 1000000000000000 → Calls Tryz.prog 45 #[.int .i64 (P.rules.length : Int), .func (.func 46) #[] #[.pointer (some ⟨gb, 0, none⟩), .pointer (some ⟨w.heap.size, 0, none⟩)]] V fun e w' => ∃ o k, e = .returned (.slice o (whyA P).length k) ∧ Hid (∃ a b c, Ws w P (.slice ow P.who.length cw) (.slice of P.fixed.length cf) (.slice or P.rules.length cr) gb (.slice none 0 0) V.heap.size (.slice o (whyA P).length k) (whyA P) a b c w' ∧ a ≤ 1000000000000000 + 1000000000000000 ∧ b ≤ 1000000000000000 + 1000000000000000 ∧ c ≤ 1000000000000000 + 1000000000000000)) := fun V a b c hV ha hb hc => by
    have hbd := hbd.out
    have := leftF P.rules.length (by omega) V (w.heap.size + 1 + 1) _ _ _ (stkC1 hV.y hk'.out hC'.out) ent_why1 hA1.out a b c hV.y.gg (by omega) (by omega) (by omega)
    rw [hA.out] at this
    refine this.mono ?_
    rintro e w' ⟨o, k, a', b', c', rfl, h1, h2, h3, h4⟩
    have h3 := h3.out
    exact ⟨o, k, rfl, a', b', c', ⟨hV.fr h4.out h2.out, h1.out, h4.out.size, hV.y.gg.lt⟩, by omega, by omega, by omega⟩
  have KL2 : Hid (∀ V a b c B o k, Ws w P (.slice ow P.who.length cw) (.slice of P.fixed.length cf) (.slice or P.rules.length cr) gb (.slice o (whyA P).length k) B (.slice o (whyA P).length k) (whyA P) a b c V → a ≤ 1000000000000000 + 1000000000000000 → b ≤ 1000000000000000 + 1000000000000000 → c ≤ 1000000000000000 + 1000000000000000 → Calls Tryz.prog 45 #[.int .i64 (P.who.length : Int), .func (.func 49) #[] #[.pointer (some ⟨gb, 0, none⟩), .pointer (some ⟨w.heap.size, 0, none⟩), .pointer (some ⟨w.heap.size + 1, 0, none⟩)]] V fun e w' => ∃ o2 k2, e = .returned (.slice o2 (whyB P).length k2) ∧ Hid (w'.ownsRow (V.heap.size + 3) 3 1 (.slice o2 (whyB P).length k2) (whyB P).length (cellsI (ints (whyB P)))) ∧ Hid (∃ a b c, Ws w P (.slice ow P.who.length cw) (.slice of P.fixed.length cf) (.slice or P.rules.length cr) gb (.slice o (whyA P).length k) B (.slice o (whyA P).length k) (whyA P) a b c w') ∧ Hid (w.heap.size + 1 < V.heap.size)) := fun V a b c B o k hV ha hb hc => by
    have hbd := hbd.out
    have := leftF P.who.length (by omega) V (w.heap.size + 1 + 1) _ _ _ (stkC2 hV.q.y hk'.out hC'.out hV.q.r.c (RowI.of_owns hV.row) hAl.out (by omega)) ent_why2 hA2.out a b c hV.q.y.gg (by omega) (by omega) (by omega)
    rw [hB.out] at this
    refine this.mono ?_
    rintro e w' ⟨o2, k2, a', b', c', rfl, h1, h2, h3, h4⟩
    exact ⟨o2, k2, rfl, h1, ⟨a', b', c', hV.fr h4.out h2.out⟩, hV.q.r.lt⟩
  have hABl : Hid ((whyA P).length ≤ 1000 ∧ (whyB P).length ≤ 1000) := by
    have h1 := grd_len (stF2 P (whyA P)) P.who.length [] 0
    have h2 := hbd.out.1
    refine ⟨hAl.out, ?_⟩
    show (grd (stF2 P (whyA P)) [] 0 P.who.length).length ≤ 1000
    simp at h1; omega
  generalize whyA P = A at *
  generalize whyB P = B at *
  clear hk' ht' h' hn' hA1 hA2 hA hB hC'
  have hrl : P.rules.length ≤ 32 := hbd.out.2
  have hwl : P.who.length ≤ 12 := hbd.out.1
  go_wp2_with (first | (go_at_call 12; refine KCn.out.mono ?_; rintro e w6 ⟨rfl, a6, b6, c6, hg6, hgc6, hf6⟩; have hQ6 := hide' (hQ5.out.fr hf6.out hg6.out); have hle6 := hide' (hgc6.out.le (by decide)); have p3 := hQ6.out.y.pb.c3))
  refine (KL1.out w6 a6 b6 c6 hQ6.out (by have := hle6.out; omega) (by have := hle6.out; omega) (by have := hle6.out; omega)).mono ?_
  rintro e w7 ⟨o1, k1, rfl, hX7⟩
  obtain ⟨a7, b7, c7, hS7, hl7⟩ := hX7.out
  have f7 := hS7.q.r.fz
  have y7 := hS7.q.r.c
  have hS8 := hide' (hS7.setR (.slice o1 A.length k1))
  have hl7' := hide' hl7
  have p1 := hS8.out.q.y.pb.c1
  have hlt8 := hide' (fun g (e : (Value.slice o1 A.length k1).ownBlock = some g) => own_lt' hS8.out.row e)
  have hb8 : w.heap.size ≤ (w7.setCell ⟨w.heap.size + 1, 0, none⟩ (.slice o1 A.length k1)).heap.size := hS8.out.q.y.be.size
  clear hS7 hX7 hl7 KL1 KCn hQ5 hQ6 hgc6 hg6 hf6 p3 q0 q1 q2 q3 qb hle6
  go_wp2_with fail
  refine (KL2.out _ a7 b7 c7 _ o1 k1 hS8.out (by have := hl7'.out; omega) (by have := hl7'.out; omega) (by have := hl7'.out; omega)).mono ?_
  rintro e w9 ⟨o2, k2, rfl, hR9, hX9, hz9⟩
  obtain ⟨a9, b9, c9, hS9⟩ := hX9.out
  have f9 := hS9.q.r.fz
  have y9 := hS9.q.r.c
  have x9 := (hS9.q.r.set (.slice o1 A.length k1)).c
  have hS10 := hide' (hS9.setR (.slice o1 A.length k1))
  have hR10 := hide' (own_set (g := w.heap.size + 1) (o := 0) hR9.out (by have := hz9.out; omega) (.slice o1 A.length k1))
  clear hS9 hX9 KL2 hR9 hz9 hS8 hl7' p1 f7 y7
  go_wp2
  refine bodyPost_ret (v := .tuple #[.slice o1 A.length k1, .slice o2 B.length k2, .bool true]) (by simp [results, Tryz.results20, go_sem, x9]) rfl ?_
  unfold WvP
  exact ⟨o1, k1, o2, k2, A, B, true, rfl, own_down hS10.out.row (by have := hS10.out.lt; omega), own_down hR10.out (by have := hb8; omega), (fun g e1 e2 => by have := hlt8.out g e1; have := own_ge' hR10.out e2; omega), hABl, hS10.out.q.y.be⟩
end Go.Proofs.YtlijlelejobchaaGreatDoor.S
namespace Go.Proofs.YtlijlelejobchaaGreatDoor.S
open Go.RowKit Go.Shelf
def outN (n : Nat) (x : Int) : Bool := decide (x < 0) || decide ((n : Int) ≤ x)
set_option maxRecDepth 100000 in
set_option maxHeartbeats 1000000 in
theorem bel1F (n : Nat) (x : Int) (g : Nat) (w : World) (hc : w.cell? ⟨g, 0, none⟩ = some (.int .i64 (n : Int))) :
    Calls Tryz.prog 79 #[.int .i64 x, .pointer (some ⟨g, 0, none⟩)] w fun e w' => e = .returned (.bool (outN n x)) ∧ Below w.heap.size w w' := by
  unfold outN
  by_cases h0 : x < 0
  · have h0' : decide (x < 0) = true := decide_eq_true h0
    rw [h0', Bool.true_or]
    go_enter Tryz.func79, Tryz.ntmps79
    go_wp2
    go_ret
    exact ⟨rfl, Below.refl _ _⟩
  · have h0' : decide (x < 0) = false := decide_eq_false h0
    rw [h0', Bool.false_or]
    generalize hb : decide ((n : Int) ≤ x) = b
    clear h0
    go_enter Tryz.func79, Tryz.ntmps79
    go_wp2
    go_ret
    exact ⟨by first | rw [hb] | rfl | (simp [hb]), Below.refl _ _⟩
set_option maxRecDepth 100000 in
set_option maxHeartbeats 2000000 in
theorem indexF (L : List Int) (v : Value) (n g : Nat) (w : World) (h : RowI w v L) (hl : L.length ≤ 1000000) (hc : w.cell? ⟨g, 0, none⟩ = some (.int .i64 (n : Int))) :
    Calls Tryz.prog 94 #[v, .func (.func 79) #[] #[.pointer (some ⟨g, 0, none⟩)]] w fun e w' => ∃ r : Int, e = .returned (.int .i64 r) ∧ decide (0 ≤ r) = L.any (outN n) ∧ Below w.heap.size w w' := by
  obtain ⟨oa, cap, rfl, _, hcc⟩ := h
  have hc' := hide' hcc
  have hg := hide' hc
  clear hcc hc
  go_enter Tryz.func94, Tryz.ntmps94
  go_wp2
  go_loopw [4, 5, 8] (fun _ _ p wr => ∃ j : Nat, j ≤ L.length ∧ p = .int .i64 (j : Int) ∧ Hid ((L.take j).any (outN n) = false) ∧ Hid (Below w.heap.size w wr)) (fun _ _ p _ => ((L.length : Int) - intOf p).toNat)
  case atStart => exact ⟨0, Nat.zero_le _, rfl, rfl, Below.refl _ _⟩
  case round =>
    obtain ⟨j, hj, rfl, hE, hB⟩ := hrel
    by_cases hlt : j < L.length
    · have hlt' : (j : Int) < (L.length : Int) := by omega
      obtain ⟨y, hx⟩ : ∃ y, L[j]? = some y := ⟨_, List.getElem?_eq_getElem hlt⟩
      obtain ⟨g', o, rfl, d1⟩ := hc'.out j y hx
      have d2 := M.cell_over d1 hB.out
      have KB := hide' (bel1F n y g wr (M.cell_over hg.out hB.out))
      have hx' := hide' hx
      clear d1 hx
      cases he : outN n y
      · have hE2 : Hid ((L.take (j + 1)).any (outN n) = false) := by
          show _ = _
          rw [List.take_add_one, hx'.out, List.any_append, hE.out]
          simp [he]
        rw [he] at KB
        clear hE he
        go_wp2_with fail
        refine KB.out.mono ?_
        rintro e w5 ⟨rfl, hb5⟩
        have hB5 := hide' (hB.out.trans (hb5.mono hB.out.size))
        clear hB hb5
        go_wp2
        exact ⟨⟨j + 1, by omega, by go_num, hE2, hB5⟩, by simp [intOf]; omega⟩
      · have hin : Hid (L.any (outN n) = true) := List.any_eq_true.2 ⟨y, List.mem_of_getElem? hx'.out, he⟩
        rw [he] at KB
        clear hE hc' he
        go_wp2_with fail
        refine KB.out.mono ?_
        rintro e w5 ⟨rfl, hb5⟩
        have hB5 := hide' (hB.out.trans (hb5.mono hB.out.size))
        clear hB hb5
        go_wp2
        go_ret
        exact ⟨(j : Int), rfl, by rw [hin.out, decide_eq_true (by omega)], hB5.out⟩
    · obtain rfl : j = L.length := by omega
      rw [List.take_length] at hE
      clear hc'
      go_wp2
      go_ret
      exact ⟨-1, rfl, by rw [hE.out]; rfl, hB.out⟩
set_option maxRecDepth 100000 in
theorem containsF (L : List Int) (v : Value) (n g : Nat) (w : World) (h : RowI w v L) (hl : L.length ≤ 1000000) (hc : w.cell? ⟨g, 0, none⟩ = some (.int .i64 (n : Int))) :
    Calls Tryz.prog 78 #[v, .func (.func 79) #[] #[.pointer (some ⟨g, 0, none⟩)]] w fun e w' => e = .returned (.bool (L.any (outN n))) ∧ Below w.heap.size w w' := by
  have K := hide' (indexF L v n g w h hl hc)
  obtain ⟨oa, cap, rfl, _, _⟩ := h
  go_enter Tryz.func78, Tryz.ntmps78
  go_wp2_with fail
  refine K.out.mono ?_
  rintro e w1 ⟨r, rfl, hr, hb⟩
  have hr' := hide' hr
  have hb' := hide' hb
  clear hr hb K hc
  go_wp2
  go_ret
  exact ⟨by rw [← hr'.out]; simp, hb'.out⟩
set_option maxRecDepth 100000 in
theorem allBelowF (L : List Int) (v : Value) (n : Nat) (w : World) (h : RowI w v L) (hl : L.length ≤ 1000000) :
    Calls Tryz.prog 51 #[.int .i64 (n : Int), v] w fun e w' => e = .returned (.bool (!L.any (outN n))) ∧ Below w.heap.size w w' := by
  have hB : Hid (Below w.heap.size w (w.alloc (.cells #[.int .i64 (n : Int)] 3))) := (Below.refl _ w).alloc (Nat.le_refl _) _
  have hcc : (w.alloc (.cells #[.int .i64 (n : Int)] 3)).cell? ⟨w.heap.size, 0, none⟩ = some (.int .i64 (n : Int)) := by
    have := heap_new w (.cells #[.int .i64 (n : Int)] 3)
    simp only [World.cell?]
    rw [this]
    rfl
  have K := hide' (containsF L v n w.heap.size _ (h.below hB.out (Nat.le_refl _)) hl hcc)
  obtain ⟨oa, cap, rfl, _, _⟩ := h
  clear hcc
  generalize L.any (outN n) = b at *
  go_enter Tryz.func51, Tryz.ntmps51
  go_wp2_with fail
  refine K.out.mono ?_
  rintro e w1 ⟨rfl, hb⟩
  go_wp2
  go_ret
  exact ⟨rfl, hB.out.trans (hb.mono hB.out.size)⟩
end Go.Proofs.YtlijlelejobchaaGreatDoor.S
namespace Go.Proofs.YtlijlelejobchaaGreatDoor.S
open Go.RowKit Go.Shelf
/-- A choice by numbers. -/
def inC (R : List Int) : Nat → Bool := fun i => decide ((i : Int) ∈ R)
/-- The error's number, the problem. -/
def wtN (P : Pb) (R S : List Int) : Nat := if chkN P = 0 then (if (R.any (outN P.rules.length) || S.any (outN P.who.length)) = true then 1 else 0) else chkN P
def wtP (P : Pb) (R S : List Int) : Pb := if wtN P R S = 0 then spP P (inC R) (inC S) else ⟨0, [], [], []⟩
structure WtE (P : Pb) (R S : List Int) (e : Nat) : Prop where
  n : wtN P R S = e
  p : wtP P R S = ⟨0, [], [], []⟩
structure WtY (P : Pb) (R S : List Int) (X : Pb) : Prop where
  n : wtN P R S = 0
  p : wtP P R S = X
theorem WtE.mk' {P : Pb} {R S : List Int} {e : Nat} (h : wtN P R S = e) (he : e ≠ 0) : WtE P R S e := ⟨h, by unfold wtP; rw [if_neg (by rw [h]; exact he)]⟩
/-- What is held while the rows are chosen: all rows of the answer lie above. -/
structure Wx (w : World) (P : Pb) (wv fv rv vr vs : Value) (R S : List Int) (V : World) : Prop where
  p : Fp w P wv fv rv V (.slice none 0 0) (.slice none 0 0) [] []
  r : RowI V vr R
  s : RowI V vs S
theorem Wx.over {w : World} {P : Pb} {wv fv rv vr vs : Value} {R S : List Int} {V V' : World} (h : Wx w P wv fv rv vr vs R S V) (hb : Below V.heap.size V V') : Wx w P wv fv rv vr vs R S V' := ⟨h.p.over hb, h.r.below hb (Nat.le_refl _), h.s.below hb (Nat.le_refl _)⟩
set_option maxRecDepth 100000 in
set_option maxHeartbeats 4000000 in
theorem withoutF (P : Pb) (wv fv rv vr vs : Value) (R S : List Int) (w : World) (h : PbV w P wv fv rv) (hk : Pok P) (hR : RowI w vr R) (hS : RowI w vs S) (hRl : R.length ≤ 1000) (hSl : S.length ≤ 1000) :
    Calls Tryz.prog 21 #[pbV P wv fv rv, vr, vs] w (WtP w (wtP P R S) (wtN P R S)) := by
  have hX0 : Hid (Wx w P wv fv rv vr vs R S ((w.alloc (.cells #[.int .i64 P.users, wv, fv, rv] 26)).alloc (.cells #[.int .i64 0, .slice none 0 0, .slice none 0 0, .slice none 0 0] 26))) := ⟨Fp.start h, hR.below (Fp.start h).be (Nat.le_refl _), hS.below (Fp.start h).be (Nat.le_refl _)⟩
  have KC : Hid (∀ V, PbV V P wv fv rv → Calls Tryz.prog 13 #[pbV P wv fv rv] V fun e w' => e = .returned (.int .i64 (chkN P : Int)) ∧ Below V.heap.size V w') := fun V hV => checkPF P wv fv rv V hV hk.w hk.f hk.r hk.s hk.b
  have hs := h.shape
  have hk' := hide' hk
  obtain ⟨ow, cw, of, cf, or, cr, rfl, rfl, rfl⟩ := hs
  obtain ⟨oR, cR, rfl, _, _⟩ := hR
  obtain ⟨oS, cS, rfl, _, _⟩ := hS
  unfold pbV at KC ⊢
  have KB1 : Hid (∀ V, Wx w P (.slice ow P.who.length cw) (.slice of P.fixed.length cf) (.slice or P.rules.length cr) (.slice oR R.length cR) (.slice oS S.length cS) R S V → Calls Tryz.prog 51 #[.int .i64 (P.rules.length : Int), .slice oR R.length cR] V fun e w' => e = .returned (.bool (!R.any (outN P.rules.length))) ∧ Below V.heap.size V w') := fun V hV => allBelowF R _ _ V hV.r (by omega)
  have KB2 : Hid (∀ V, Wx w P (.slice ow P.who.length cw) (.slice of P.fixed.length cf) (.slice or P.rules.length cr) (.slice oR R.length cR) (.slice oS S.length cS) R S V → Calls Tryz.prog 51 #[.int .i64 (P.who.length : Int), .slice oS S.length cS] V fun e w' => e = .returned (.bool (!S.any (outN P.who.length))) ∧ Below V.heap.size V w') := fun V hV => allBelowF S _ _ V hV.s (by omega)
  have KA1 : Hid (∀ V, Wx w P (.slice ow P.who.length cw) (.slice of P.fixed.length cf) (.slice or P.rules.length cr) (.slice oR R.length cR) (.slice oS S.length cS) R S V → Calls Tryz.prog 52 #[.slice oR R.length cR] V fun e w' => ∃ g, e = .returned (.func (.func 80) #[] #[.pointer (some ⟨g, 0, none⟩)]) ∧ Hid (Chs w' 80 #[.pointer (some ⟨g, 0, none⟩)] (inC R)) ∧ Hid (Below V.heap.size V w')) := fun V hV => amongF R _ V hV.r (by omega)
  have KA2 : Hid (∀ V, Wx w P (.slice ow P.who.length cw) (.slice of P.fixed.length cf) (.slice or P.rules.length cr) (.slice oR R.length cR) (.slice oS S.length cS) R S V → Calls Tryz.prog 52 #[.slice oS S.length cS] V fun e w' => ∃ g, e = .returned (.func (.func 80) #[] #[.pointer (some ⟨g, 0, none⟩)]) ∧ Hid (Chs w' 80 #[.pointer (some ⟨g, 0, none⟩)] (inC S)) ∧ Hid (Below V.heap.size V w')) := fun V hV => amongF S _ V hV.s (by omega)
  have hrl : P.rules.length ≤ 1000 := hk.r
  have hwl : P.who.length ≤ 1000 := hk.w
  clear h hk
  go_enter Tryz.func21, Tryz.ntmps21
  have q0 := hX0.out.p.pb.c0
  have q1 := hX0.out.p.pb.c1
  have q2 := hX0.out.p.pb.c2
  have q3 := hX0.out.p.pb.c3
  go_wp2_with fail
  clear q0 q1 q2 q3
  generalize (w.alloc (.cells #[.int .i64 P.users, .slice ow P.who.length cw, .slice of P.fixed.length cf, .slice or P.rules.length cr] 26)).alloc (.cells #[.int .i64 0, .slice none 0 0, .slice none 0 0, .slice none 0 0] 26) = w1 at *
  refine (KC.out _ hX0.out.p.pv).mono ?_
  rintro e w2 ⟨rfl, hb2⟩
  have hX2 := hide' (hX0.out.over hb2)
  clear hX0 hb2 KC
  by_cases hC : chkN P = 0
  case neg =>
    as_aux_lemma =>
    have hP : WtE P R S (chkN P) := WtE.mk' (by unfold wtN; rw [if_neg hC]) hC
    have hne : ¬ ((chkN P : Nat) : Int) = 0 := by omega
    have hne2 : (((chkN P : Nat) : Int) != 0) = true := by rw [bne_iff_ne]; exact hne
    generalize chkN P = cc at *
    have f0 := hX2.out.p.z.frz 0
    have y0 := hX2.out.p.z.c0
    have f1 := (hX2.out.p.z.s0C 0).frz 1
    have y1 := (hX2.out.p.z.s0C 0).c1
    have f2 := ((hX2.out.p.z.s0C 0).s1 (.slice none 0 0)).frz 2
    have y2 := ((hX2.out.p.z.s0C 0).s1 (.slice none 0 0)).c2
    have f3 := (((hX2.out.p.z.s0C 0).s1 (.slice none 0 0)).s2 (.slice none 0 0)).frz 3
    have y3 := (((hX2.out.p.z.s0C 0).s1 (.slice none 0 0)).s2 (.slice none 0 0)).c3
    have x0 := ((((hX2.out.p.z.s0C 0).s1 (.slice none 0 0)).s2 (.slice none 0 0)).s3 (.slice none 0 0)).c0
    have x1 := ((((hX2.out.p.z.s0C 0).s1 (.slice none 0 0)).s2 (.slice none 0 0)).s3 (.slice none 0 0)).c1
    have x2 := ((((hX2.out.p.z.s0C 0).s1 (.slice none 0 0)).s2 (.slice none 0 0)).s3 (.slice none 0 0)).c2
    have x3 := ((((hX2.out.p.z.s0C 0).s1 (.slice none 0 0)).s2 (.slice none 0 0)).s3 (.slice none 0 0)).c3
    have hF := hide' (hX2.out.p.resC (.int .i64 0) (.slice none 0 0) (.slice none 0 0) (.slice none 0 0))
    clear hX2 hk' KB1 KB2 KA1 KA2
    go_wp2
    refine bodyPost_ret (v := .tuple #[.agg #[.int .i64 0, .slice none 0 0, .slice none 0 0, .slice none 0 0], .int .i64 (cc : Int)]) (by simp [results, Tryz.results21, go_sem, x0, x1, x2, x3]) rfl ?_
    unfold WtP
    rw [hP.n, hP.p]
    exact ⟨_, _, _, _, _, _, _, _, _, rfl, nil_pvC _, hF.out, fun ad n c e => (by cases e), fun W2 _ => nil_pvC W2⟩
  have hne2 : (((chkN P : Nat) : Int) != 0) = false := by rw [hC]; rfl
  have hN : Hid (wtN P R S = if (R.any (outN P.rules.length) || S.any (outN P.who.length)) = true then 1 else 0) := by show _ = _; unfold wtN; rw [if_pos hC]
  obtain ⟨g12, g0, g64, g32, gF, gW, gR⟩ := chkN_zero hC
  have hfl := hide' ((fixB_of gF g64).1)
  have hun : Hid (0 ≤ P.users ∧ P.users ≤ 64) := ⟨g0, g64⟩
  clear g12 g0 g64 g32 gF gW gR hC
  generalize ((chkN P : Nat) : Int) = cc at *
  have q1 := hX2.out.p.pb.c1
  have q3 := hX2.out.p.pb.c3
  generalize hbR : R.any (outN P.rules.length) = bR at *
  generalize hbS : S.any (outN P.who.length) = bS at *
  clear hbR hbS
  by_cases hbad : (bR || bS) = true
  · rw [if_pos hbad] at hN
    have hP : WtE P R S 1 := WtE.mk' hN.out (by decide)
    clear KA1 KA2 hk' hfl hun hN
    cases bR
    · have hbs : bS = true := by simpa using hbad
      subst hbs
      as_aux_lemma =>
      go_wp2_with (first | (go_at_call 51; refine (KB2.out _ hX3.out).mono ?_; rintro e w4 ⟨rfl, hb4⟩; have hX4 := hide' (hX3.out.over hb4); have f0 := hX4.out.p.z.frz 0; have y0 := hX4.out.p.z.c0; have f1 := (hX4.out.p.z.s0C 0).frz 1; have y1 := (hX4.out.p.z.s0C 0).c1; have f2 := ((hX4.out.p.z.s0C 0).s1 (.slice none 0 0)).frz 2; have y2 := ((hX4.out.p.z.s0C 0).s1 (.slice none 0 0)).c2; have f3 := (((hX4.out.p.z.s0C 0).s1 (.slice none 0 0)).s2 (.slice none 0 0)).frz 3; have y3 := (((hX4.out.p.z.s0C 0).s1 (.slice none 0 0)).s2 (.slice none 0 0)).c3) | (go_at_call 51; refine (KB1.out _ hX2.out).mono ?_; rintro e w3 ⟨rfl, hb3⟩; have hX3 := hide' (hX2.out.over hb3); have q13 := hX3.out.p.pb.c1))
      have x0 := ((((hX4.out.p.z.s0C 0).s1 (.slice none 0 0)).s2 (.slice none 0 0)).s3 (.slice none 0 0)).c0
      have x1 := ((((hX4.out.p.z.s0C 0).s1 (.slice none 0 0)).s2 (.slice none 0 0)).s3 (.slice none 0 0)).c1
      have x2 := ((((hX4.out.p.z.s0C 0).s1 (.slice none 0 0)).s2 (.slice none 0 0)).s3 (.slice none 0 0)).c2
      have x3 := ((((hX4.out.p.z.s0C 0).s1 (.slice none 0 0)).s2 (.slice none 0 0)).s3 (.slice none 0 0)).c3
      refine bodyPost_ret (v := .tuple #[.agg #[.int .i64 0, .slice none 0 0, .slice none 0 0, .slice none 0 0], .int .i64 1]) (by simp [results, Tryz.results21, go_sem, x0, x1, x2, x3]) rfl ?_
      unfold WtP
      rw [hP.n, hP.p]
      exact ⟨_, _, _, _, _, _, _, _, _, rfl, nil_pvC _, hX4.out.p.resC _ _ _ _, fun ad n c e => (by cases e), fun W2 _ => nil_pvC W2⟩
    · as_aux_lemma =>
      go_wp2_with (first | (go_at_call 51; refine (KB1.out _ hX2.out).mono ?_; rintro e w4 ⟨rfl, hb4⟩; have hX4 := hide' (hX2.out.over hb4); have f0 := hX4.out.p.z.frz 0; have y0 := hX4.out.p.z.c0; have f1 := (hX4.out.p.z.s0C 0).frz 1; have y1 := (hX4.out.p.z.s0C 0).c1; have f2 := ((hX4.out.p.z.s0C 0).s1 (.slice none 0 0)).frz 2; have y2 := ((hX4.out.p.z.s0C 0).s1 (.slice none 0 0)).c2; have f3 := (((hX4.out.p.z.s0C 0).s1 (.slice none 0 0)).s2 (.slice none 0 0)).frz 3; have y3 := (((hX4.out.p.z.s0C 0).s1 (.slice none 0 0)).s2 (.slice none 0 0)).c3))
      have x0 := ((((hX4.out.p.z.s0C 0).s1 (.slice none 0 0)).s2 (.slice none 0 0)).s3 (.slice none 0 0)).c0
      have x1 := ((((hX4.out.p.z.s0C 0).s1 (.slice none 0 0)).s2 (.slice none 0 0)).s3 (.slice none 0 0)).c1
      have x2 := ((((hX4.out.p.z.s0C 0).s1 (.slice none 0 0)).s2 (.slice none 0 0)).s3 (.slice none 0 0)).c2
      have x3 := ((((hX4.out.p.z.s0C 0).s1 (.slice none 0 0)).s2 (.slice none 0 0)).s3 (.slice none 0 0)).c3
      refine bodyPost_ret (v := .tuple #[.agg #[.int .i64 0, .slice none 0 0, .slice none 0 0, .slice none 0 0], .int .i64 1]) (by simp [results, Tryz.results21, go_sem, x0, x1, x2, x3]) rfl ?_
      unfold WtP
      rw [hP.n, hP.p]
      exact ⟨_, _, _, _, _, _, _, _, _, rfl, nil_pvC _, hX4.out.p.resC _ _ _ _, fun ad n c e => (by cases e), fun W2 _ => nil_pvC W2⟩
  · rw [if_neg hbad] at hN
    have hbR : bR = false := by cases bR; rfl; exact absurd rfl hbad
    have hbS : bS = false := by cases bS; rfl; exact absurd (by simp) hbad
    subst hbR hbS
    have hP : Hid (wtP P R S = spP P (inC R) (inC S)) := by show _ = _; unfold wtP; rw [if_pos hN.out]
    have hNP : WtY P R S (spP P (inC R) (inC S)) := ⟨hN.out, hP.out⟩
    have KR : Hid (∀ V g1 g2, Wx w P (.slice ow P.who.length cw) (.slice of P.fixed.length cf) (.slice or P.rules.length cr) (.slice oR R.length cR) (.slice oS S.length cS) R S V → Chs V 80 #[.pointer (some ⟨g1, 0, none⟩)] (inC R) → Chs V 80 #[.pointer (some ⟨g2, 0, none⟩)] (inC S) → Calls Tryz.prog 47 #[.agg #[.int .i64 P.users, .slice ow P.who.length cw, .slice of P.fixed.length cf, .slice or P.rules.length cr], .func (.func 80) #[] #[.pointer (some ⟨g1, 0, none⟩)], .func (.func 80) #[] #[.pointer (some ⟨g2, 0, none⟩)]] V (RsP V (spP P (inC R) (inC S)))) := fun V g1 g2 hV h1 h2 => restF P _ _ _ _ _ _ _ _ _ V hV.p.pv hk'.out hun.out.1 hun.out.2 hfl.out h1 h2
    unfold RsP at KR
    clear hN hP hbad hk' hun hfl
    generalize spP P (inC R) (inC S) = X at *
    go_upto_region 6 with (first | (go_at_call 51; refine (KB2.out _ hX3.out).mono ?_; rintro e w4 ⟨rfl, hb4⟩; have hX4 := hide' (hX3.out.over hb4)) | (go_at_call 51; refine (KB1.out _ hX2.out).mono ?_; rintro e w3 ⟨rfl, hb3⟩; have hX3 := hide' (hX2.out.over hb3); have q13 := hX3.out.p.pb.c1))
    have hXd := hide' (hX4.out.over (Below.refl _ w4).drew)
    have hcl : Hid (∀ V, Wx w P (.slice ow P.who.length cw) (.slice of P.fixed.length cf) (.slice or P.rules.length cr) (.slice oR R.length cR) (.slice oS S.length cS) R S V → V.cell? ⟨w.heap.size, 0, none⟩ = some (.int .i64 P.users) ∧ V.cell? ⟨w.heap.size, 1, none⟩ = some (.slice ow P.who.length cw) ∧ V.cell? ⟨w.heap.size, 2, none⟩ = some (.slice of P.fixed.length cf) ∧ V.cell? ⟨w.heap.size, 3, none⟩ = some (.slice or P.rules.length cr)) := fun V hV => ⟨hV.p.pb.c0, hV.p.pb.c1, hV.p.pb.c2, hV.p.pb.c3⟩
    have hcs : Hid (∀ V, Wx w P (.slice ow P.who.length cw) (.slice of P.fixed.length cf) (.slice or P.rules.length cr) (.slice oR R.length cR) (.slice oS S.length cS) R S V → ∀ x0 x1 x2 x3 : Value, (((((V.setCell ⟨w.heap.size + 1, 0, none⟩ x0).setCell ⟨w.heap.size + 1, 1, none⟩ x1).setCell ⟨w.heap.size + 1, 2, none⟩ x2).setCell ⟨w.heap.size + 1, 3, none⟩ x3).cell? ⟨w.heap.size, 0, none⟩ = some (.int .i64 P.users) ∧ ((((V.setCell ⟨w.heap.size + 1, 0, none⟩ x0).setCell ⟨w.heap.size + 1, 1, none⟩ x1).setCell ⟨w.heap.size + 1, 2, none⟩ x2).setCell ⟨w.heap.size + 1, 3, none⟩ x3).cell? ⟨w.heap.size, 1, none⟩ = some (.slice ow P.who.length cw) ∧ ((((V.setCell ⟨w.heap.size + 1, 0, none⟩ x0).setCell ⟨w.heap.size + 1, 1, none⟩ x1).setCell ⟨w.heap.size + 1, 2, none⟩ x2).setCell ⟨w.heap.size + 1, 3, none⟩ x3).cell? ⟨w.heap.size, 2, none⟩ = some (.slice of P.fixed.length cf) ∧ ((((V.setCell ⟨w.heap.size + 1, 0, none⟩ x0).setCell ⟨w.heap.size + 1, 1, none⟩ x1).setCell ⟨w.heap.size + 1, 2, none⟩ x2).setCell ⟨w.heap.size + 1, 3, none⟩ x3).cell? ⟨w.heap.size, 3, none⟩ = some (.slice or P.rules.length cr))) := fun V hV x0 x1 x2 x3 => by
      have hb := Below.setCell (Below.setCell (Below.setCell (Below.setCell (Below.refl (w.heap.size + 1) V) (p := ⟨w.heap.size + 1, 0, none⟩) (Nat.le_refl _) x0) (p := ⟨w.heap.size + 1, 1, none⟩) (Nat.le_refl _) x1) (p := ⟨w.heap.size + 1, 2, none⟩) (Nat.le_refl _) x2) (p := ⟨w.heap.size + 1, 3, none⟩) (Nat.le_refl _) x3
      have hp : PbB ((((V.setCell ⟨w.heap.size + 1, 0, none⟩ x0).setCell ⟨w.heap.size + 1, 1, none⟩ x1).setCell ⟨w.heap.size + 1, 2, none⟩ x2).setCell ⟨w.heap.size + 1, 3, none⟩ x3) w.heap.size P _ _ _ := (hb.block _ (by omega)).trans hV.p.pb
      exact ⟨hp.c0, hp.c1, hp.c2, hp.c3⟩
    clear hX3 hX4 hb3 hb4 q1 q3 q13 hX2 KB1 KB2
    go_region_held3 (fun V => V.cell? ⟨w.heap.size, 0, none⟩ = some (.int .i64 P.users) ∧ V.cell? ⟨w.heap.size, 1, none⟩ = some (.slice ow P.who.length cw) ∧ V.cell? ⟨w.heap.size, 2, none⟩ = some (.slice of P.fixed.length cf) ∧ V.cell? ⟨w.heap.size, 3, none⟩ = some (.slice or P.rules.length cr)) (first | (exact hcl.out _ hXd.out) | (exact hcl.out _ hX5.out) | (exact hcl.out _ hX6.out) | (exact hcl.out _ hX7.out) | (exact hcz.out)) (first | (go_at_call 47; refine (KR.out _ _ _ hX6.out (hc5.out.over hb6.out) hc6.out).mono ?_; rintro e w7 ⟨o1, n1, c1, o2, n2, c2, o3, n3, c3, rfl, hV7, hb7, hn7, hk7⟩; have hX7 := hide' (hX6.out.over hb7.out); have f0 := hX7.out.p.z.frz 0; have y0 := hX7.out.p.z.c0; have f1 := (hX7.out.p.z.s0C X.users).frz 1; have y1 := (hX7.out.p.z.s0C X.users).c1; have f2 := ((hX7.out.p.z.s0C X.users).s1 (.slice o1 n1 c1)).frz 2; have y2 := ((hX7.out.p.z.s0C X.users).s1 (.slice o1 n1 c1)).c2; have f3 := (((hX7.out.p.z.s0C X.users).s1 (.slice o1 n1 c1)).s2 (.slice o2 n2 c2)).frz 3; have y3 := (((hX7.out.p.z.s0C X.users).s1 (.slice o1 n1 c1)).s2 (.slice o2 n2 c2)).c3; have hcz := hide' (hcs.out _ hX7.out (.int .i64 X.users) (.slice o1 n1 c1) (.slice o2 n2 c2) (.slice o3 n3 c3))) | (go_at_call 52; refine (KA2.out _ hX5.out).mono ?_; rintro e w6 ⟨g6, rfl, hc6, hb6⟩; have hX6 := hide' (hX5.out.over hb6.out)) | (go_at_call 52; refine (KA1.out _ hXd.out).mono ?_; rintro e w5 ⟨g5, rfl, hc5, hb5⟩; have hX5 := hide' (hXd.out.over hb5.out)))
    all_goals
      have x0 := ((((hX7.out.p.z.s0C X.users).s1 (.slice o1 n1 c1)).s2 (.slice o2 n2 c2)).s3 (.slice o3 n3 c3)).c0
      have x1 := ((((hX7.out.p.z.s0C X.users).s1 (.slice o1 n1 c1)).s2 (.slice o2 n2 c2)).s3 (.slice o3 n3 c3)).c1
      have x2 := ((((hX7.out.p.z.s0C X.users).s1 (.slice o1 n1 c1)).s2 (.slice o2 n2 c2)).s3 (.slice o3 n3 c3)).c2
      have x3 := ((((hX7.out.p.z.s0C X.users).s1 (.slice o1 n1 c1)).s2 (.slice o2 n2 c2)).s3 (.slice o3 n3 c3)).c3
      have hF := hide' (hX7.out.p.resC (.int .i64 X.users) (.slice o1 n1 c1) (.slice o2 n2 c2) (.slice o3 n3 c3))
      have hz6 := hX6.out.p.sz
      have hG := hide' (hk7.out ((((w7.setCell ⟨w.heap.size + 1, 0, none⟩ (.int .i64 X.users)).setCell ⟨w.heap.size + 1, 1, none⟩ (.slice o1 n1 c1)).setCell ⟨w.heap.size + 1, 2, none⟩ (.slice o2 n2 c2)).setCell ⟨w.heap.size + 1, 3, none⟩ (.slice o3 n3 c3)) (fun k h1 _ => by rw [Below.heap_setCell _ _ _ _ (by show k ≠ w.heap.size + 1; omega), Below.heap_setCell _ _ _ _ (by show k ≠ w.heap.size + 1; omega), Below.heap_setCell _ _ _ _ (by show k ≠ w.heap.size + 1; omega), Below.heap_setCell _ _ _ _ (by show k ≠ w.heap.size + 1; omega)]))
      have hKK : Hid (∀ W2 : World, (∀ k, w.heap.size ≤ k → k < ((((w7.setCell ⟨w.heap.size + 1, 0, none⟩ (.int .i64 X.users)).setCell ⟨w.heap.size + 1, 1, none⟩ (.slice o1 n1 c1)).setCell ⟨w.heap.size + 1, 2, none⟩ (.slice o2 n2 c2)).setCell ⟨w.heap.size + 1, 3, none⟩ (.slice o3 n3 c3)).heap.size → W2.heap[k]? = ((((w7.setCell ⟨w.heap.size + 1, 0, none⟩ (.int .i64 X.users)).setCell ⟨w.heap.size + 1, 1, none⟩ (.slice o1 n1 c1)).setCell ⟨w.heap.size + 1, 2, none⟩ (.slice o2 n2 c2)).setCell ⟨w.heap.size + 1, 3, none⟩ (.slice o3 n3 c3)).heap[k]?) → PbV W2 X (.slice o1 n1 c1) (.slice o2 n2 c2) (.slice o3 n3 c3)) := fun W2 hW2 => hk7.out W2 fun k h1 h2 => by
        rw [hW2 k (by omega) (by simpa [World.setCell] using h2), Below.heap_setCell _ _ _ _ (by show k ≠ w.heap.size + 1; omega), Below.heap_setCell _ _ _ _ (by show k ≠ w.heap.size + 1; omega), Below.heap_setCell _ _ _ _ (by show k ≠ w.heap.size + 1; omega), Below.heap_setCell _ _ _ _ (by show k ≠ w.heap.size + 1; omega)]
      go_wp2
      refine bodyPost_ret (v := .tuple #[.agg #[.int .i64 X.users, .slice o1 n1 c1, .slice o2 n2 c2, .slice o3 n3 c3], .int .i64 0]) (by simp [results, Tryz.results21, go_sem, x0, x1, x2, x3]) rfl ?_
      unfold WtP
      rw [hNP.n, hNP.p]
      exact ⟨_, _, _, _, _, _, _, _, _, rfl, hG, hF, (fun ad n c e => by have := hn7.out ad n c e; omega), hKK.out⟩
end Go.Proofs.YtlijlelejobchaaGreatDoor.S
