/- SolveOwn: what stands between its calls. -/
import Derived.Test.YtkmglmfdcmcobaaGreatDoorJ29
import Derived.Test.YtkmglmfdcmcobaaGreatDoorJ33
import Derived.Test.YtkmglmfdcmcobaaGreatDoorJ35
namespace Go.Proofs.YtkmglmfdcmcobaaGreatDoor.S
open Go.RowKit Go.Shelf
/-- What was there before the book: nothing has turned but the solver. -/
def Rs (V0 : World) (gs a b c : Nat) (W : World) : Prop := (∀ k, k < V0.heap.size → k ≠ gs → W.heap[k]? = V0.heap[k]?) ∧ GgAt W gs a b c
theorem Rs.cl {V0 : World} {gs a b c : Nat} (hg : gs < V0.heap.size) : ∀ W1 W2 : World, Rs V0 gs a b c W1 → (∀ g, g < V0.heap.size → W2.heap[g]? = W1.heap[g]?) → Rs V0 gs a b c W2 :=
  fun _ _ h e => ⟨fun k hk hn => (e k hk).trans (h.1 k hk hn), h.2.of (e gs hg)⟩
/-- The problem cut and a solver, ahead of the book. -/
structure Sb (V0 : World) (Q : Pb) (qw qf qr : Value) (g gs : Nat) : Prop where
  pb : PbB V0 g Q qw qf qr
  pv : PbV V0 Q qw qf qr
  tab : M.Tab V0
  gg : GgAt V0 gs 0 0 0
  hne : ∀ ad n c, qw = .slice (some ad) n c → ad.block ≠ gs
  hgp : g ≠ gs
  hG : 1 ≤ gs
section
variable {V0 W W' : World} {Q : Pb} {qw qf qr : Value} {g gs a b c a' b' c' bb p mm : Nat} {xw xf xr : Value} {Lw : List Nat} {Lf : List Int} {P : List (Rl × Value)} {E H : List (Value × List Int)} {F : Nat → Prop}
theorem Sb.gl (h : Sb V0 Q qw qf qr g gs) : gs < V0.heap.size := h.gg.lt
theorem Sb.at (h : Sb V0 Q qw qf qr g gs) (hz : Z2 V0 (Rs V0 gs a b c) bb p mm xw xf xr Lw Lf P E H F W) : PbB W g Q qw qf qr ∧ PbV W Q qw qf qr ∧ M.Tab W := by
  obtain ⟨e1, e2, e3, e4⟩ := hz.en
  have hf : M.Fr2 V0 W gs gs := ⟨e1, e2, e3, e4, fun k hk h1 _ => hz.r.1 k hk h1⟩
  exact ⟨(hf.block g (Array.getElem?_eq_some_iff.1 h.pb).1 h.hgp h.hgp).trans h.pb, pbV_frame h.pv h.gg h.hne hf, tab_frame h.tab h.hG hf⟩
theorem Z2.low (hz : Z2 V0 (Rs V0 gs a b c) bb p mm xw xf xr Lw Lf P E H F W) : ∀ ad n c, xw = .slice (some ad) n c → V0.heap.size ≤ ad.block := fun ad n c e => by
  obtain ⟨tB, tL, tU, m, k, h1, _, _, h4⟩ := hz
  have h10 := h4.wt ad.block (by rw [e]; rfl)
  rcases Nat.lt_or_ge ad.block V0.heap.size with q | q
  · have := (h1.low _ q).2.2; omega
  · exact q
/-- A rule of the problem cut. -/
theorem Sb.rule {or : Option Addr} {nr cr : Nat} (h : Sb V0 Q qw qf (.slice or nr cr) g gs) {i : Nat} {r : Rl} (hr : Q.rules[i]? = some r) : ∃ g3 o3 sv, or = some ⟨g3, o3, none⟩ ∧ ∀ (a b c mm : Nat) (xw xf xr : Value) (Lw : List Nat) (Lf : List Int) (PP : List (Rl × Value)) (E H : List (Value × List Int)) (F : Nat → Prop) (W : World), Z2 V0 (Rs V0 gs a b c) bb p mm xw xf xr Lw Lf PP E H F W →
    W.cell? ⟨g3, o3 + i * 3, none⟩ = some (.int .i64 r.kind) ∧ W.cell? ⟨g3, o3 + i * 3 + 1, none⟩ = some (.int .i64 r.k) ∧ W.cell? ⟨g3, o3 + i * 3 + 2, none⟩ = some sv ∧ RowI W sv r.steps := by
  obtain ⟨oa, cap, e, e0, hc⟩ := h.pv.rules
  injection e with e1 _ _
  subst e1
  obtain ⟨g3, o3, sv, rfl, e2, e3, e4, e5⟩ := hc i r hr
  refine ⟨g3, o3, sv, rfl, fun a b c mm xw xf xr Lw Lf PP E H F W hz => ?_⟩
  have hne : g3 ≠ gs := fun q => by rw [q] at e2; exact h.gg.kind e2
  have h1 := hz.r.1 g3 (cell_lt e2) hne
  refine ⟨?_, ?_, ?_, rowI_frame e5 h.gg fun k hk hn => hz.r.1 k hk hn⟩ <;> (simp only [World.cell?] at e2 e3 e4 ⊢; rw [h1]; assumption)
/-- A call of the solver. -/
theorem Z2.solv (h : Sb V0 Q qw qf qr g gs) (hz : Z2 V0 (Rs V0 gs a b c) bb p mm xw xf xr Lw Lf P E H F W) (hf : M.Fr2 W W' gs gs) (hg : GgAt W' gs a' b' c') : Z2 V0 (Rs V0 gs a' b' c') bb p mm xw xf xr Lw Lf P E H (fun g => F g ∨ (W.heap.size ≤ g ∧ g < W'.heap.size)) W' := by
  have hgl := h.gl
  obtain ⟨_, _, _, e4⟩ := hz.en
  refine hz.base hf.os hf.tape hf.output hf.size (fun k h1 h2 => hf.block k h2 (by omega) (by omega)) ⟨fun k hk hn => (hf.block k (by omega) hn hn).trans (hz.r.1 k hk hn), hg⟩ (Rs.cl hgl)
end
/-- A problem that was told: its rows are one's own; of the first i rules the steps are in the book, the kinds written over. -/
def kinds (E : List (Rl × Value)) (i : Nat) : List (Rl × Value) := (E.take i).map (fun q => (⟨99, q.1.k, q.1.steps⟩, q.2)) ++ E.drop i
theorem kinds_len (E : List (Rl × Value)) (i : Nat) : (kinds E i).length = E.length := by
  unfold kinds
  rw [List.length_append, List.length_map, List.length_take, List.length_drop]
  omega
theorem kinds_at {E : List (Rl × Value)} {i : Nat} {q : Rl × Value} (h : E[i]? = some q) : (kinds E i)[i]? = some q := by
  obtain ⟨hl, _⟩ := List.getElem?_eq_some_iff.1 h
  unfold kinds
  have e : ((E.take i).map (fun q : Rl × Value => ((⟨99, q.1.k, q.1.steps⟩ : Rl), q.2))).length = i := by rw [List.length_map, List.length_take]; omega
  rw [List.getElem?_append_right (by omega), e, Nat.sub_self, List.getElem?_drop, Nat.add_zero, h]
theorem kinds_succ {E : List (Rl × Value)} {i : Nat} {q : Rl × Value} (h : E[i]? = some q) : cellsR (kinds E (i + 1)) = (cellsR (kinds E i)).set (i * 3) (.int .i64 99) := by
  obtain ⟨hl, hq⟩ := List.getElem?_eq_some_iff.1 h
  have e : ((E.take i).map (fun q : Rl × Value => ((⟨99, q.1.k, q.1.steps⟩ : Rl), q.2))).length = i := by rw [List.length_map, List.length_take]; omega
  have e1 : E.drop i = q :: E.drop (i + 1) := by rw [List.drop_eq_getElem_cons hl, hq]
  unfold kinds
  rw [e1, cellsR_app, cellsR_app, List.take_add_one, h, List.map_append, cellsR_app]
  rw [List.set_append_right _ _ (by rw [cellsR_len, e]; exact Nat.le_refl _), cellsR_len, e, Nat.sub_self]
  simp [cellsR, rcells]
structure Yk (V0 : World) (R : World → Prop) (b p M : Nat) (xw xf xr : Value) (Lw : List Nat) (Lf : List Int) (P : List (Rl × Value)) (gx gy : Nat) (B n : Nat) (va vc : Value) (xs : List Value) (E : List (Rl × Value)) (i : Nat) (W : World) : Prop where
  z : Z2 V0 R b p M xw xf xr Lw Lf P [] [] (fun g => g = gx ∨ g = gy ∨ va.ownBlock = some g ∨ vc.ownBlock = some g ∨ ∃ q ∈ E.drop i, q.2.ownBlock = some g) W
  wr : W.ownsRow B 55 1 va n xs
  rr : W.ownsRow B 44 3 vc E.length (cellsR (kinds E i))
  ir : ∀ q ∈ E.drop i, W.ownsRow B 3 1 q.2 q.1.steps.length (cellsI q.1.steps)
section
variable {V0 W W' : World} {R : World → Prop} {b p M gx gy B n i : Nat} {xw xf xr va vc : Value} {Lw : List Nat} {Lf : List Int} {P E : List (Rl × Value)} {xs : List Value} {u v : Int} {x1 x2 x3 y1 y2 y3 : Value}
theorem kind_ne {e1 e2 s1 s2 B1 B2 n1 n2 : Nat} {v1 v2 : Value} {c1 c2 : List Value} (h1 : W.ownsRow B1 e1 s1 v1 n1 c1) (h2 : W.ownsRow B2 e2 s2 v2 n2 c2) (hne : e1 ≠ e2) {g : Nat} (hg : v1.ownBlock = some g) : v2.ownBlock ≠ some g := fun q => by
  obtain ⟨c1, f1, q1⟩ := Go.Lib.ownsRow_kind h1 g hg
  obtain ⟨c2, f2, q2⟩ := Go.Lib.ownsRow_kind h2 g q
  rw [q1] at q2
  injection q2 with q2
  injection q2 with _ q2
  exact hne q2
theorem Yk.below (h : Yk V0 R b p M xw xf xr Lw Lf P gx gy B n va vc xs E i W) (hb : Below W.heap.size W W') : Yk V0 R b p M xw xf xr Lw Lf P gx gy B n va vc xs E i W' :=
  ⟨h.z.below hb, own_below h.wr hb (Nat.le_refl _), own_below h.rr hb (Nat.le_refl _), fun q hq => own_below (h.ir q hq) hb (Nat.le_refl _)⟩
/-- The steps of a rule into the book. -/
theorem yBook (h : Yk V0 R b p M xw xf xr Lw Lf P gx gy B n va vc xs E i W) (hx : QAt W gx u x1 x2 x3) (hy : QAt W gy v y1 y2 y3) (hd : Dvq E) {q : Rl × Value} (hq : E[i]? = some q) (hl : q.1.steps.length ≤ 1000000) :
    Calls Tryz.prog 11 #[.pointer (some ⟨b, 0, none⟩), q.2] W fun e w' => e = .returned (.tuple #[]) ∧ Hid (Z2 V0 R b p M xw xf xr Lw Lf P [] [] (fun g => g = gx ∨ g = gy ∨ va.ownBlock = some g ∨ vc.ownBlock = some g ∨ ∃ q ∈ E.drop (i + 1), q.2.ownBlock = some g) w') ∧ Hid (w'.ownsRow B 55 1 va n xs ∧ w'.ownsRow B 44 3 vc E.length (cellsR (kinds E i)) ∧ (∀ q ∈ E.drop (i + 1), w'.ownsRow B 3 1 q.2 q.1.steps.length (cellsI q.1.steps)) ∧ QAt w' gx u x1 x2 x3 ∧ QAt w' gy v y1 y2 y3) := by
  obtain ⟨hil, hqe⟩ := List.getElem?_eq_some_iff.1 hq
  have e1 : E.drop i = q :: E.drop (i + 1) := by rw [List.drop_eq_getElem_cons hil, hqe]
  have hmem : q ∈ E.drop i := by rw [e1]; exact List.mem_cons_self
  have hsub : ∀ r ∈ E.drop (i + 1), r ∈ E.drop i := fun r hr => by rw [e1]; exact List.mem_cons_of_mem _ hr
  have hqr := h.ir q hmem
  have hdr : ∀ r ∈ E.drop (i + 1), ∀ g, q.2.ownBlock = some g → r.2.ownBlock ≠ some g := by
    have hp : (E.drop i).Pairwise fun p r => ∀ g, p.2.ownBlock = some g → r.2.ownBlock ≠ some g := List.Pairwise.sublist (List.drop_sublist i E) hd
    rw [e1] at hp
    exact (List.pairwise_cons.1 hp).1
  have nva : ∀ g, va.ownBlock = some g → q.2.ownBlock ≠ some g := fun g e => kind_ne h.wr hqr (by decide) e
  have nvc : ∀ g, vc.ownBlock = some g → q.2.ownBlock ≠ some g := fun g e => kind_ne h.rr hqr (by decide) e
  have ngx : q.2.ownBlock ≠ some gx := fun e => own_ne_q hqr hx (by decide) e rfl
  have ngy : q.2.ownBlock ≠ some gy := fun e => own_ne_q hqr hy (by decide) e rfl
  refine (z2Book h.z q.2 _ B q.1.steps hqr hl fun g e => .inr (.inr (.inr (.inr ⟨q, hmem, e⟩)))).mono ?_
  rintro e w' ⟨rfl, hz, hf⟩
  refine ⟨rfl, hz.out.drop.less fun g hg => ⟨?_, ?_⟩, ⟨own_same h.wr fun g hg e => hf.out g hg (.inr (.inr (.inl e))) (nva g e), own_same h.rr fun g hg e => hf.out g hg (.inr (.inr (.inr (.inl e)))) (nvc g e), fun r hr => own_same (h.ir r (hsub r hr)) fun g hg e => hf.out g hg (.inr (.inr (.inr (.inr ⟨r, hsub r hr, e⟩)))) fun e2 => hdr r hr g e2 e, hx.of (hf.out gx hx.lt (.inl rfl) ngx), hy.of (hf.out gy hy.lt (.inr (.inl rfl)) ngy)⟩⟩
  · rcases hg with q | q | q | q | ⟨r, hr, q⟩
    · exact .inl q
    · exact .inr (.inl q)
    · exact .inr (.inr (.inl q))
    · exact .inr (.inr (.inr (.inl q)))
    · exact .inr (.inr (.inr (.inr ⟨r, hsub r hr, q⟩)))
  · rcases hg with q | q | q | q | ⟨r, hr, q⟩
    · subst q; exact ngx
    · subst q; exact ngy
    · exact nva g q
    · exact nvc g q
    · exact fun e2 => hdr r hr g e2 q
/-- A rule's kind written over. -/
theorem yKind {gc cc : Nat} (hz : Z2 V0 R b p M xw xf xr Lw Lf P [] [] (fun g => g = gx ∨ g = gy ∨ va.ownBlock = some g ∨ (Value.slice (some ⟨gc, 0, none⟩) E.length cc).ownBlock = some g ∨ ∃ q ∈ E.drop (i + 1), q.2.ownBlock = some g) W) (h1 : W.ownsRow B 55 1 va n xs) (h2 : W.ownsRow B 44 3 (.slice (some ⟨gc, 0, none⟩) E.length cc) E.length (cellsR (kinds E i))) (h3 : ∀ q ∈ E.drop (i + 1), W.ownsRow B 3 1 q.2 q.1.steps.length (cellsI q.1.steps)) (hx : QAt W gx u x1 x2 x3) (hy : QAt W gy v y1 y2 y3) {q : Rl × Value} (hq : E[i]? = some q) :
    Yk V0 R b p M xw xf xr Lw Lf P gx gy B n va (.slice (some ⟨gc, 0, none⟩) E.length cc) xs E (i + 1) (W.setCell ⟨gc, i * 3, none⟩ (.int .i64 99)) ∧ QAt (W.setCell ⟨gc, i * 3, none⟩ (.int .i64 99)) gx u x1 x2 x3 ∧ QAt (W.setCell ⟨gc, i * 3, none⟩ (.int .i64 99)) gy v y1 y2 y3 := by
  have hst := h2.stored (i * 3) (.int .i64 99)
  have hb : ∀ g, g ≠ gc → (W.setCell ⟨gc, i * 3, none⟩ (.int .i64 99)).heap[g]? = W.heap[g]? := fun g e => Below.heap_setCell _ _ _ _ e
  refine ⟨⟨hz.mv (X := fun g => g = gc) (K.Sm.setCell _ rfl) (fun g e _ => .inr (.inr (.inr (.inl (by subst e; rfl))))), own_same h1 fun g _ e => hb g fun q => ?_, ?_, fun r hr => own_same (h3 r hr) fun g _ e => hb g fun q => ?_⟩, hx.of (hb gx fun q => ?_), hy.of (hb gy fun q => ?_)⟩
  · subst q; exact kind_ne h1 h2 (by decide) e rfl
  · rw [kinds_succ hq]; exact hst.1
  · subst q; exact kind_ne (h3 r hr) h2 (by decide) e rfl
  · subst q; exact own_ne_q h2 hx (by decide) (g := gx) rfl rfl
  · subst q; exact own_ne_q h2 hy (by decide) (g := gy) rfl rfl
/-- A word written over. -/
theorem yWord {gw cw k : Nat} {x : Value} (h : Yk V0 R b p M xw xf xr Lw Lf P gx gy B n (.slice (some ⟨gw, 0, none⟩) n cw) vc xs E i W) (hx : QAt W gx u x1 x2 x3) (hy : QAt W gy v y1 y2 y3) :
    Yk V0 R b p M xw xf xr Lw Lf P gx gy B n (.slice (some ⟨gw, 0, none⟩) n cw) vc (xs.set k x) E i (W.setCell ⟨gw, k, none⟩ x) ∧ QAt (W.setCell ⟨gw, k, none⟩ x) gx u x1 x2 x3 ∧ QAt (W.setCell ⟨gw, k, none⟩ x) gy v y1 y2 y3 := by
  have hst := h.wr.stored k x
  have hb : ∀ g, g ≠ gw → (W.setCell ⟨gw, k, none⟩ x).heap[g]? = W.heap[g]? := fun g e => Below.heap_setCell _ _ _ _ e
  refine ⟨⟨h.z.mv (X := fun g => g = gw) (K.Sm.setCell _ rfl) (fun g e _ => .inr (.inr (.inl (by subst e; rfl)))), hst.1, own_same h.rr fun g _ e => hb g fun q => ?_, fun r hr => own_same (h.ir r hr) fun g _ e => hb g fun q => ?_⟩, hx.of (hb gx fun q => ?_), hy.of (hb gy fun q => ?_)⟩
  · subst q; exact kind_ne h.rr h.wr (by decide) e rfl
  · subst q; exact kind_ne (h.ir r hr) h.wr (by decide) e rfl
  · subst q; exact own_ne_q h.wr hx (by decide) (g := gx) rfl rfl
  · subst q; exact own_ne_q h.wr hy (by decide) (g := gy) rfl rfl
end
theorem famNilU2 (w : World) (tag : Nat → Nat) (t : Nat) (c : Nat → Nat) (rows : Nat → List Int) : KU.Fam w tag t c (.slice none 0 0) 0 [] rows :=
  ⟨World.ownsRow_nil _ _ _ _, fun g e => by simp [Value.ownBlock] at e, fun j v h => by simp at h, fun j v g h => by simp at h⟩
/-- The book first, then the loan. -/
theorem Z2.start (V0 : World) (R : World → Prop) (hr : R V0) (hcl : ∀ W1 W2 : World, R W1 → (∀ g, g < V0.heap.size → W2.heap[g]? = W1.heap[g]?) → R W2) : Z2 V0 R V0.heap.size (V0.heap.size + 1) 0 (.slice none 0 0) (.slice none 0 0) (.slice none 0 0) [] [] [] [] [] (fun _ => False) ((V0.alloc (.cells #[.slice none 0 0, .slice none 0 0, .slice none 0 0, .slice none 0 0, .slice none 0 0, .slice none 0 0, .slice none 0 0, .slice none 0 0, .slice none 0 0, .slice none 0 0, .slice none 0 0, .slice none 0 0, .int .i64 0] 36)).alloc (.cells #[.slice none 0 0, .slice none 0 0, .slice none 0 0, .slice none 0 0] 40)) := by
  have hb := K.Book.start V0
  generalize hA : V0.alloc (.cells #[.slice none 0 0, .slice none 0 0, .slice none 0 0, .slice none 0 0, .slice none 0 0, .slice none 0 0, .slice none 0 0, .slice none 0 0, .slice none 0 0, .slice none 0 0, .slice none 0 0, .slice none 0 0, .int .i64 0] 36) = A at *
  have zA : A.heap.size = V0.heap.size + 1 := by rw [← hA]; simp
  have BA : Below V0.heap.size V0 A := by rw [← hA]; exact (Below.refl _ _).alloc (Nat.le_refl _) _
  have B1 : Below A.heap.size A (A.alloc (.cells #[.slice none 0 0, .slice none 0 0, .slice none 0 0, .slice none 0 0] 40)) := (Below.refl _ _).alloc (Nat.le_refl _) _
  have hbx := heap_new A (.cells #[.slice none 0 0, .slice none 0 0, .slice none 0 0, .slice none 0 0] 40)
  rw [zA] at hbx
  have hB2 : Below V0.heap.size V0 (A.alloc (.cells #[.slice none 0 0, .slice none 0 0, .slice none 0 0, .slice none 0 0] 40)) := BA.trans (B1.mono (by omega))
  have hsz : (A.alloc (.cells #[.slice none 0 0, .slice none 0 0, .slice none 0 0, .slice none 0 0] 40)).heap.size = V0.heap.size + 2 := by simp [zA]
  have hO : Os V0 R V0.heap.size (V0.heap.size + 1) (fun g => if g = V0.heap.size then 1 else 0) (fun g => if g = V0.heap.size + 1 then 1 else 0) (fun g => if g = V0.heap.size + 1 then 1 else 0) 0 0 (A.alloc (.cells #[.slice none 0 0, .slice none 0 0, .slice none 0 0, .slice none 0 0] 40)) := by
    refine ⟨⟨hB2.os, hB2.tape, hB2.output, hB2.size⟩, hcl _ _ hr fun g hg => hB2.block g hg, hcl, K.Book.below hb B1, ⟨.slice none 0 0, .slice none 0 0, .slice none 0 0, .slice none 0 0, [], [], fun _ => [], [], [], fun _ => [], ⟨hbx, if_pos rfl, K.famNil _ _ _ _ _, K.famNil _ _ _ _ _, fun g hg => if_neg (by omega), fun j hj => by omega⟩, ⟨hbx, if_pos rfl, famNilU2 _ _ _ _ _, famNilU2 _ _ _ _ _, fun g hg => if_neg (by omega), fun j hj => by omega⟩⟩, fun g => ?_, fun g hg => .inl (if_neg hg), fun g hg => ⟨if_neg (by omega), if_neg (by omega), if_neg (by omega)⟩⟩
    by_cases e : g = V0.heap.size
    · exact .inr ⟨if_neg (by omega), if_neg (by omega)⟩
    · exact .inl (if_neg e)
  exact ⟨_, _, _, 0, 0, hO, Nat.le_refl _, Nat.le_refl _, World.ownsRow_nil _ _ _ _, fun g e => by simp [Value.ownBlock] at e, (fun q hq => by cases hq), ⟨none, 0, rfl, ⟨Nat.le_refl _, fun _ => rfl⟩, fun i z hz => by cases hz⟩, (fun g e => by simp [Value.ownBlock] at e), ⟨none, 0, rfl, ⟨Nat.le_refl _, fun _ => rfl⟩, fun i z hz => by cases hz⟩, (fun g e => by simp [Value.ownBlock] at e), (fun q hq => by cases hq), (fun q hq => by cases hq), fun g hg => hg.elim⟩
/-- At the end nothing that was there at first has turned. -/
theorem Rs.fin {w V0 w6 w7 : World} {gs a b c : Nat} {tB : Nat → Nat} (hb : Below w.heap.size w V0) (hR : Rs V0 gs a b c w6) (en : w6.os = V0.os ∧ w6.tape = V0.tape ∧ w6.output = V0.output ∧ V0.heap.size ≤ w6.heap.size) (hlow : ∀ g, g < V0.heap.size → tB g = 0) (hs : K.Sm (· ≠ 0) tB w6 w7) (hg : w.heap.size ≤ gs) : Below w.heap.size w w7 := by
  obtain ⟨e1, e2, e3, e4⟩ := en
  have h1 := hb.size
  refine ⟨(hs.os.trans e1).trans hb.os, (hs.tape.trans e2).trans hb.tape, (hs.output.trans e3).trans hb.output, Nat.le_trans h1 (Nat.le_trans e4 hs.size), fun k hk => ?_⟩
  have h2 : k < V0.heap.size := by omega
  exact (hs.block k (by omega) (fun q => q (hlow k h2))).trans ((hR.1 k h2 (by omega)).trans (hb.block k hk))
end Go.Proofs.YtkmglmfdcmcobaaGreatDoor.S
