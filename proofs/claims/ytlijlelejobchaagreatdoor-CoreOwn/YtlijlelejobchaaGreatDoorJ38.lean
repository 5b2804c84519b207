/- core: the document's run: wakes. -/
import Derived.Test.YtlijlelejobchaaGreatDoorJ24
import Derived.Test.YtlijlelejobchaaGreatDoorJ33
import Derived.Test.YtlijlelejobchaaGreatDoorJ34
import Derived.Test.YtlijlelejobchaaGreatDoorJ36
import Derived.Test.YtlijlelejobchaaGreatDoorJ37
namespace Go.Proofs.YtlijlelejobchaaGreatDoor.S
open Go.RowKit Go.Shelf
/-- Nothing that was there before has turned. -/
def Rc (V0 : World) (W : World) : Prop := ∀ k, k < V0.heap.size → W.heap[k]? = V0.heap[k]?
theorem Rc.cl {V0 : World} : ∀ W1 W2 : World, Rc V0 W1 → (∀ g, g < V0.heap.size → W2.heap[g]? = W1.heap[g]?) → Rc V0 W2 := fun _ _ h e k hk => (e k hk).trans (h k hk)
/-- The problem cut and the two lists, ahead of the loan and the book. -/
structure Sc (V0 : World) (Q : Pb) (qw qf qr : Value) (g : Nat) (vr vs : Value) (Lr Ls : List Int) : Prop where
  pb : PbB V0 g Q qw qf qr
  pv : PbV V0 Q qw qf qr
  tab : M.Tab V0
  r : RowI V0 vr Lr
  s : RowI V0 vs Ls
section
variable {V0 W : World} {R : World → Prop} {Q : Pb} {qw qf qr vr vs : Value} {Lr Ls : List Int} {g bb p mm gx : Nat} {u : Int} {xw xf xr ba bc bd : Value} {Lw : List Nat} {Lf : List Int} {PP : List (Rl × Value)} {E H : List (Value × List Int)} {F : Nat → Prop} {l l1 l2 : List Int} {v v1 v2 : Value}
theorem Z2.beC (hz : Z2 V0 (Rc V0) bb p mm xw xf xr Lw Lf PP E H F W) : Below V0.heap.size V0 W := by
  obtain ⟨e1, e2, e3, e4⟩ := hz.en
  exact ⟨e1, e2, e3, e4, fun k hk => hz.r k hk⟩
theorem Sc.at (h : Sc V0 Q qw qf qr g vr vs Lr Ls) (hz : Z2 V0 (Rc V0) bb p mm xw xf xr Lw Lf PP E H F W) : PbB W g Q qw qf qr ∧ PbV W Q qw qf qr ∧ M.Tab W ∧ RowI W vr Lr ∧ RowI W vs Ls :=
  ⟨h.pb.below hz.beC, h.pv.below hz.beC, h.tab.over hz.beC, h.r.below hz.beC (Nat.le_refl _), h.s.below hz.beC (Nat.le_refl _)⟩
theorem Sc.rule {or : Option Addr} {nr cr : Nat} (h : Sc V0 Q qw qf (.slice or nr cr) g vr vs Lr Ls) {i : Nat} {r : Rl} (hr : Q.rules[i]? = some r) : ∃ g3 o3 sv, or = some ⟨g3, o3, none⟩ ∧ ∀ (mm : Nat) (xw xf xr : Value) (Lw : List Nat) (Lf : List Int) (PP : List (Rl × Value)) (E H : List (Value × List Int)) (F : Nat → Prop) (W : World), Z2 V0 (Rc V0) bb p mm xw xf xr Lw Lf PP E H F W →
    W.cell? ⟨g3, o3 + i * 3, none⟩ = some (.int .i64 r.kind) ∧ W.cell? ⟨g3, o3 + i * 3 + 1, none⟩ = some (.int .i64 r.k) ∧ W.cell? ⟨g3, o3 + i * 3 + 2, none⟩ = some sv ∧ RowI W sv r.steps := by
  obtain ⟨oa, cap, e, e0, hc⟩ := h.pv.rules
  injection e with e1 _ _
  subst e1
  obtain ⟨g3, o3, sv, rfl, e2, e3, e4, e5⟩ := hc i r hr
  refine ⟨g3, o3, sv, rfl, fun mm xw xf xr Lw Lf PP E H F W hz => ?_⟩
  have h1 := hz.r g3 (cell_lt e2)
  refine ⟨?_, ?_, ?_, e5.below hz.beC (Nat.le_refl _)⟩ <;> (simp only [World.cell?] at e2 e3 e4 ⊢; rw [h1]; assumption)
theorem Z2.high (hz : Z2 V0 R bb p mm xw xf xr Lw Lf PP E H F W) : ∀ ad n c, xw = .slice (some ad) n c → ad.block < W.heap.size := fun ad n c e => by
  obtain ⟨tB, tL, tU, m, k, h1, _, _, h4⟩ := hz
  have h10 := h4.wt ad.block (by rw [e]; rfl)
  rcases Nat.lt_or_ge ad.block W.heap.size with q | q
  · exact q
  · have := (h1.fresh _ q).2.2; omega
/-- Why: its two rows are new. -/
theorem xWhy (h : Sc V0 Q qw qf qr g vr vs Lr Ls) (hz : Zx V0 (Rc V0) bb p mm xw xf xr Q.who Q.fixed PP E H gx u ba bc bd W) (hPP : PP.map Prod.fst = Q.rules) (hk : Pok Q) :
    Calls Tryz.prog 20 #[pbV Q xw xf xr] W fun e w' => ∃ v1 v2 l1 l2 ok, e = .returned (.tuple #[v1, v2, .bool ok]) ∧ Hid (Z2 V0 (Rc V0) bb p mm xw xf xr Q.who Q.fixed PP E H (fun g => g = gx ∨ (W.heap.size ≤ g ∧ g < w'.heap.size)) w') ∧ Hid (QAt w' gx u ba bc bd) ∧ Hid (w'.ownsRow W.heap.size 3 1 v1 (l1 : List Int).length (cellsI l1) ∧ w'.ownsRow W.heap.size 3 1 v2 (l2 : List Int).length (cellsI l2)) ∧ Hid (∀ g, v1.ownBlock = some g → v2.ownBlock ≠ some g) ∧ Hid (l1.length ≤ 1000 ∧ l2.length ≤ 1000) := by
  refine (whyV Q xw xf xr W (hz.pv rfl rfl hPP.symm) hk (h.at hz.z).2.2.1 hz.z.high).mono ?_
  rintro e w' ⟨o1, k1, o2, k2, A, B, s, rfl, h1, h2, h3, h4, h5⟩
  refine ⟨_, _, ints A, ints B, s, rfl, hz.z.free h5.out, hz.q.of (h5.out.block gx hz.q.lt), ⟨?_, ?_⟩, h3, ?_⟩
  · rw [ints_len]; exact h1.out
  · rw [ints_len]; exact h2.out
  · show _ ≤ _ ∧ _ ≤ _
    rw [ints_len, ints_len]; exact h4.out
/-- The first of two rows into the book. -/
theorem xBook1 {B : Nat} (hz : Z2 V0 R bb p mm xw xf xr Lw Lf PP E [] (fun g => g = gx ∨ (B ≤ g ∧ g < W.heap.size)) W) (hq : QAt W gx u ba bc bd) (h1 : W.ownsRow B 3 1 v1 l1.length (cellsI l1)) (h2 : W.ownsRow B 3 1 v2 l2.length (cellsI l2)) (hd : ∀ g, v1.ownBlock = some g → v2.ownBlock ≠ some g) (hl : l1.length ≤ 1000) :
    Calls Tryz.prog 11 #[.pointer (some ⟨bb, 0, none⟩), v1] W fun e w' => e = .returned (.tuple #[]) ∧ Hid (Z2 V0 R bb p mm xw xf xr Lw Lf PP [] [] (fun g => g = gx ∨ v2.ownBlock = some g) w') ∧ Hid (QAt w' gx u ba bc bd) ∧ Hid (w'.ownsRow B 3 1 v2 l2.length (cellsI l2)) := by
  have hne : v1.ownBlock ≠ some gx := fun e => own_ne_q h1 hq (by decide) e rfl
  refine (z2Book hz v1 _ B l1 h1 (by omega) fun g e => .inr ⟨own_ge' h1 e, own_lt' h1 e⟩).mono ?_
  rintro e w' ⟨rfl, hz', hf⟩
  refine ⟨rfl, hz'.out.drop.less fun g e => ?_, hq.of (hf.out gx hq.lt (.inl rfl) hne), own_same h2 fun g hg e => hf.out g hg (.inr ⟨own_ge' h2 e, own_lt' h2 e⟩) fun r => hd g r e⟩
  rcases e with e | e
  · subst e; exact ⟨.inl rfl, hne⟩
  · exact ⟨.inr ⟨own_ge' h2 e, own_lt' h2 e⟩, fun r => hd g r e⟩
theorem xBook2 {B : Nat} (hz : Z2 V0 R bb p mm xw xf xr Lw Lf PP E [] (fun g => g = gx ∨ v2.ownBlock = some g) W) (hq : QAt W gx u ba bc bd) (h2 : W.ownsRow B 3 1 v2 l2.length (cellsI l2)) (hl : l2.length ≤ 1000) :
    Calls Tryz.prog 11 #[.pointer (some ⟨bb, 0, none⟩), v2] W fun e w' => e = .returned (.tuple #[]) ∧ Hid (Zx V0 R bb p mm xw xf xr Lw Lf PP [] [] gx u ba bc bd w') := by
  have hne : v2.ownBlock ≠ some gx := fun e => own_ne_q h2 hq (by decide) e rfl
  exact (z2Book hz v2 _ B l2 h2 (by omega) fun g e => .inr e).mono fun _ _ ⟨h1, h3, h4⟩ => ⟨h1, h3.out.drop.less (fun g e => by subst e; exact ⟨.inl rfl, hne⟩), hq.of (h4.out gx hq.lt (.inl rfl) hne)⟩
/-- Without; its answer's box is laid behind it. -/
theorem xWo {A1 A2 : Value} (hz : Zx V0 R bb p mm xw xf xr Q.who Q.fixed PP ((A2, l2) :: (A1, l1) :: E) H gx u ba bc bd W) (hPP : PP.map Prod.fst = Q.rules) (hk : Pok Q) (hl : l1.length ≤ 1000 ∧ l2.length ≤ 1000) :
    Calls Tryz.prog 21 #[pbV Q xw xf xr, A1, A2] W fun e w' => ∃ va vb vc, (∃ oa ca ob cb oc cc, va = .slice oa (wtP Q l1 l2).who.length ca ∧ vb = .slice ob (wtP Q l1 l2).fixed.length cb ∧ vc = .slice oc (wtP Q l1 l2).rules.length cc) ∧ e = .returned (.tuple #[.agg #[.int .i64 (wtP Q l1 l2).users, va, vb, vc], .int .i64 (wtN Q l1 l2 : Int)]) ∧ Hid (QAt w' gx u ba bc bd) ∧ Hid (Yz V0 R bb p mm xw xf xr Q.who Q.fixed PP gx w'.heap.size u ba bc bd (wtP Q l1 l2) 0 va vb vc (w'.alloc (.cells #[.int .i64 (wtP Q l1 l2).users, va, vb, vc] 26))) := by
  refine (withoutV Q xw xf xr A1 A2 l1 l2 W (hz.pv rfl rfl hPP.symm) hk (hz.z.ex (List.mem_cons_of_mem _ List.mem_cons_self)) (hz.z.ex List.mem_cons_self) hl.1 hl.2).mono ?_
  rintro e w' ⟨o1, n1, c1, o2, n2, c2, o3, n3, c3, rfl, h1, h2, h3, h4⟩
  have hA : Below w'.heap.size w' (w'.alloc (.cells #[.int .i64 (wtP Q l1 l2).users, .slice o1 n1 c1, .slice o2 n2 c2, .slice o3 n3 c3] 26)) := (Below.refl _ _).alloc (Nat.le_refl _) _
  have hs := h2.out.size
  have h5 : Below W.heap.size W (w'.alloc (.cells #[.int .i64 (wtP Q l1 l2).users, .slice o1 n1 c1, .slice o2 n2 c2, .slice o3 n3 c3] 26)) := h2.out.trans (hA.mono hs)
  refine ⟨_, _, _, h1.out.shape, rfl, hz.q.of (h2.out.block gx hz.q.lt), W.heap.size, (hz.z.drop.free h5).less fun g e => ?_, hz.q.of (h5.block gx hz.q.lt), QAt.block (heap_new w' _), fun _ => FvB.mv h4.out fun g hg _ _ _ _ _ _ _ _ => hA.block g hg⟩
  rcases e with e | e | e
  · exact .inl e
  · exact .inr ⟨by omega, by subst e; simp⟩
  · exact .inr e
/-- The rules handed in are as they were. -/
theorem xKeepC (h : Sc V0 Q qw qf qr g vr vs Lr Ls) (hz : Zx V0 (Rc V0) bb p mm xw xf xr Lw Lf PP E H gx u ba bc bd W) (hPP : PP.map Prod.fst = Q.rules) (hk : Pok Q) :
    Calls Tryz.prog 17 #[xr, qr] W fun e w' => e = .returned (.bool true) ∧ Hid (Zx V0 (Rc V0) bb p mm xw xf xr Lw Lf PP E H gx u ba bc bd w') :=
  (keepRules Q.rules xr qr W (by rw [← hPP]; exact rowR_lent hz.z.rules.1 hz.z.rules.2) (h.at hz.z).2.1.rules hk.r hk.s).mono fun _ _ ⟨h1, h2⟩ => ⟨h1, hz.below h2⟩
end
/-- The loan first, then the book. -/
theorem Z2.start2 (V0 : World) (R : World → Prop) (hr : R V0) (hcl : ∀ W1 W2 : World, R W1 → (∀ g, g < V0.heap.size → W2.heap[g]? = W1.heap[g]?) → R W2) : Z2 V0 R (V0.heap.size + 1) V0.heap.size 0 (.slice none 0 0) (.slice none 0 0) (.slice none 0 0) [] [] [] [] [] (fun _ => False) ((V0.alloc (.cells #[.slice none 0 0, .slice none 0 0, .slice none 0 0, .slice none 0 0] 40)).alloc (.cells #[.slice none 0 0, .slice none 0 0, .slice none 0 0, .slice none 0 0, .slice none 0 0, .slice none 0 0, .slice none 0 0, .slice none 0 0, .slice none 0 0, .slice none 0 0, .slice none 0 0, .slice none 0 0, .int .i64 0] 36)) := by
  have hbx := heap_new V0 (.cells #[.slice none 0 0, .slice none 0 0, .slice none 0 0, .slice none 0 0] 40)
  generalize hA : V0.alloc (.cells #[.slice none 0 0, .slice none 0 0, .slice none 0 0, .slice none 0 0] 40) = A at *
  have zA : A.heap.size = V0.heap.size + 1 := by rw [← hA]; simp
  have BA : Below V0.heap.size V0 A := by rw [← hA]; exact (Below.refl _ _).alloc (Nat.le_refl _) _
  have hb := K.Book.start A
  have B1 : Below A.heap.size A (A.alloc (.cells #[.slice none 0 0, .slice none 0 0, .slice none 0 0, .slice none 0 0, .slice none 0 0, .slice none 0 0, .slice none 0 0, .slice none 0 0, .slice none 0 0, .slice none 0 0, .slice none 0 0, .slice none 0 0, .int .i64 0] 36)) := (Below.refl _ _).alloc (Nat.le_refl _) _
  have hbx2 := (B1.block V0.heap.size (by omega)).trans hbx
  have hB2 := BA.trans (B1.mono (by omega))
  have hsz : (A.alloc (.cells #[.slice none 0 0, .slice none 0 0, .slice none 0 0, .slice none 0 0, .slice none 0 0, .slice none 0 0, .slice none 0 0, .slice none 0 0, .slice none 0 0, .slice none 0 0, .slice none 0 0, .slice none 0 0, .int .i64 0] 36)).heap.size = V0.heap.size + 2 := by simp [zA]
  generalize A.alloc (.cells #[.slice none 0 0, .slice none 0 0, .slice none 0 0, .slice none 0 0, .slice none 0 0, .slice none 0 0, .slice none 0 0, .slice none 0 0, .slice none 0 0, .slice none 0 0, .slice none 0 0, .slice none 0 0, .int .i64 0] 36) = W at *
  rw [zA] at hb
  have hO : Os V0 R (V0.heap.size + 1) V0.heap.size (fun g => if g = V0.heap.size + 1 then 1 else 0) (fun g => if g = V0.heap.size then 1 else 0) (fun g => if g = V0.heap.size then 1 else 0) 0 0 W := by
    refine ⟨⟨hB2.os, hB2.tape, hB2.output, hB2.size⟩, hcl _ _ hr fun g hg => hB2.block g hg, hcl, hb, ⟨.slice none 0 0, .slice none 0 0, .slice none 0 0, .slice none 0 0, [], [], fun _ => [], [], [], fun _ => [], ⟨hbx2, if_pos rfl, K.famNil _ _ _ _ _, K.famNil _ _ _ _ _, fun g hg => if_neg (by omega), fun j hj => by omega⟩, ⟨hbx2, if_pos rfl, famNilU2 _ _ _ _ _, famNilU2 _ _ _ _ _, fun g hg => if_neg (by omega), fun j hj => by omega⟩⟩, fun g => ?_, fun g hg => .inl (if_neg hg), fun g hg => ⟨if_neg (by omega), if_neg (by omega), if_neg (by omega)⟩⟩
    by_cases e : g = V0.heap.size + 1
    · exact .inr ⟨if_neg (by omega), if_neg (by omega)⟩
    · exact .inl (if_neg e)
  exact ⟨_, _, _, 0, 0, hO, Nat.le_refl _, Nat.le_refl _, World.ownsRow_nil _ _ _ _, fun g e => by simp [Value.ownBlock] at e, (fun q hq => by cases hq), ⟨none, 0, rfl, ⟨Nat.le_refl _, fun _ => rfl⟩, fun i z hz => by cases hz⟩, (fun g e => by simp [Value.ownBlock] at e), ⟨none, 0, rfl, ⟨Nat.le_refl _, fun _ => rfl⟩, fun i z hz => by cases hz⟩, (fun g e => by simp [Value.ownBlock] at e), (fun q hq => by cases hq), (fun q hq => by cases hq), fun g hg => hg.elim⟩
/-- At the end nothing that was there at first has turned. -/
theorem Rc.fin {w V0 w6 w7 : World} {tB : Nat → Nat} (hb : Below w.heap.size w V0) (hR : Rc V0 w6) (en : w6.os = V0.os ∧ w6.tape = V0.tape ∧ w6.output = V0.output ∧ V0.heap.size ≤ w6.heap.size) (hlow : ∀ g, g < V0.heap.size → tB g = 0) (hs : K.Sm (· ≠ 0) tB w6 w7) : Below V0.heap.size V0 w7 ∧ Below w.heap.size w w7 := by
  obtain ⟨e1, e2, e3, e4⟩ := en
  have h : Below V0.heap.size V0 w7 := ⟨hs.os.trans e1, hs.tape.trans e2, hs.output.trans e3, Nat.le_trans e4 hs.size, fun k hk => (hs.block k (by omega) (fun q => q (hlow k hk))).trans (hR k hk)⟩
  exact ⟨h, hb.trans (h.mono hb.size)⟩
end Go.Proofs.YtlijlelejobchaaGreatDoor.S
namespace Go.Proofs.YtlijlelejobchaaGreatDoor.S
open Go.RowKit Go.Shelf
structure Zy (V0 : World) (R : World → Prop) (b p M : Nat) (xw xf xr : Value) (Lw : List Nat) (Lf : List Int) (P : List (Rl × Value)) (E H : List (Value × List Int)) (gx : Nat) (u : Int) (ba bb bc : Value) (go : Option Nat) (W : World) : Prop where
  z : Z2 V0 R b p M xw xf xr Lw Lf P E H (fun g => g = gx ∨ go = some g) W
  q : QAt W gx u ba bb bc
  y : ∀ gy, go = some gy → QAt W gy 0 (.slice none 0 0) (.slice none 0 0) (.slice none 0 0) ∧ gx ≠ gy
section
variable {V0 W W' : World} {R : World → Prop} {Q : Pb} {b p M gx : Nat} {u : Int} {xw xf xr ba bb bc : Value} {Lw : List Nat} {Lf : List Int} {P : List (Rl × Value)} {E H : List (Value × List Int)} {go : Option Nat} {l1 l2 : List Int}
theorem Zx.y (h : Zx V0 R b p M xw xf xr Lw Lf P E H gx u ba bb bc W) : Zy V0 R b p M xw xf xr Lw Lf P E H gx u ba bb bc none W :=
  ⟨h.z.less (fun g e => by rcases e with e | e; exact e; cases e), h.q, fun gy e => by cases e⟩
theorem Zy.x (h : Zy V0 R b p M xw xf xr Lw Lf P E H gx u ba bb bc go W) : Zx V0 R b p M xw xf xr Lw Lf P E H gx u ba bb bc W := ⟨h.z.less fun _ e => .inl e, h.q⟩
theorem Zy.below (h : Zy V0 R b p M xw xf xr Lw Lf P E H gx u ba bb bc go W) (hb : Below W.heap.size W W') : Zy V0 R b p M xw xf xr Lw Lf P E H gx u ba bb bc go W' :=
  ⟨h.z.below hb, h.q.of (hb.block gx h.q.lt), fun gy e => ⟨(h.y gy e).1.of (hb.block gy (h.y gy e).1.lt), (h.y gy e).2⟩⟩
theorem Zy.box (h : Zy V0 R b p M xw xf xr Lw Lf P E H gx u ba bb bc none W) : Zy V0 R b p M xw xf xr Lw Lf P E H gx u ba bb bc (some W.heap.size) (W.alloc (.cells #[.int .i64 0, .slice none 0 0, .slice none 0 0, .slice none 0 0] 26)) := by
  have hA : Below W.heap.size W (W.alloc (.cells #[.int .i64 0, .slice none 0 0, .slice none 0 0, .slice none 0 0] 26)) := (Below.refl _ _).alloc (Nat.le_refl _) _
  refine ⟨(h.z.free hA).less fun g e => ?_, h.q.of (hA.block gx h.q.lt), fun gy e => ?_⟩
  · rcases e with e | e
    · exact .inl (.inl e)
    · cases e
      exact .inr ⟨Nat.le_refl _, by simp⟩
  · cases e
    exact ⟨QAt.block (heap_new W _), by have := h.q.lt; omega⟩
theorem zyInts (hZ : Zy V0 R b p M xw xf xr Lw Lf P E H gx u ba bb bc go W) (hM : M ≤ 90000) (lv : Value) (l : List Int) (hr : RowI W lv l) (hl : l.length ≤ 1000) :
    Calls Tryz.prog 9 #[.pointer (some ⟨p, 0, none⟩), lv] W fun e w' => ∃ g cap, e = .returned (.slice (some ⟨g, 0, none⟩) l.length cap) ∧ Hid (Zy V0 R b p (M + 1) xw xf xr Lw Lf P ((.slice (some ⟨g, 0, none⟩) l.length cap, l) :: E) H gx u ba bb bc go w') :=
  (z2Ints hZ.z hM lv l hr hl).mono fun _ _ ⟨g, cap, h1, h2, h3⟩ => ⟨g, cap, h1, h2.out, hZ.q.of (h3.out gx hZ.q.lt (.inl rfl)), fun gy e => ⟨(hZ.y gy e).1.of (h3.out gy (hZ.y gy e).1.lt (.inr e)), (hZ.y gy e).2⟩⟩
/-- Without: the box there already, or laid behind it. -/
theorem zyWo {A1 A2 : Value} (hz : Zy V0 R b p M xw xf xr Q.who Q.fixed P [(A2, l2), (A1, l1)] H gx u ba bb bc go W) (hPP : P.map Prod.fst = Q.rules) (hk : Pok Q) (hl : l1.length ≤ 1000 ∧ l2.length ≤ 1000) :
    Calls Tryz.prog 21 #[pbV Q xw xf xr, A1, A2] W fun e w' => ∃ va vb vc, (∃ oa ca ob cb oc cc, va = .slice oa (wtP Q l1 l2).who.length ca ∧ vb = .slice ob (wtP Q l1 l2).fixed.length cb ∧ vc = .slice oc (wtP Q l1 l2).rules.length cc) ∧ e = .returned (.tuple #[.agg #[.int .i64 (wtP Q l1 l2).users, va, vb, vc], .int .i64 (wtN Q l1 l2 : Int)]) ∧ Hid (QAt w' gx u ba bb bc) ∧ Hid (∀ gy, go = some gy → QAt w' gy 0 (.slice none 0 0) (.slice none 0 0) (.slice none 0 0) ∧ Yz V0 R b p M xw xf xr Q.who Q.fixed P gx gy u ba bb bc (wtP Q l1 l2) 0 va vb vc ((((w'.setCell ⟨gy, 0, none⟩ (.int .i64 (wtP Q l1 l2).users)).setCell ⟨gy, 1, none⟩ va).setCell ⟨gy, 2, none⟩ vb).setCell ⟨gy, 3, none⟩ vc)) ∧ Hid (Yz V0 R b p M xw xf xr Q.who Q.fixed P gx w'.heap.size u ba bb bc (wtP Q l1 l2) 0 va vb vc (w'.alloc (.cells #[.int .i64 (wtP Q l1 l2).users, va, vb, vc] 26))) := by
  refine (withoutV Q xw xf xr A1 A2 l1 l2 W (hz.x.pv rfl rfl hPP.symm) hk (hz.z.ex (List.mem_cons_of_mem _ List.mem_cons_self)) (hz.z.ex List.mem_cons_self) hl.1 hl.2).mono ?_
  rintro e w' ⟨o1, n1, c1, o2, n2, c2, o3, n3, c3, rfl, h1, h2, h3, h4⟩
  have hs := h2.out.size
  have hx' := hz.q.of (h2.out.block gx hz.q.lt)
  refine ⟨_, _, _, h1.out.shape, rfl, hx', fun gy e => ?_, ?_⟩
  · have hy' := (hz.y gy e).1.of (h2.out.block gy (hz.y gy e).1.lt)
    have hne := (hz.y gy e).2
    have hb : ∀ g, g ≠ gy → ((((w'.setCell ⟨gy, 0, none⟩ (.int .i64 (wtP Q l1 l2).users)).setCell ⟨gy, 1, none⟩ (.slice o1 n1 c1)).setCell ⟨gy, 2, none⟩ (.slice o2 n2 c2)).setCell ⟨gy, 3, none⟩ (.slice o3 n3 c3)).heap[g]? = w'.heap[g]? := fun g e => by
      rw [Below.heap_setCell _ _ _ _ e, Below.heap_setCell _ _ _ _ e, Below.heap_setCell _ _ _ _ e, Below.heap_setCell _ _ _ _ e]
    have hsz : ((((w'.setCell ⟨gy, 0, none⟩ (.int .i64 (wtP Q l1 l2).users)).setCell ⟨gy, 1, none⟩ (.slice o1 n1 c1)).setCell ⟨gy, 2, none⟩ (.slice o2 n2 c2)).setCell ⟨gy, 3, none⟩ (.slice o3 n3 c3)).heap.size = w'.heap.size := by simp
    have hm : ∀ {V : World} {G : Nat → Prop} (o : Nat) (y : Value), G gy → Z2 V0 R b p M xw xf xr Q.who Q.fixed P [] [] G V → Z2 V0 R b p M xw xf xr Q.who Q.fixed P [] [] G (V.setCell ⟨gy, o, none⟩ y) := fun o y hG h => h.mv (X := fun g => g = gy) (K.Sm.setCell y rfl) fun g e _ => by subst e; exact hG
    have hz' := hz.z.drop.free h2.out
    refine ⟨hy', W.heap.size, ?_, hx'.of (hb gx hne), (((hy'.s0C _).s1 _).s2 _).s3 _, fun _ => FvB.mv h4.out fun g _ _ _ _ _ _ h e he => hb g (own_ne_q h hy' he e)⟩
    rw [hsz]
    exact hm 3 _ (.inr (.inl rfl)) (hm 2 _ (.inr (.inl rfl)) (hm 1 _ (.inr (.inl rfl)) (hm 0 _ (.inr (.inl rfl)) (hz'.less fun g e2 => by
      rcases e2 with e2 | e2 | e2
      · exact .inl (.inl e2)
      · subst e2; exact .inl (.inr e)
      · exact .inr e2))))
  · have hA : Below w'.heap.size w' (w'.alloc (.cells #[.int .i64 (wtP Q l1 l2).users, .slice o1 n1 c1, .slice o2 n2 c2, .slice o3 n3 c3] 26)) := (Below.refl _ _).alloc (Nat.le_refl _) _
    have h5 : Below W.heap.size W (w'.alloc (.cells #[.int .i64 (wtP Q l1 l2).users, .slice o1 n1 c1, .slice o2 n2 c2, .slice o3 n3 c3] 26)) := h2.out.trans (hA.mono hs)
    refine ⟨W.heap.size, (hz.z.drop.free h5).less fun g e => ?_, hz.q.of (h5.block gx hz.q.lt), QAt.block (heap_new w' _), fun _ => FvB.mv h4.out fun g hg _ _ _ _ _ _ _ _ => hA.block g hg⟩
    rcases e with e | e | e
    · exact .inl (.inl e)
    · exact .inr ⟨by omega, by subst e; simp⟩
    · exact .inr e
theorem spR_ok (hk : Pok Q) (L1 L2 : List Int) : (wtP Q L1 L2).fixed.length ≤ 1000 ∧ (wtP Q L1 L2).who.length ≤ 1000 ∧ (wtP Q L1 L2).rules.length ≤ 1000 ∧ ∀ r ∈ (wtP Q L1 L2).rules, r.steps.length ≤ 1000 := by
  have h : Pok (wtP Q L1 L2) := by
    unfold wtP
    split
    · rename_i h
      have hC : chkN Q = 0 := by
        unfold wtN at h
        by_cases e : chkN Q = 0
        · exact e
        · rw [if_neg e] at h; exact h
      exact spP_ok hk (chkN_zero hC).2.2.1 _ _
    · exact ⟨by decide, by decide, by decide, (fun r hr => by cases hr), (fun z hz => by cases hz)⟩
  exact ⟨h.f, h.w, h.r, h.s⟩
end
end Go.Proofs.YtlijlelejobchaaGreatDoor.S
namespace Go.Proofs.YtlijlelejobchaaGreatDoor.S
open Go.RowKit Go.Shelf
theorem coZ {V0 : World} {Q : Pb} {qw qf qr vr vs : Value} {Lr Ls : List Int} {g B p gx M : Nat} {vw vf vz : Value} {PP : List (Rl × Value)} (hS : Sc V0 Q qw qf qr g vr vs Lr Ls) (hk : Pok Q) (hPP : PP.map Prod.fst = Q.rules) (hM : M ≤ 80000) :
    ∃ Z : List (Value × List Int) → Option Nat → World → Prop,
      Hid (∀ E go V, Z E go V → Calls Tryz.prog 22 #[vr] V fun e w' => ∃ r, e = .returned r ∧ Hid (RowI w' r (Lr.take 30)) ∧ Hid (Z E go w')) ∧
      Hid (∀ E go V, Z E go V → Calls Tryz.prog 22 #[vs] V fun e w' => ∃ r, e = .returned r ∧ Hid (RowI w' r (Ls.take 30)) ∧ Hid (Z E go w')) ∧
      Hid (∀ go r V, Z [] go V → RowI V r (Lr.take 30) → Calls Tryz.prog 9 #[.pointer (some ⟨p, 0, none⟩), r] V fun e w' => ∃ g cap, e = .returned (.slice (some ⟨g, 0, none⟩) (Lr.take 30).length cap) ∧ Hid (Z [(.slice (some ⟨g, 0, none⟩) (Lr.take 30).length cap, Lr.take 30)] go w')) ∧
      Hid (∀ A1 go r V, Z [(A1, Lr.take 30)] go V → RowI V r (Ls.take 30) → Calls Tryz.prog 9 #[.pointer (some ⟨p, 0, none⟩), r] V fun e w' => ∃ g cap, e = .returned (.slice (some ⟨g, 0, none⟩) (Ls.take 30).length cap) ∧ Hid (Z [(.slice (some ⟨g, 0, none⟩) (Ls.take 30).length cap, Ls.take 30), (A1, Lr.take 30)] go w')) ∧
      Hid (∀ A1 A2 go V, Z [(A2, Ls.take 30), (A1, Lr.take 30)] go V → Calls Tryz.prog 21 #[.agg #[.int .i64 Q.users, vw, vf, vz], A1, A2] V fun e w' => ∃ oa ca ob cb oc cc nn, e = .returned (.tuple #[.agg #[.int .i64 (wtP Q (Lr.take 30) (Ls.take 30)).users, .slice oa (wtP Q (Lr.take 30) (Ls.take 30)).who.length ca, .slice ob (wtP Q (Lr.take 30) (Ls.take 30)).fixed.length cb, .slice oc (wtP Q (Lr.take 30) (Ls.take 30)).rules.length cc], .int .i64 nn]) ∧ Hid (QAt w' gx Q.users vw vf vz) ∧ Hid (∀ gy, go = some gy → Hid (QAt w' gy 0 (.slice none 0 0) (.slice none 0 0) (.slice none 0 0)) ∧ Hid (Yz V0 (Rc V0) B p (M + 1 + 1) vw vf vz Q.who Q.fixed PP gx gy Q.users vw vf vz (wtP Q (Lr.take 30) (Ls.take 30)) 0 (.slice oa (wtP Q (Lr.take 30) (Ls.take 30)).who.length ca) (.slice ob (wtP Q (Lr.take 30) (Ls.take 30)).fixed.length cb) (.slice oc (wtP Q (Lr.take 30) (Ls.take 30)).rules.length cc) ((((w'.setCell ⟨gy, 0, none⟩ (.int .i64 (wtP Q (Lr.take 30) (Ls.take 30)).users)).setCell ⟨gy, 1, none⟩ (.slice oa (wtP Q (Lr.take 30) (Ls.take 30)).who.length ca)).setCell ⟨gy, 2, none⟩ (.slice ob (wtP Q (Lr.take 30) (Ls.take 30)).fixed.length cb)).setCell ⟨gy, 3, none⟩ (.slice oc (wtP Q (Lr.take 30) (Ls.take 30)).rules.length cc)))) ∧ Hid (Yz V0 (Rc V0) B p (M + 1 + 1) vw vf vz Q.who Q.fixed PP gx w'.heap.size Q.users vw vf vz (wtP Q (Lr.take 30) (Ls.take 30)) 0 (.slice oa (wtP Q (Lr.take 30) (Ls.take 30)).who.length ca) (.slice ob (wtP Q (Lr.take 30) (Ls.take 30)).fixed.length cb) (.slice oc (wtP Q (Lr.take 30) (Ls.take 30)).rules.length cc) (w'.alloc (.cells #[.int .i64 (wtP Q (Lr.take 30) (Ls.take 30)).users, .slice oa (wtP Q (Lr.take 30) (Ls.take 30)).who.length ca, .slice ob (wtP Q (Lr.take 30) (Ls.take 30)).fixed.length cb, .slice oc (wtP Q (Lr.take 30) (Ls.take 30)).rules.length cc] 26)))) ∧
      Hid (∀ E V, Z E none V → Z E (some V.heap.size) (V.alloc (.cells #[.int .i64 0, .slice none 0 0, .slice none 0 0, .slice none 0 0] 26))) ∧
      Hid (∀ E go V, Z E go V → V.cell? ⟨gx, 0, none⟩ = some (.int .i64 Q.users) ∧ V.cell? ⟨gx, 1, none⟩ = some vw ∧ V.cell? ⟨gx, 2, none⟩ = some vf ∧ V.cell? ⟨gx, 3, none⟩ = some vz) ∧
      Hid (∀ gy Y va vb vc V, Yz V0 (Rc V0) B p (M + 1 + 1) vw vf vz Q.who Q.fixed PP gx gy Q.users vw vf vz Y 0 va vb vc V → V.cell? ⟨gx, 0, none⟩ = some (.int .i64 Q.users) ∧ V.cell? ⟨gx, 1, none⟩ = some vw ∧ V.cell? ⟨gx, 2, none⟩ = some vf ∧ V.cell? ⟨gx, 3, none⟩ = some vz) ∧
      Hid (∀ V, Zy V0 (Rc V0) B p M vw vf vz Q.who Q.fixed PP [] [] gx Q.users vw vf vz none V → Z [] none V) := by
  refine ⟨fun E go V => Zy V0 (Rc V0) B p (M + E.length) vw vf vz Q.who Q.fixed PP E [] gx Q.users vw vf vz go V, fun E go V h => ?_, fun E go V h => ?_, fun go r V h hr => ?_, fun A1 go r V h hr => ?_, fun A1 A2 go V h => ?_, fun E V h => h.box, fun E go V h => ⟨h.q.c0, h.q.c1, h.q.c2, h.q.c3⟩, fun gy Y va vb vc V h => ⟨h.x.q.c0, h.x.q.c1, h.x.q.c2, h.x.q.c3⟩, fun V h => h⟩
  · exact (rowFC Lr vr _ (hS.at h.z).2.2.2.1).mono fun e w' ⟨r, e1, h1, hb⟩ => ⟨r, e1, h1, h.below hb⟩
  · exact (rowFC Ls vs _ (hS.at h.z).2.2.2.2).mono fun e w' ⟨r, e1, h1, hb⟩ => ⟨r, e1, h1, h.below hb⟩
  · exact zyInts h (by show M + 0 ≤ _; omega) r _ hr (by rw [List.length_take]; omega)
  · exact zyInts h (by show M + 1 ≤ _; omega) r _ hr (by rw [List.length_take]; omega)
  · refine (zyWo h hPP hk ⟨by rw [List.length_take]; omega, by rw [List.length_take]; omega⟩).mono ?_
    rintro e w' ⟨va, vb, vc, ⟨oa, ca, ob, cb, oc, cc, rfl, rfl, rfl⟩, rfl, h1, h2, h3⟩
    exact ⟨oa, ca, ob, cb, oc, cc, _, rfl, h1, fun gy e => ⟨(h2.out gy e).1, (h2.out gy e).2⟩, h3⟩
end Go.Proofs.YtlijlelejobchaaGreatDoor.S
namespace Go.Proofs.YtlijlelejobchaaGreatDoor.S
open Go.RowKit Go.Shelf
def wcR : Rl := ⟨1, 0, [0, 1]⟩
def wcP : Pb := ⟨2, [1, 1], [-1, -1], [wcR]⟩
theorem wc_chk : chkN wcP = 0 := by decide +kernel
theorem wc_ok : Pok wcP := ⟨by decide, by decide, by decide, by decide, by decide⟩
theorem wc_user {t : Nat} {x : Int} (h : okU wcP t x = true) : x = 0 ∨ x = 1 := by
  unfold okU isU at h
  simp only [Bool.and_eq_true, decide_eq_true_eq] at h
  have h1 : x < 2 := h.1.2
  omega
theorem wc_can : canB wcP = false := by
  cases q : canB wcP with
  | false => rfl
  | true =>
    obtain ⟨l, hl⟩ := (canB_iff _).1 q
    exfalso
    obtain ⟨_, h2, h3, _⟩ := holP_of hl
    have h2 : l.length = 2 := h2
    match l, h2, hl, h3 with
    | [a, b], _, hl, h3 =>
      rcases wc_user (h3 0 a rfl) with rfl | rfl <;> rcases wc_user (h3 1 b rfl) with rfl | rfl <;> (revert hl; decide +kernel)
theorem wc_no {fr fs : Nat → Bool} (L : List Int) (h : holP (spP wcP fr fs) L = true) : stk wcP fr fs = false := by
  unfold stk
  rw [(canB_iff _).2 ⟨L, h⟩]
  rfl
theorem wc_a : whyA wcP = [0] := by
  have h : stF1 wcP (sprd [] (0 + 1)) = false := wc_no [0, 0] (by decide +kernel)
  show (if stF1 wcP (sprd [] (0 + 1)) = true then [] else [] ++ [0]) = [0]
  rw [if_neg (by rw [h]; decide)]
  rfl
theorem wc_b : whyB wcP = [0, 1] := by
  unfold whyB
  rw [wc_a]
  have h1 : stF2 wcP [0] (sprd [] (0 + 1)) = false := wc_no [1, 0] (by decide +kernel)
  have h2 : stF2 wcP [0] (sprd [0] (0 + 1 + 1)) = false := wc_no [0, 1] (by decide +kernel)
  show (if stF2 wcP [0] (sprd (if stF2 wcP [0] (sprd [] (0 + 1)) = true then [] else [] ++ [0]) (0 + 1 + 1)) = true then (if stF2 wcP [0] (sprd [] (0 + 1)) = true then [] else [] ++ [0]) else (if stF2 wcP [0] (sprd [] (0 + 1)) = true then [] else [] ++ [0]) ++ [0 + 1]) = [0, 1]
  rw [h1]
  simp only [Bool.false_eq_true, if_false, List.nil_append]
  rw [h2]
  rfl
/-- The problem of the runs, as it is written down. -/
theorem wc_mem (V : World) : ∃ W, W = ((((V.alloc (.cells #[.int .u64 1, .int .u64 1] 55)).alloc (.cells #[.int .i64 (-1), .int .i64 (-1)] 3)).alloc (.cells #[.int .i64 0, .int .i64 1] 3)).alloc (.cells #[.int .i64 1, .int .i64 0, .slice (some ⟨V.heap.size + 1 + 1, 0, none⟩) 2 2] 44)).alloc (.cells #[.int .i64 2, .slice (some ⟨V.heap.size, 0, none⟩) 2 2, .slice (some ⟨V.heap.size + 1, 0, none⟩) 2 2, .slice (some ⟨V.heap.size + 1 + 1 + 1, 0, none⟩) 1 1] 26) ∧
    PbV W wcP (.slice (some ⟨V.heap.size, 0, none⟩) 2 2) (.slice (some ⟨V.heap.size + 1, 0, none⟩) 2 2) (.slice (some ⟨V.heap.size + 1 + 1 + 1, 0, none⟩) 1 1) ∧ PbB W (V.heap.size + 1 + 1 + 1 + 1) wcP (.slice (some ⟨V.heap.size, 0, none⟩) 2 2) (.slice (some ⟨V.heap.size + 1, 0, none⟩) 2 2) (.slice (some ⟨V.heap.size + 1 + 1 + 1, 0, none⟩) 1 1) ∧ Below V.heap.size V W := by
  obtain ⟨z1, n1, k1, b1⟩ := alloc_stH V (.cells #[.int .u64 1, .int .u64 1] 55) _ rfl
  obtain ⟨z2, n2, k2, b2⟩ := alloc_stH _ (.cells #[.int .i64 (-1), .int .i64 (-1)] 3) _ z1
  obtain ⟨z3, n3, k3, b3⟩ := alloc_stH _ (.cells #[.int .i64 0, .int .i64 1] 3) _ z2
  obtain ⟨z4, n4, k4, b4⟩ := alloc_stH _ (.cells #[.int .i64 1, .int .i64 0, .slice (some ⟨V.heap.size + 1 + 1, 0, none⟩) 2 2] 44) _ z3
  obtain ⟨z5, n5, k5, b5⟩ := alloc_stH _ (.cells #[.int .i64 2, .slice (some ⟨V.heap.size, 0, none⟩) 2 2, .slice (some ⟨V.heap.size + 1, 0, none⟩) 2 2, .slice (some ⟨V.heap.size + 1 + 1 + 1, 0, none⟩) 1 1] 26) _ z4
  refine ⟨_, rfl, ?_, n5, (((b1.trans (b2.mono (by omega))).trans (b3.mono (by omega))).trans (b4.mono (by omega))).trans (b5.mono (by omega))⟩
  have m1 := k5 _ _ (k4 _ _ (k3 _ _ (k2 _ _ n1)))
  have m2 := k5 _ _ (k4 _ _ (k3 _ _ n2))
  have m3 := k5 _ _ (k4 _ _ n3)
  have m4 := k5 _ _ n4
  generalize ((((V.alloc (.cells #[.int .u64 1, .int .u64 1] 55)).alloc (.cells #[.int .i64 (-1), .int .i64 (-1)] 3)).alloc (.cells #[.int .i64 0, .int .i64 1] 3)).alloc (.cells #[.int .i64 1, .int .i64 0, .slice (some ⟨V.heap.size + 1 + 1, 0, none⟩) 2 2] 44)).alloc (.cells #[.int .i64 2, .slice (some ⟨V.heap.size, 0, none⟩) 2 2, .slice (some ⟨V.heap.size + 1, 0, none⟩) 2 2, .slice (some ⟨V.heap.size + 1 + 1 + 1, 0, none⟩) 1 1] 26) = W at *
  refine ⟨⟨_, _, rfl, ⟨Nat.le_refl _, fun e => by cases e⟩, fun i z hz => ⟨_, _, rfl, ?_⟩⟩, ⟨_, _, rfl, ⟨Nat.le_refl _, fun e => by cases e⟩, fun i z hz => ⟨_, _, rfl, ?_⟩⟩, ⟨_, _, rfl, ⟨Nat.le_refl _, fun e => by cases e⟩, fun i r hr => ?_⟩⟩
  · match i, hz with
    | 0, hz => cases hz; simp [World.cell?, m1]
    | 1, hz => cases hz; simp [World.cell?, m1]
    | i + 2, hz => simp [wcP] at hz
  · match i, hz with
    | 0, hz => cases hz; simp [World.cell?, m2]
    | 1, hz => cases hz; simp [World.cell?, m2]
    | i + 2, hz => simp [wcP] at hz
  · match i, hr with
    | 0, hr =>
      cases hr
      refine ⟨_, _, .slice (some ⟨V.heap.size + 1 + 1, 0, none⟩) 2 2, rfl, by simp [World.cell?, m4, wcR], by simp [World.cell?, m4, wcR], by simp [World.cell?, m4], ⟨_, _, rfl, ⟨Nat.le_refl _, fun e => by cases e⟩, fun j z hz => ⟨_, _, rfl, ?_⟩⟩⟩
      match j, hz with
      | 0, hz => cases hz; simp [World.cell?, m3]
      | 1, hz => cases hz; simp [World.cell?, m3]
      | j + 2, hz => simp [wcR] at hz
    | i + 1, hr => simp [wcP] at hr
theorem row_1C (V : World) : RowI (V.alloc (.cells #[.int .i64 0] 3)) (.slice (some ⟨V.heap.size, 0, none⟩) 1 1) [0] := by
  have n3 := heap_new V (.cells #[.int .i64 0] 3)
  generalize V.alloc (.cells #[.int .i64 0] 3) = W at *
  refine ⟨_, _, rfl, ⟨Nat.le_refl _, fun e => by cases e⟩, fun i z hz => ⟨_, _, rfl, ?_⟩⟩
  match i, hz with
  | 0, hz => cases hz; simp [World.cell?, n3]
  | i + 1, hz => simp at hz
theorem row_2C (V : World) : RowI (V.alloc (.cells #[.int .i64 0, .int .i64 1] 3)) (.slice (some ⟨V.heap.size, 0, none⟩) 2 2) [0, 1] := by
  have n3 := heap_new V (.cells #[.int .i64 0, .int .i64 1] 3)
  generalize V.alloc (.cells #[.int .i64 0, .int .i64 1] 3) = W at *
  refine ⟨_, _, rfl, ⟨Nat.le_refl _, fun e => by cases e⟩, fun i z hz => ⟨_, _, rfl, ?_⟩⟩
  match i, hz with
  | 0, hz => cases hz; simp [World.cell?, n3]
  | 1, hz => cases hz; simp [World.cell?, n3]
  | i + 2, hz => simp at hz
set_option maxRecDepth 100000 in
set_option maxHeartbeats 4000000 in
theorem wakesCF (w : World) (ht : M.Tab w) : Calls Tryz.prog 23 #[] w fun e w' => e = .returned (.bool true) ∧ Below w.heap.size w w' := by
  obtain ⟨W, hW, hP, hB, hbW⟩ := wc_mem w
  have hW' := hide' hW
  have KW := hide' (whyF wcP _ _ _ W hP wc_ok (ht.over hbW) (fun ad n c e => by cases e; show w.heap.size < W.heap.size; have := (Array.getElem?_eq_some_iff.1 hB).1; omega))
  unfold pbV WhP at KW
  have q0 := hB.c0
  have q1 := hB.c1
  have q2 := hB.c2
  have q3 := hB.c3
  have hbW' := hide' hbW
  clear hP hB hbW hW ht
  have hU : wcP.users = 2 := rfl
  rw [hU] at q0 KW
  have KI : Hid (∀ V a b c, RowI V a b → RowI V c b → b.length ≤ 10 → Calls Tryz.prog 24 #[a, c] V fun e w' => e = .returned (.bool true) ∧ Below V.heap.size V w') := fun V a b c h1 h2 hl => by
    have := K.keepInts b b a c V h1 h2 (by omega) (by omega)
    rw [decide_eq_true rfl] at this
    exact this
  go_enter Tryz.func23, Tryz.ntmps23
  go_upto_region 2 with fail
  rw [← hW'.out]
  clear hW'
  go_wp2_with fail
  refine KW.out.mono ?_
  rintro e w1 ⟨o1, k1, o2, k2, A, B, s, rfl, hA, hBr, hb1, hS⟩
  obtain ⟨rfl, rfl, rfl⟩ := hS.out.y wc_chk wc_can
  have hb01 := hide' (hbW'.out.trans (hb1.out.mono hbW'.out.size))
  rw [wc_a, wc_b] at *
  clear hS KW q0 q1 q2 q3 hb1 hbW'
  have r1 := hide' (row_1C w1)
  have bA : Hid (Below w1.heap.size w1 (w1.alloc (.cells #[.int .i64 0] 3))) := (Below.refl _ w1).alloc (Nat.le_refl _) _
  go_wp2_with fail
  refine (KI.out _ _ [0] _ (hA.out.below bA.out (Nat.le_refl _)) r1.out (by decide)).mono ?_
  rintro e w2 ⟨rfl, hb2⟩
  have r2 := hide' (row_2C w2)
  have bB : Hid (Below w1.heap.size w1 w2) := bA.out.trans (hb2.mono bA.out.size)
  have bC : Hid (Below w2.heap.size w2 (w2.alloc (.cells #[.int .i64 0, .int .i64 1] 3))) := (Below.refl _ w2).alloc (Nat.le_refl _) _
  have hb02 := hide' (hb01.out.trans (bB.out.mono hb01.out.size))
  have hB2 := hide' (hBr.out.below (bB.out.trans (bC.out.mono bB.out.size)) (Nat.le_refl _))
  clear r1 bA hb2 hA hBr
  go_wp2_with fail
  refine (KI.out _ _ [0, 1] _ hB2.out r2.out (by decide)).mono ?_
  rintro e w3 ⟨rfl, hb3⟩
  have hb03 := hide' ((hb02.out.trans (bC.out.mono hb02.out.size)).trans (hb3.mono (Nat.le_trans hb02.out.size bC.out.size)))
  clear r2 bC hb3 hB2
  go_wp2
  go_ret
  exact ⟨rfl, hb03.out⟩
end Go.Proofs.YtlijlelejobchaaGreatDoor.S
