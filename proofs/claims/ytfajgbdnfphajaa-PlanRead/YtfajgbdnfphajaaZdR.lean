/- rule: a rule read. -/
import Derived.Test.YtfajgbdnfphajaaZdT
namespace Go.Proofs.Ytfajgbdnfphajaa.S
open Go.RowKit Go.Shelf
/-- An int laid behind a row, in a region whose order is open. -/
theorem app_oneR {o : Oper} {a : Act} {K : Act → World → Prop} {Q : Exit → Act → World → Prop} (s x : Operand) (B : Nat) (W : World) (v : Value) (L : List Int) (z : Int) (ho : o.op = .call { callee := .builtin .append, args := #[s, x], argTypes := #[24, 24] })
    (es : a.eval s = v) (ex : a.eval x = .slice (some ⟨W.heap.size, 0, none⟩) 1 1) (hT : W.ownsRow B 3 1 v L.length (cellsI L)) (hB : B ≤ W.heap.size) (hn : L.length ≤ 1000000)
    (hK : ∀ v2 w2, w2.ownsRow B 3 1 v2 (L ++ [z]).length (cellsI (L ++ [z])) → Below B W w2 → K (a.put o.dst v2) w2) : o.wp Try.prog a (W.alloc (.cells #[.int .i64 z] 3)) K Q := by
  obtain ⟨i0, hi, hz0, hz1, hz2⟩ := info_parts info3
  refine wp_append_own _ s x 24 ho B 3 i0 (.int .i64 0) 1 8 Try.underlying24 hi hz0 hz1 hz2 rfl (by decide) v L.length (cellsI L) es (hT.alloc _) ⟨W.heap.size, 0, none⟩ 1 1 [.int .i64 z] ex rfl (World.news_of_block (cs := #[.int .i64 z]) (heap_new _ _)) (by simp [Value.oneCell']) (by unfold maxLen; omega) (by omega) (by simp; omega) ?_
  intro v2 w2 hown hgrow _
  refine hK v2 w2 ?_ (((Below.refl B W).alloc hB _).grown hgrow (by simp; omega) (fun j ej => own_ge' hT ej))
  have e : cellsI (L ++ [z]) = cellsI L ++ [.int .i64 z] := by simp [cellsI]
  rw [e, List.length_append]
  exact hown
def ruV (k1 k2 : Int) (u : Value) : Nat → Value := fun i => if i = 0 then .int .i64 k1 else if i = 1 then .int .i64 k2 else u
theorem FrG.low {g n : Nat} {W0 W W' : World} (h : FrG g W0 W) (hb : Below n W W') (hn : W0.heap.size ≤ n) : FrG g W0 W' :=
  ⟨hb.os.trans h.os, hb.tape.trans h.tape, hb.output.trans h.output, Nat.le_trans h.size hb.size, fun k hk hne => (hb.block k (by omega)).trans (h.block k hk hne)⟩
/-- What stands while a rule is read. -/
structure Ru (w : World) (B gr gx : Nat) (k1 k2 : Int) (W : World) (v : Value) (t : RdS) (u sv : Value) (l : List Int) : Prop where
  rd : Rd B W gr v t
  fr : FrG gr w W
  res : W.rowIs w.heap.size 62 3 (ruV 0 0 (.slice none 0 0))
  bx : W.rowIs gx 62 3 (ruV k1 k2 u)
  own : W.ownsRow (gx + 1) 3 1 sv l.length (cellsI l)
  lt : w.heap.size < gx
  gl : B ≤ w.heap.size
section
variable {w : World} {B gr gx : Nat} {k1 k2 : Int} {W W' : World} {v v' : Value} {t t' : RdS} {u sv sv' : Value} {l l' : List Int}
theorem Ru.tk (h : Ru w B gr gx k1 k2 W v t u sv l) (hr : Rd B W' gr v' t') (hf : FrG gr W W') : Ru w B gr gx k1 k2 W' v' t' u sv l := by
  have hgr := h.rd.lowr
  have hgl := h.gl
  have hlt := h.lt
  refine ⟨hr, h.fr.trans hf, World.rowIs.of_block h.res (hf.block _ (World.rowIs.lt h.res) (by omega)), World.rowIs.of_block h.bx (hf.block _ (World.rowIs.lt h.bx) (by omega)), ?_, h.lt, h.gl⟩
  exact own_same h.own fun g hg e => hf.block g hg (by have := own_ge' h.own e; omega)
theorem Ru.sz (h : Ru w B gr gx k1 k2 W v t u sv l) : gx + 1 ≤ W.heap.size := World.rowIs.lt h.bx
theorem Ru.app (h : Ru w B gr gx k1 k2 W v t u sv l) (ho : W'.ownsRow (gx + 1) 3 1 sv' l'.length (cellsI l')) (hb : Below (gx + 1) W W') : Ru w B gr gx k1 k2 W' v t u sv' l' := by
  have hgl := h.gl
  have hlt := h.lt
  exact ⟨h.rd.over (hb.mono (by omega)), h.fr.low hb (by omega), World.rowIs.of_block h.res (hb.block _ (by omega)), World.rowIs.of_block h.bx (hb.block _ (Nat.lt_succ_self _)), ho, h.lt, h.gl⟩
theorem Ru.over (h : Ru w B gr gx k1 k2 W v t u sv l) (hb : Below W.heap.size W W') : Ru w B gr gx k1 k2 W' v t u sv l :=
  h.app (own_lowB h.own hb) (hb.mono h.sz)
theorem Ru.shp (h : Ru w B gr gx k1 k2 W v t u sv l) : ∃ oa n cap, sv = .slice oa n cap := by obtain ⟨a, c, e⟩ := own_shp h.own; exact ⟨a, _, c, e⟩
theorem Ru.b2 (h : Ru w B gr gx k1 k2 W v t u sv l) : W.cell? ⟨gx, 2, none⟩ = some u := World.rowIs.cell h.bx (i := 2) (by decide)
theorem Ru.put (h : Ru w B gr gx k1 k2 W v t u sv l) : Ru w B gr gx k1 k2 (W.setCell ⟨gx, 2, none⟩ sv) v t sv sv l := by
  have hgl := h.gl
  have hlt := h.lt
  have hb : Below gx W (W.setCell ⟨gx, 2, none⟩ sv) := (Below.refl _ W).setCell (p := ⟨gx, 2, none⟩) (Nat.le_refl _) _
  refine ⟨h.rd.over (hb.mono (by omega)), h.fr.low hb (by omega), World.rowIs.of_block h.res (hb.block _ hlt), ?_, ?_, h.lt, h.gl⟩
  · exact World.rowIs.congr (World.rowIs.set h.bx 2 _) fun i hi => by
      match i, hi with
      | 0, _ => rfl
      | 1, _ => rfl
      | 2, _ => rfl
  · exact own_same h.own fun g hg e => Below.heap_setCell _ _ _ _ (by have := own_ge' h.own e; show g ≠ gx; omega)
theorem Ru.fin (h : Ru w B gr gx k1 k2 W v t u sv l) (hBr : B ≤ w.heap.size) (x0 x1 x2 : Value) :
    let W' := ((W.setCell ⟨w.heap.size, 0, none⟩ x0).setCell ⟨w.heap.size, 1, none⟩ x1).setCell ⟨w.heap.size, 2, none⟩ x2
    Rd B W' gr v t ∧ FrG gr w W' ∧ W'.ownsRow w.heap.size 3 1 sv l.length (cellsI l) := by
  intro W'
  have hlt := h.lt
  have hb : Below w.heap.size W W' := (((Below.refl _ W).setCell (p := ⟨w.heap.size, 0, none⟩) (Nat.le_refl _) x0).setCell (p := ⟨w.heap.size, 1, none⟩) (Nat.le_refl _) x1).setCell (p := ⟨w.heap.size, 2, none⟩) (Nat.le_refl _) x2
  refine ⟨h.rd.over (hb.mono hBr), h.fr.low hb (Nat.le_refl _), owns_lowS (B := gx + 1) (own_same h.own fun g hg e => ?_) (by omega)⟩
  have hne : g ≠ w.heap.size := by have := own_ge' h.own e; omega
  show (((W.setCell ⟨w.heap.size, 0, none⟩ x0).setCell ⟨w.heap.size, 1, none⟩ x1).setCell ⟨w.heap.size, 2, none⟩ x2).heap[g]? = _
  rw [Below.heap_setCell _ _ _ _ hne, Below.heap_setCell _ _ _ _ hne, Below.heap_setCell _ _ _ _ hne]
end
/-- What rule leaves. -/
def RlP (B : Nat) (w : World) (gr : Nat) (s : RdS) (e : Ending) (w' : World) : Prop :=
  ∃ sv v', e = .returned (rv (rdR s) sv) ∧ Hid (w'.ownsRow w.heap.size 3 1 sv (rdR s).steps.length (cellsI (rdR s).steps)) ∧ Hid (Rd B w' gr v' (rdRS s)) ∧ Hid (FrG gr w w')
set_option maxRecDepth 100000 in
set_option maxHeartbeats 4000000 in
theorem ruleF (B gr : Nat) (v : Value) (s : RdS) (w : World) (h : Rd B w gr v s) (hB : B ≤ w.heap.size) (hl : s.1.length ≤ 100000) :
    Calls Try.prog 31 #[.pointer (some ⟨gr, 0, none⟩)] w (RlP B w gr s) := by
  have hb0 : Below w.heap.size w (w.alloc (.cells #[.int .i64 0, .int .i64 0, .slice none 0 0] 62)) := (Below.refl _ w).alloc (Nat.le_refl _) _
  have h0 := hide' (h.over (hb0.mono hB))
  have hn0 : Hid ((w.alloc (.cells #[.int .i64 0, .int .i64 0, .slice none 0 0] 62)).rowIs w.heap.size 62 3 (ruV 0 0 (.slice none 0 0))) := World.rowIs_alloc w #[.int .i64 0, .int .i64 0, .slice none 0 0] _ _ fun i hi => by
    have hi : i < 3 := hi
    rcases (show i = 0 ∨ i = 1 ∨ i = 2 by omega) with rfl | rfl | rfl <;> rfl
  have hb0' := hide' hb0
  have hgr := hide' h.lowr
  have hl1 := hide' (tkS_len 1 s)
  have hl2 := hide' (tkS_len 4 (tkS 1 s))
  have hl3 := hide' (tkS_len 1 (tkS 4 (tkS 1 s)))
  have hbt : Hid (∀ b ∈ s.1, b < 256) := h.byte
  clear h hb0
  go_enter Try.func31, Try.ntmps31
  go_wp2_with fail
  refine (smallF B gr v s _ h0.out hl).mono ?_
  rintro e w1 ⟨rfl, v1, hR1, hf1⟩
  clear h0
  go_wp2_with fail
  refine (takeF B gr 4 4 rfl v1 (tkS 1 s) w1 hR1.out (by decide) (by decide) (by have := hl1.out; omega)).mono ?_
  rintro e w2 ⟨rfl, v2, hR2, hf2⟩
  have hk2 : tkN 4 (tkS 1 s) < 4294967296 := tkN_lt (wd := 4) (tkS_mem hbt.out)
  have hk1 : tkN 1 s < 256 := tkN_lt (wd := 1) hbt.out
  have hn : tkN 1 (tkS 4 (tkS 1 s)) < 256 := tkN_lt (wd := 1) (tkS_mem (tkS_mem hbt.out))
  have hFin : Hid (rdR s = ⟨(tkN 1 s : Int), (tkN 4 (tkS 1 s) : Int), rsL (tkN 1 (tkS 4 (tkS 1 s))) (tkS 1 (tkS 4 (tkS 1 s)))⟩) := rfl
  have hFinS : Hid (rdRS s = rsS (tkN 1 (tkS 4 (tkS 1 s))) (tkS 1 (tkS 4 (tkS 1 s)))) := rfl
  have hz1 := hf1.out.size
  have hz2 := hf2.out.size
  have hz0 := hb0'.out.size
  have hn2 : Hid (w2.rowIs w.heap.size 62 3 (ruV 0 0 (.slice none 0 0))) := by
    have e0 := World.rowIs.lt hn0.out
    have hg := hgr.out
    exact World.rowIs.of_block (World.rowIs.of_block hn0.out (hf1.out.block _ e0 (by omega))) (hf2.out.block _ (by omega) (by omega))
  have hlt2 : Hid (w.heap.size < w2.heap.size) := World.rowIs.lt hn2.out
  have hfw : Hid (FrG gr w w2) := (FrG.below hb0'.out).trans (hf1.out.trans hf2.out)
  have hlb2 : (tkS 4 (tkS 1 s)).1.length ≤ 100000 := by have := hl1.out; have := hl2.out; omega
  have hlb3 : Hid (∀ j, (rsS j (tkS 1 (tkS 4 (tkS 1 s)))).1.length ≤ 100000) := fun j => by have := rsS_len j (tkS 1 (tkS 4 (tkS 1 s))); have := hl3.out; omega
  generalize tkN 4 (tkS 1 s) = k2 at *
  generalize tkN 1 s = k1 at *
  generalize tkS 4 (tkS 1 s) = t2 at *
  have hb3 : Hid (Below w2.heap.size w2 (w2.alloc (.cells #[.int .i64 (k1 : Int), .int .i64 (k2 : Int), .slice none 0 0] 62))) := (Below.refl _ w2).alloc (Nat.le_refl _) _
  have hx3 : Hid ((w2.alloc (.cells #[.int .i64 (k1 : Int), .int .i64 (k2 : Int), .slice none 0 0] 62)).rowIs w2.heap.size 62 3 (ruV (k1 : Int) (k2 : Int) (.slice none 0 0))) := World.rowIs_alloc w2 #[.int .i64 (k1 : Int), .int .i64 (k2 : Int), .slice none 0 0] _ _ fun i hi => by
    have hi : i < 3 := hi
    rcases (show i = 0 ∨ i = 1 ∨ i = 2 by omega) with rfl | rfl | rfl <;> rfl
  have hR3 := hide' (hR2.out.over (hb3.out.mono (by omega)))
  clear hR1 hR2 hf1 hf2 hn0 hb0' hl1 hl2 hl3 hbt
  go_wp2_with fail
  refine (smallF B gr v2 t2 _ hR3.out hlb2).mono ?_
  rintro e w4 ⟨rfl, v4, hR4, hf4⟩
  have hU : Hid (Ru w B gr w2.heap.size (k1 : Int) (k2 : Int) w4 v4 (rsS 0 (tkS 1 t2)) (.slice none 0 0) (.slice none 0 0) (rsL 0 (tkS 1 t2))) := by
    have hg := hgr.out
    have e1 := hlt2.out
    refine ⟨hR4.out, (hfw.out.low hb3.out (by omega)).trans hf4.out, World.rowIs.of_block (World.rowIs.of_block hn2.out (hb3.out.block _ hlt2.out)) (hf4.out.block _ (by have := hb3.out.size; omega) (by omega)), World.rowIs.of_block hx3.out (hf4.out.block _ (World.rowIs.lt hx3.out) (by omega)), World.ownsRow_nil _ _ _ _, hlt2.out, hB⟩
  generalize w2.heap.size = gx at *
  clear hR3 hR4 hf4 hb3 hx3 hfw hn2 hlt2 hgr hz1 hz2 hz0
  generalize tkN 1 t2 = n at *
  generalize tkS 1 t2 = t3 at *
  go_wp2
  go_loopw [12] (fun p wr => ∃ (j : Nat) (v : Value) (sv : Value), j ≤ n ∧ p = .int .i64 (j : Int) ∧ Hid (Ru w B gr gx (k1 : Int) (k2 : Int) wr v (rsS j t3) sv sv (rsL j t3))) (fun p _ => ((n : Int) - intOf p).toNat)
  case atStart => exact ⟨0, v4, _, Nat.zero_le _, rfl, hU⟩
  case round =>
    clear hU
    obtain ⟨j, v, sv, hj, rfl, hU⟩ := hrel
    by_cases hlt : j < n
    · as_aux_lemma =>
      have hlt' : (j : Int) < (n : Int) := by omega
      have c2 : wr.cell? ⟨gx, 2, none⟩ = some sv := World.rowIs.cell hU.out.bx (i := 2) (by decide)
      obtain ⟨os, ns, cs, rfl⟩ : ∃ a b c, sv = .slice a b c := by obtain ⟨a, c, e⟩ := own_shp hU.out.own; exact ⟨a, _, c, e⟩
      have hlj := hlb3.out j
      have hE : Hid (rsL (j + 1) t3 = rsL j t3 ++ [(tkN 1 (rsS j t3) : Int)]) := rfl
      have hE2 : Hid (rsS (j + 1) t3 = tkS 1 (rsS j t3)) := rfl
      have hlL : (rsL j t3).length ≤ 1000000 := by rw [rsL_len]; omega
      have hUd := hide' (hU.out.over (Below.refl _ wr).drew)
      generalize rsL j t3 = lj at *
      generalize rsS j t3 = tj at *
      clear hlb3 hFin hFinS hU c2
      have KS : Hid (Calls Try.prog 30 #[.pointer (some ⟨gr, 0, none⟩)] wr.drew fun e w' => e = .returned (.int .i64 (tkN 1 tj : Int)) ∧ ∃ v', Hid (Ru w B gr gx (k1 : Int) (k2 : Int) w' v' (tkS 1 tj) (.slice os ns cs) (.slice os ns cs) lj)) := (smallF B gr v tj wr.drew hUd.out.rd hlj).mono fun e w' ⟨h1, v', h2, h3⟩ => ⟨h1, v', hUd.out.tk h2.out h3.out⟩
      generalize tkN 1 tj = z at *
      have c2d := hUd.out.b2
      go_wp2
      refine wp_region_held_drew (S := (fun _ => True)) (by kernel_rfl) ?_ (fun hHeld => ?_)
      · trivial
      refine wpAnyH_take (i := 0) (oi := { dst := some 14, op := Op.fieldAddr 62 (Operand.tmp 3) 2, type := 0, pos := "certificate.go:73", after := #[], guard := none }) (v := ?_) rfl (by kernel_rfl) (by kernel_rfl) (by kernel_rfl) (fun _ _ _ h => h) (Or.inl ⟨by rfl, ?_⟩) (by assumption) ?_
      rotate_left
      · intro w hSw; (try dsimp only at hSw); go_simp <;> with_reducible rfl
      simp only [Act.put, List.setIfInBounds_toArray, List.set_cons_zero, List.set_cons_succ]
      refine wpAnyH_take (i := 2) (oi := { dst := some 16, op := Op.move (Operand.tmp 0), type := 68, pos := "certificate.go:73", after := #[], guard := none }) (v := ?_) rfl (by kernel_rfl) (by kernel_rfl) (by kernel_rfl) (fun _ _ _ h => h) (Or.inl ⟨by rfl, ?_⟩) (by assumption) ?_
      rotate_left
      · intro w hSw; (try dsimp only at hSw); go_simp <;> with_reducible rfl
      simp only [Act.put, List.setIfInBounds_toArray, List.set_cons_zero, List.set_cons_succ]
      refine wpAnyH_ready (rs := [1, 3]) (by kernel_rfl) (by simp) ?_
      refine AllReadyH.cons (o := { dst := some 15, op := Op.load 24 (Operand.tmp 14), type := 24, pos := "certificate.go:73", after := #[{ on := 0, ground := Ground.data }], guard := none }) rfl (fun K hK => ?_) ?_
      · skip
        go_simp
        refine hK.out _ _ ?_ (fun hHeld => ?_)
        · trivial
        clear hK K
        try simp only [Act.put, List.setIfInBounds_toArray, List.set_cons_zero, List.set_cons_succ]
        refine wpAnyH_ready (rs := [3]) (by kernel_rfl) (by simp) ?_
        refine AllReadyH.cons (o := { dst := some 17, op := Op.call { callee := Callee.value (Operand.func 30), args := #[Operand.tmp 16], argTypes := #[68] }, type := 3, pos := "certificate.go:73", after := #[{ on := 2, ground := Ground.data }], guard := none }) rfl (fun K hK => ?_) AllReadyH.nil
        go_simp
        refine KS.out.mono ?_; rintro e w5 ⟨rfl, v5, hU5⟩; have hs5 := hU5.out.sz; have c25 := hU5.out.b2; have c26 := (hU5.out.over ((Below.refl _ w5).alloc (Nat.le_refl _) (.cells #[.int .i64 (z : Int)] 3))).b2; (try dsimp only)
        refine hK.out _ _ ?_ (fun hHeld => ?_)
        · trivial
        clear hK K
        try simp only [Act.put, List.setIfInBounds_toArray, List.set_cons_zero, List.set_cons_succ]
        refine wpAnyH_ready (rs := [4]) (by kernel_rfl) (by simp) ?_
        refine AllReadyH.cons (o := { dst := some 18, op := Op.buildSlice 24 1 #[(0, Operand.tmp 17)], type := 24, pos := "certificate.go:73", after := #[{ on := 3, ground := Ground.data }], guard := none }) rfl (fun K hK => ?_) AllReadyH.nil
        go_simp
        refine hK.out _ _ ?_ (fun hHeld => ?_)
        · trivial
        clear hK K
        try simp only [Act.put, List.setIfInBounds_toArray, List.set_cons_zero, List.set_cons_succ]
        refine wpAnyH_ready (rs := [5]) (by kernel_rfl) (by simp) ?_
        refine AllReadyH.cons (o := { dst := some 19, op := Op.call { callee := Callee.builtin Builtin.append, args := #[Operand.tmp 15, Operand.tmp 18], argTypes := #[24, 24] }, type := 24, pos := "certificate.go:73", after := #[{ on := 1, ground := Ground.data }, { on := 4, ground := Ground.data }, { on := 3, ground := Ground.chain }], guard := none }) rfl (fun K hK => ?_) AllReadyH.nil
        rw [if_pos (by rfl)]
        refine app_oneR (.tmp 15) (.tmp 18) (gx + 1) w5 (.slice os ns cs) lj (z : Int) rfl rfl rfl hU5.out.own hs5 hlL ?_; intro v6 w6 hO6 hb6; have hU6 := hide' (hU5.out.app hO6 hb6); clear hO6 hb6; obtain ⟨o6, n6, c6, rfl⟩ := hU6.out.shp; have f6 := World.rowIs.frozen hU6.out.bx 2; have d6 := hU6.out.b2; (try dsimp only)
        refine hK.out _ _ ?_ (fun hHeld => ?_)
        · trivial
        clear hK K
        try simp only [Act.put, List.setIfInBounds_toArray, List.set_cons_zero, List.set_cons_succ]
        refine wpAnyH_take (i := 6) (oi := { dst := some 20, op := Op.fieldAddr 62 (Operand.tmp 3) 2, type := 0, pos := "certificate.go:73", after := #[{ on := 0, ground := Ground.phase }, { on := 1, ground := Ground.phase }, { on := 2, ground := Ground.phase }, { on := 3, ground := Ground.phase }, { on := 4, ground := Ground.phase }, { on := 5, ground := Ground.phase }], guard := none }) (v := ?_) rfl (by kernel_rfl) (by kernel_rfl) (by kernel_rfl) (fun _ _ _ h => h) (Or.inl ⟨by rfl, ?_⟩) (by assumption) ?_
        rotate_left
        · intro w hSw; (try dsimp only at hSw); go_simp <;> with_reducible rfl
        simp only [Act.put, List.setIfInBounds_toArray, List.set_cons_zero, List.set_cons_succ]
        refine wpAnyH_ready (rs := [7]) (by kernel_rfl) (by simp) ?_
        refine AllReadyH.cons (o := { dst := none, op := Op.store 24 (Operand.tmp 20) (Operand.tmp 19), type := 0, pos := "certificate.go:73", after := #[{ on := 6, ground := Ground.data }, { on := 5, ground := Ground.data }, { on := 5, ground := Ground.chain }, { on := 0, ground := Ground.phase }, { on := 1, ground := Ground.phase }, { on := 2, ground := Ground.phase }, { on := 3, ground := Ground.phase }, { on := 4, ground := Ground.phase }, { on := 5, ground := Ground.phase }], guard := none }) rfl (fun K hK => ?_) AllReadyH.nil
        go_simp
        refine hK.out _ _ ?_ (fun hHeld => ?_)
        · trivial
        clear hK K
        try simp only [Act.put, List.setIfInBounds_toArray, List.set_cons_zero, List.set_cons_succ]
        refine wpAnyH_done (by kernel_rfl) ?_ _
        skip
        have hU7 := hide' hU6.out.put
        clear hU6 f6 d6 hU5 c25 c26 c2d
        go_wp2
        exact ⟨⟨j + 1, v5, .slice o6 n6 c6, by omega, by go_num, by rw [hE.out, hE2.out]; exact hU7⟩, by simp [intOf]; omega⟩
      refine AllReadyH.cons (o := { dst := some 17, op := Op.call { callee := Callee.value (Operand.func 30), args := #[Operand.tmp 16], argTypes := #[68] }, type := 3, pos := "certificate.go:73", after := #[{ on := 2, ground := Ground.data }], guard := none }) rfl (fun K hK => ?_) AllReadyH.nil
      go_simp
      refine KS.out.mono ?_; rintro e w5 ⟨rfl, v5, hU5⟩; have hs5 := hU5.out.sz; have c25 := hU5.out.b2; have c26 := (hU5.out.over ((Below.refl _ w5).alloc (Nat.le_refl _) (.cells #[.int .i64 (z : Int)] 3))).b2; (try dsimp only)
      refine hK.out _ _ ?_ (fun hHeld => ?_)
      · trivial
      clear hK K
      try simp only [Act.put, List.setIfInBounds_toArray, List.set_cons_zero, List.set_cons_succ]
      refine wpAnyH_ready (rs := [1, 4]) (by kernel_rfl) (by simp) ?_
      refine AllReadyH.cons (o := { dst := some 15, op := Op.load 24 (Operand.tmp 14), type := 24, pos := "certificate.go:73", after := #[{ on := 0, ground := Ground.data }], guard := none }) rfl (fun K hK => ?_) ?_
      · skip
        go_simp
        refine hK.out _ _ ?_ (fun hHeld => ?_)
        · trivial
        clear hK K
        try simp only [Act.put, List.setIfInBounds_toArray, List.set_cons_zero, List.set_cons_succ]
        refine wpAnyH_ready (rs := [4]) (by kernel_rfl) (by simp) ?_
        refine AllReadyH.cons (o := { dst := some 18, op := Op.buildSlice 24 1 #[(0, Operand.tmp 17)], type := 24, pos := "certificate.go:73", after := #[{ on := 3, ground := Ground.data }], guard := none }) rfl (fun K hK => ?_) AllReadyH.nil
        go_simp
        refine hK.out _ _ ?_ (fun hHeld => ?_)
        · trivial
        clear hK K
        try simp only [Act.put, List.setIfInBounds_toArray, List.set_cons_zero, List.set_cons_succ]
        refine wpAnyH_ready (rs := [5]) (by kernel_rfl) (by simp) ?_
        refine AllReadyH.cons (o := { dst := some 19, op := Op.call { callee := Callee.builtin Builtin.append, args := #[Operand.tmp 15, Operand.tmp 18], argTypes := #[24, 24] }, type := 24, pos := "certificate.go:73", after := #[{ on := 1, ground := Ground.data }, { on := 4, ground := Ground.data }, { on := 3, ground := Ground.chain }], guard := none }) rfl (fun K hK => ?_) AllReadyH.nil
        rw [if_pos (by rfl)]
        refine app_oneR (.tmp 15) (.tmp 18) (gx + 1) w5 (.slice os ns cs) lj (z : Int) rfl rfl rfl hU5.out.own hs5 hlL ?_; intro v6 w6 hO6 hb6; have hU6 := hide' (hU5.out.app hO6 hb6); clear hO6 hb6; obtain ⟨o6, n6, c6, rfl⟩ := hU6.out.shp; have f6 := World.rowIs.frozen hU6.out.bx 2; have d6 := hU6.out.b2; (try dsimp only)
        refine hK.out _ _ ?_ (fun hHeld => ?_)
        · trivial
        clear hK K
        try simp only [Act.put, List.setIfInBounds_toArray, List.set_cons_zero, List.set_cons_succ]
        refine wpAnyH_take (i := 6) (oi := { dst := some 20, op := Op.fieldAddr 62 (Operand.tmp 3) 2, type := 0, pos := "certificate.go:73", after := #[{ on := 0, ground := Ground.phase }, { on := 1, ground := Ground.phase }, { on := 2, ground := Ground.phase }, { on := 3, ground := Ground.phase }, { on := 4, ground := Ground.phase }, { on := 5, ground := Ground.phase }], guard := none }) (v := ?_) rfl (by kernel_rfl) (by kernel_rfl) (by kernel_rfl) (fun _ _ _ h => h) (Or.inl ⟨by rfl, ?_⟩) (by assumption) ?_
        rotate_left
        · intro w hSw; (try dsimp only at hSw); go_simp <;> with_reducible rfl
        simp only [Act.put, List.setIfInBounds_toArray, List.set_cons_zero, List.set_cons_succ]
        refine wpAnyH_ready (rs := [7]) (by kernel_rfl) (by simp) ?_
        refine AllReadyH.cons (o := { dst := none, op := Op.store 24 (Operand.tmp 20) (Operand.tmp 19), type := 0, pos := "certificate.go:73", after := #[{ on := 6, ground := Ground.data }, { on := 5, ground := Ground.data }, { on := 5, ground := Ground.chain }, { on := 0, ground := Ground.phase }, { on := 1, ground := Ground.phase }, { on := 2, ground := Ground.phase }, { on := 3, ground := Ground.phase }, { on := 4, ground := Ground.phase }, { on := 5, ground := Ground.phase }], guard := none }) rfl (fun K hK => ?_) AllReadyH.nil
        go_simp
        refine hK.out _ _ ?_ (fun hHeld => ?_)
        · trivial
        clear hK K
        try simp only [Act.put, List.setIfInBounds_toArray, List.set_cons_zero, List.set_cons_succ]
        refine wpAnyH_done (by kernel_rfl) ?_ _
        skip
        have hU7 := hide' hU6.out.put
        clear hU6 f6 d6 hU5 c25 c26 c2d
        go_wp2
        exact ⟨⟨j + 1, v5, .slice o6 n6 c6, by omega, by go_num, by rw [hE.out, hE2.out]; exact hU7⟩, by simp [intOf]; omega⟩
      refine AllReadyH.cons (o := { dst := some 18, op := Op.buildSlice 24 1 #[(0, Operand.tmp 17)], type := 24, pos := "certificate.go:73", after := #[{ on := 3, ground := Ground.data }], guard := none }) rfl (fun K hK => ?_) AllReadyH.nil
      go_simp
      refine hK.out _ _ ?_ (fun hHeld => ?_)
      · trivial
      clear hK K
      try simp only [Act.put, List.setIfInBounds_toArray, List.set_cons_zero, List.set_cons_succ]
      refine wpAnyH_ready (rs := [1]) (by kernel_rfl) (by simp) ?_
      refine AllReadyH.cons (o := { dst := some 15, op := Op.load 24 (Operand.tmp 14), type := 24, pos := "certificate.go:73", after := #[{ on := 0, ground := Ground.data }], guard := none }) rfl (fun K hK => ?_) AllReadyH.nil
      go_simp
      refine hK.out _ _ ?_ (fun hHeld => ?_)
      · trivial
      clear hK K
      try simp only [Act.put, List.setIfInBounds_toArray, List.set_cons_zero, List.set_cons_succ]
      refine wpAnyH_ready (rs := [5]) (by kernel_rfl) (by simp) ?_
      refine AllReadyH.cons (o := { dst := some 19, op := Op.call { callee := Callee.builtin Builtin.append, args := #[Operand.tmp 15, Operand.tmp 18], argTypes := #[24, 24] }, type := 24, pos := "certificate.go:73", after := #[{ on := 1, ground := Ground.data }, { on := 4, ground := Ground.data }, { on := 3, ground := Ground.chain }], guard := none }) rfl (fun K hK => ?_) AllReadyH.nil
      rw [if_pos (by rfl)]
      refine app_oneR (.tmp 15) (.tmp 18) (gx + 1) w5 (.slice os ns cs) lj (z : Int) rfl rfl rfl hU5.out.own hs5 hlL ?_; intro v6 w6 hO6 hb6; have hU6 := hide' (hU5.out.app hO6 hb6); clear hO6 hb6; obtain ⟨o6, n6, c6, rfl⟩ := hU6.out.shp; have f6 := World.rowIs.frozen hU6.out.bx 2; have d6 := hU6.out.b2; (try dsimp only)
      refine hK.out _ _ ?_ (fun hHeld => ?_)
      · trivial
      clear hK K
      try simp only [Act.put, List.setIfInBounds_toArray, List.set_cons_zero, List.set_cons_succ]
      refine wpAnyH_take (i := 6) (oi := { dst := some 20, op := Op.fieldAddr 62 (Operand.tmp 3) 2, type := 0, pos := "certificate.go:73", after := #[{ on := 0, ground := Ground.phase }, { on := 1, ground := Ground.phase }, { on := 2, ground := Ground.phase }, { on := 3, ground := Ground.phase }, { on := 4, ground := Ground.phase }, { on := 5, ground := Ground.phase }], guard := none }) (v := ?_) rfl (by kernel_rfl) (by kernel_rfl) (by kernel_rfl) (fun _ _ _ h => h) (Or.inl ⟨by rfl, ?_⟩) (by assumption) ?_
      rotate_left
      · intro w hSw; (try dsimp only at hSw); go_simp <;> with_reducible rfl
      simp only [Act.put, List.setIfInBounds_toArray, List.set_cons_zero, List.set_cons_succ]
      refine wpAnyH_ready (rs := [7]) (by kernel_rfl) (by simp) ?_
      refine AllReadyH.cons (o := { dst := none, op := Op.store 24 (Operand.tmp 20) (Operand.tmp 19), type := 0, pos := "certificate.go:73", after := #[{ on := 6, ground := Ground.data }, { on := 5, ground := Ground.data }, { on := 5, ground := Ground.chain }, { on := 0, ground := Ground.phase }, { on := 1, ground := Ground.phase }, { on := 2, ground := Ground.phase }, { on := 3, ground := Ground.phase }, { on := 4, ground := Ground.phase }, { on := 5, ground := Ground.phase }], guard := none }) rfl (fun K hK => ?_) AllReadyH.nil
      go_simp
      refine hK.out _ _ ?_ (fun hHeld => ?_)
      · trivial
      clear hK K
      try simp only [Act.put, List.setIfInBounds_toArray, List.set_cons_zero, List.set_cons_succ]
      refine wpAnyH_done (by kernel_rfl) ?_ _
      skip
      have hU7 := hide' hU6.out.put
      clear hU6 f6 d6 hU5 c25 c26 c2d
      go_wp2
      exact ⟨⟨j + 1, v5, .slice o6 n6 c6, by omega, by go_num, by rw [hE.out, hE2.out]; exact hU7⟩, by simp [intOf]; omega⟩
    · as_aux_lemma =>
      obtain rfl : j = n := by omega
      obtain ⟨os, ns, cs, rfl⟩ := hU.out.shp
      have a0 : wr.cell? ⟨gx, 0, none⟩ = some (.int .i64 (k1 : Int)) := World.rowIs.cell hU.out.bx (i := 0) (by decide)
      have a1 : wr.cell? ⟨gx, 1, none⟩ = some (.int .i64 (k2 : Int)) := World.rowIs.cell hU.out.bx (i := 1) (by decide)
      have a2 := hU.out.b2
      have z0 := World.rowIs.frozen hU.out.res 0
      have y0 := World.rowIs.cell hU.out.res (i := 0) (by decide)
      have z1 := World.rowIs.frozen (World.rowIs.set hU.out.res 0 (.int .i64 (k1 : Int))) 1
      have y1 := World.rowIs.cell (World.rowIs.set hU.out.res 0 (.int .i64 (k1 : Int))) (i := 1) (by decide)
      have z2 := World.rowIs.frozen (World.rowIs.set (World.rowIs.set hU.out.res 0 (.int .i64 (k1 : Int))) 1 (.int .i64 (k2 : Int))) 2
      have y2 := World.rowIs.cell (World.rowIs.set (World.rowIs.set hU.out.res 0 (.int .i64 (k1 : Int))) 1 (.int .i64 (k2 : Int))) (i := 2) (by decide)
      have hX := World.rowIs.set (World.rowIs.set (World.rowIs.set hU.out.res 0 (.int .i64 (k1 : Int))) 1 (.int .i64 (k2 : Int))) 2 (.slice os ns cs)
      have x0 := World.rowIs.cell hX (i := 0) (by decide)
      have x1 := World.rowIs.cell hX (i := 1) (by decide)
      have x2 := World.rowIs.cell hX (i := 2) (by decide)
      simp [ruV] at y0 y1 y2 x0 x1 x2
      have hF := hide' (hU.out.fin hB (.int .i64 (k1 : Int)) (.int .i64 (k2 : Int)) (.slice os ns cs))
      clear hX hU hlb3
      go_wp2
      refine bodyPost_ret (v := .agg #[.int .i64 (k1 : Int), .int .i64 (k2 : Int), .slice os ns cs]) (by simp [results, Try.results31, go_sem, x0, x1, x2]) rfl ?_
      obtain ⟨f1, f2, f3⟩ := hF.out
      unfold RlP
      exact ⟨.slice os ns cs, v, by rw [hFin.out]; rfl, by rw [hFin.out]; exact f3, by rw [hFinS.out]; exact f1, f2⟩
end Go.Proofs.Ytfajgbdnfphajaa.S
