/- What stands while a certificate is read. -/
import Derived.Test.YtfajgbdnfphajaaZdR
import Derived.Test.YtfajgbdnfphajaaKApp
namespace Go.Proofs.Ytfajgbdnfphajaa.S
open Go.RowKit Go.Shelf
/-- An int laid behind a row of ints that lies beside another. -/
theorem app_pair {o : Oper} {a : Act} {Kk : Act → World → Prop} {Q : Exit → Act → World → Prop} (s x : Operand) (B : Nat) (W : World) (v : Value) (L : List Int) (v' : Value) (L' : List Int) (z : Int) (ho : o.op = .call { callee := .builtin .append, args := #[s, x], argTypes := #[24, 24] })
    (es : a.eval s = v) (ex : a.eval x = .slice (some ⟨W.heap.size, 0, none⟩) 1 1) (hT : W.ownsRow B 3 1 v L.length (cellsI L)) (hT' : W.ownsRow B 3 1 v' L'.length (cellsI L')) (hd : ∀ g, v.ownBlock = some g → v'.ownBlock ≠ some g) (hB : B ≤ W.heap.size) (hn : L.length ≤ 1000000)
    (hK : ∀ o2 n2 c2 w2, w2.ownsRow B 3 1 (.slice o2 n2 c2) (L ++ [z]).length (cellsI (L ++ [z])) → w2.ownsRow B 3 1 v' L'.length (cellsI L') → (∀ g, (Value.slice o2 n2 c2).ownBlock = some g → v'.ownBlock ≠ some g) → Below B W w2 → (∀ (B' e sz : Nat) (v'' : Value) (n : Nat) (xs : List Value), e ≠ 3 → W.ownsRow B' e sz v'' n xs → w2.ownsRow B' e sz v'' n xs) → Kk (a.put o.dst (.slice o2 n2 c2)) w2) : o.wp Try.prog a (W.alloc (.cells #[.int .i64 z] 3)) Kk Q := by
  obtain ⟨i0, hi, hz0, hz1, hz2⟩ := info_parts info3
  refine K.wp_append_two _ s x 24 ho B 3 i0 (.int .i64 0) 1 8 Try.underlying24 hi hz0 hz1 hz2 rfl (by decide) v L.length (cellsI L) es (hT.alloc _) ⟨W.heap.size, 0, none⟩ 1 1 [.int .i64 z] ex rfl (World.news_of_block (cs := #[.int .i64 z]) (heap_new _ _)) (by simp [Value.oneCell']) (by decide) (by unfold maxLen; omega) (by omega) (by simp; omega) ?_
  intro g cap w2 hnew _ hat
  have e : cellsI (L ++ [z]) = cellsI L ++ [.int .i64 z] := by simp [cellsI]
  have hB1 : Below B W (W.alloc (.cells #[.int .i64 z] 3)) := (Below.refl B W).alloc hB _
  have hl' : ∀ k, v'.ownBlock = some k → k < W.heap.size := fun k hk => (hT'.lt k hk).2
  refine hK _ _ _ _ (by rw [e, List.length_append]; exact hnew) ?_ ?_ ?_ ?_
  · rcases hat with ⟨hv, hg⟩ | ⟨hv, hg⟩
    · refine (hT'.alloc _).kept hg ?_
      cases q : v'.ownBlock with
      | none => exact .inl rfl
      | some k => exact .inr fun e => hd g (by rw [hv]; rfl) (by rw [q, e])
    · exact (hT'.alloc _).kept hg (by cases q : v'.ownBlock with | none => exact .inl rfl | some k => exact .inr (by simp))
  · intro k hk q
    have hk' : g = k := by simpa [Value.ownBlock] using hk
    subst hk'
    rcases hat with ⟨hv, _⟩ | ⟨hv, _⟩
    · exact hd g (by rw [hv]; rfl) q
    · have := hl' g q
      rw [hv] at this
      simp at this
      omega
  · rcases hat with ⟨hv, hg⟩ | ⟨_, hg⟩
    · exact hB1.grown hg (by simp; omega) (fun j ej => by cases ej; exact own_ge' hT (by rw [hv]; rfl))
    · exact hB1.grown hg (by simp; omega) (fun j ej => by cases ej)
  · intro B' e' sz v'' n xs hne ho''
    rcases hat with ⟨hv, hg⟩ | ⟨_, hg⟩
    · exact kept_kind (ho''.alloc _) (hT.alloc _) hne (by rw [hv]; exact hg)
    · exact (ho''.alloc _).kept hg (by cases q : v''.ownBlock with | none => exact .inl rfl | some k => exact .inr (by simp))
structure Cq (w : World) (B gr : Nat) (W : World) (v : Value) (t : RdS) (u : Int) (a b c va vb vc vp : Value) (L1 : List Nat) (L2 LP : List Int) (E : List (Rl × Value)) : Prop where
  rd : Rd B W gr v t
  fr : FrG gr w W
  qb : QAt W w.heap.size u a b c
  r1 : W.ownsRow (w.heap.size + 1) 51 1 va L1.length (cellsW L1)
  r2 : W.ownsRow (w.heap.size + 1) 3 1 vb L2.length (cellsI L2)
  rp : W.ownsRow (w.heap.size + 1) 3 1 vp LP.length (cellsI LP)
  r3 : TwS (w.heap.size + 1) W vc E
  dj : ∀ g, vb.ownBlock = some g → vp.ownBlock ≠ some g
  gl : B ≤ w.heap.size
section
variable {w : World} {B gr : Nat} {W W' : World} {v v' : Value} {t t' : RdS} {u : Int} {a b c va vb vc vp : Value} {L1 : List Nat} {L2 LP : List Int} {E : List (Rl × Value)}
theorem own_frg {B' e sz : Nat} {v : Value} {n : Nat} {xs : List Value} (h : W.ownsRow B' e sz v n xs) (hf : FrG gr W W') (hg : gr < B') : W'.ownsRow B' e sz v n xs :=
  own_same h fun g hg' e => hf.block g hg' (by have := own_ge' h e; omega)
theorem Cq.tk (h : Cq w B gr W v t u a b c va vb vc vp L1 L2 LP E) (hr : Rd B W' gr v' t') (hf : FrG gr W W') : Cq w B gr W' v' t' u a b c va vb vc vp L1 L2 LP E := by
  have hgr := h.rd.lowr
  have hgl := h.gl
  have hg : gr < w.heap.size + 1 := by omega
  exact ⟨hr, h.fr.trans hf, h.qb.of (hf.block _ h.qb.lt (by omega)), own_frg h.r1 hf hg, own_frg h.r2 hf hg, own_frg h.rp hf hg, ⟨own_frg h.r3.row hf hg, fun p hp => own_frg (h.r3.inner p hp) hf hg⟩, h.dj, h.gl⟩
theorem Cq.sz (h : Cq w B gr W v t u a b c va vb vc vp L1 L2 LP E) : w.heap.size + 1 ≤ W.heap.size := h.qb.lt
theorem Cq.over (h : Cq w B gr W v t u a b c va vb vc vp L1 L2 LP E) (hb : Below W.heap.size W W') : Cq w B gr W' v t u a b c va vb vc vp L1 L2 LP E := by
  have h1 := h.gl
  have h2 := h.sz
  exact ⟨h.rd.over (hb.mono (by omega)), h.fr.low hb (by omega), h.qb.of (hb.block _ h.qb.lt), own_lowB h.r1 hb, own_lowB h.r2 hb, own_lowB h.rp hb, h.r3.below hb (Nat.le_refl _), h.dj, h.gl⟩
theorem Cq.put (h : Cq w B gr W v t u a b c va vb vc vp L1 L2 LP E) {o : Nat} {x : Value} {u' : Int} {a' b' c' : Value} (hq : QAt (W.setCell ⟨w.heap.size, o, none⟩ x) w.heap.size u' a' b' c') : Cq w B gr (W.setCell ⟨w.heap.size, o, none⟩ x) v t u' a' b' c' va vb vc vp L1 L2 LP E := by
  have hgl := h.gl
  have hb : Below w.heap.size W (W.setCell ⟨w.heap.size, o, none⟩ x) := (Below.refl _ W).setCell (p := ⟨w.heap.size, o, none⟩) (Nat.le_refl _) _
  exact ⟨h.rd.over (hb.mono hgl), h.fr.low hb (Nat.le_refl _), hq, own_set h.r1 (by omega) x, own_set h.r2 (by omega) x, own_set h.rp (by omega) x, ⟨own_set h.r3.row (by omega) x, fun p hp => own_set (h.r3.inner p hp) (by omega) x⟩, h.dj, h.gl⟩
variable {o : Oper} {ac : Act} {Q : Exit → Act → World → Prop} {K : Act → World → Prop}
theorem Cq.base (h : Cq w B gr W v t u a b c va vb vc vp L1 L2 LP E) (hb : Below (w.heap.size + 1) W W') : Rd B W' gr v t ∧ FrG gr w W' ∧ QAt W' w.heap.size u a b c := by
  have hgl := h.gl
  exact ⟨h.rd.over (hb.mono (by omega)), h.fr.low hb (by omega), h.qb.of (hb.block _ (Nat.lt_succ_self _))⟩
/-- A word more. -/
theorem Cq.wapp1 (s x : Operand) (h : Cq w B gr W v t u a b c va vb (.slice none 0 0) vp L1 L2 LP []) (z : Nat) (ho : o.op = .call { callee := .builtin .append, args := #[s, x], argTypes := #[23, 23] })
    (es : ac.eval s = va) (ex : ac.eval x = .slice (some ⟨W.heap.size, 0, none⟩) 1 1) (hn : L1.length ≤ 1000000)
    (hK : ∀ o5 n5 c5 w2, Cq w B gr w2 v t u a b c (.slice o5 n5 c5) vb (.slice none 0 0) vp (L1 ++ [z]) L2 LP [] → K (ac.put o.dst (.slice o5 n5 c5)) w2) : o.wp Try.prog ac (W.alloc (.cells #[.int .u64 (z : Int)] 51)) K Q := by
  obtain ⟨i0, hi, hz0, hz1, hz2⟩ := info_parts infoW
  have hs := h.sz
  refine wp_append_own _ s x 23 ho (w.heap.size + 1) 51 i0 (.int .u64 0) 1 8 Try.underlying23 hi hz0 hz1 hz2 rfl (by decide) va L1.length (cellsW L1) es (h.r1.alloc _) ⟨W.heap.size, 0, none⟩ 1 1 [.int .u64 (z : Int)] ex rfl (World.news_of_block (cs := #[.int .u64 (z : Int)]) (heap_new _ _)) (by simp [Value.oneCell']) (by unfold maxLen; omega) (by omega) (by simp; omega) ?_
  intro v2 w2 hown hgrow _
  have hb : Below (w.heap.size + 1) W w2 := ((Below.refl _ W).alloc hs _).grown hgrow (by simp; omega) (fun j ej => own_ge' h.r1 ej)
  obtain ⟨o5, c5, rfl⟩ := own_shp hown
  obtain ⟨b1, b2, b3⟩ := h.base hb
  have e : cellsW (L1 ++ [z]) = cellsW L1 ++ [.int .u64 (z : Int)] := by simp [cellsW]
  exact hK _ _ _ _ ⟨b1, b2, b3, by rw [e, List.length_append]; exact hown, kept_kind (h.r2.alloc _) (h.r1.alloc _) (by decide) hgrow, kept_kind (h.rp.alloc _) (h.r1.alloc _) (by decide) hgrow, TwS.nil _ _, h.dj, h.gl⟩
/-- An int more, in the problem. -/
theorem Cq.wapp2 (s x : Operand) (h : Cq w B gr W v t u a b c va vb (.slice none 0 0) vp L1 L2 LP []) (z : Int) (ho : o.op = .call { callee := .builtin .append, args := #[s, x], argTypes := #[24, 24] })
    (es : ac.eval s = vb) (ex : ac.eval x = .slice (some ⟨W.heap.size, 0, none⟩) 1 1) (hn : L2.length ≤ 1000000)
    (hK : ∀ o5 n5 c5 w2, Cq w B gr w2 v t u a b c va (.slice o5 n5 c5) (.slice none 0 0) vp L1 (L2 ++ [z]) LP [] → K (ac.put o.dst (.slice o5 n5 c5)) w2) : o.wp Try.prog ac (W.alloc (.cells #[.int .i64 z] 3)) K Q := by
  refine app_pair s x (w.heap.size + 1) W vb L2 vp LP z ho es ex h.r2 h.rp h.dj h.sz hn ?_
  intro o5 n5 c5 w2 k1 k2 k3 k4 k5
  obtain ⟨b1, b2, b3⟩ := h.base k4
  exact hK _ _ _ _ ⟨b1, b2, b3, k5 _ _ _ _ _ _ (by decide) h.r1, k1, k2, TwS.nil _ _, k3, h.gl⟩
/-- An int more, in the plan. -/
theorem Cq.wappP (s x : Operand) (h : Cq w B gr W v t u a b c va vb (.slice none 0 0) vp L1 L2 LP []) (z : Int) (ho : o.op = .call { callee := .builtin .append, args := #[s, x], argTypes := #[24, 24] })
    (es : ac.eval s = vp) (ex : ac.eval x = .slice (some ⟨W.heap.size, 0, none⟩) 1 1) (hn : LP.length ≤ 1000000)
    (hK : ∀ o5 n5 c5 w2, Cq w B gr w2 v t u a b c va vb (.slice none 0 0) (.slice o5 n5 c5) L1 L2 (LP ++ [z]) [] → K (ac.put o.dst (.slice o5 n5 c5)) w2) : o.wp Try.prog ac (W.alloc (.cells #[.int .i64 z] 3)) K Q := by
  refine app_pair s x (w.heap.size + 1) W vp LP vb L2 z ho es ex h.rp h.r2 (fun g h1 h2 => h.dj g h2 h1) h.sz hn ?_
  intro o5 n5 c5 w2 k1 k2 k3 k4 k5
  obtain ⟨b1, b2, b3⟩ := h.base k4
  exact hK _ _ _ _ ⟨b1, b2, b3, k5 _ _ _ _ _ _ (by decide) h.r1, k2, k1, TwS.nil _ _, (fun g h1 h2 => k3 g h2 h1), h.gl⟩
/-- A rule more. -/
theorem Cq.wapp3 (s x : Operand) (h : Cq w B gr W v t u a b c va vb vc vp L1 L2 LP E) (p : Rl × Value) (hp : W.ownsRow (w.heap.size + 1) 3 1 p.2 p.1.steps.length (cellsI p.1.steps)) (hne : ∀ g, vc.ownBlock = some g → p.2.ownBlock ≠ some g) (ho : o.op = .call { callee := .builtin .append, args := #[s, x], argTypes := #[25, 25] })
    (es : ac.eval s = vc) (ex : ac.eval x = .slice (some ⟨W.heap.size, 0, none⟩) 1 1) (hn : E.length ≤ 1000000)
    (hK : ∀ o5 n5 c5 w2, Cq w B gr w2 v t u a b c va vb (.slice o5 n5 c5) vp L1 L2 LP (E ++ [p]) → K (ac.put o.dst (.slice o5 n5 c5)) w2) : o.wp Try.prog ac (W.alloc (.cells #[.int .i64 p.1.kind, .int .i64 p.1.k, p.2] 62)) K Q := by
  obtain ⟨i0, hi, hz0, hz1, hz2⟩ := info_parts infoR
  have hs := h.sz
  have hT1 : TwS (w.heap.size + 1) (W.alloc (.cells #[.int .i64 p.1.kind, .int .i64 p.1.k, p.2] 62)) vc E := ⟨h.r3.row.alloc _, fun q hq => (h.r3.inner q hq).alloc _⟩
  refine wp_append_own _ s x 25 ho (w.heap.size + 1) 62 i0 (.agg #[.int .i64 0, .int .i64 0, .slice none 0 0]) 3 40 Try.underlying25 hi hz0 hz1 hz2 rfl (by decide) vc E.length (cellsR E) es hT1.row ⟨W.heap.size, 0, none⟩ 1 1 (rcells p) ex rfl (World.news_of_block (cs := #[.int .i64 p.1.kind, .int .i64 p.1.k, p.2]) (heap_new _ _)) (rcells_one p (own_one hp)) (by unfold maxLen; omega) (by omega) (by simp; omega) ?_
  intro v2 w2 hown hgrow _
  have hb : Below (w.heap.size + 1) W w2 := ((Below.refl _ W).alloc hs _).grown hgrow (by simp; omega) (fun j ej => own_ge' h.r3.row ej)
  have hTw := hT1.push p (hp.alloc _) hne hown hgrow
  obtain ⟨o5, c5, rfl⟩ := own_shp hown
  obtain ⟨b1, b2, b3⟩ := h.base hb
  exact hK _ _ _ _ ⟨b1, b2, b3, kept_kind (h.r1.alloc _) hT1.row (by decide) hgrow, kept_kind (h.r2.alloc _) hT1.row (by decide) hgrow, kept_kind (h.rp.alloc _) hT1.row (by decide) hgrow, hTw, h.dj, h.gl⟩
end
end Go.Proofs.Ytfajgbdnfphajaa.S
