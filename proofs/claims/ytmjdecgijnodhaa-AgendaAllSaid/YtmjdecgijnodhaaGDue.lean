/- Agenda.Due: what it answers. -/
import Derived.Test.YtmjdecgijnodhaaGQry
namespace Go.Proofs.Ytmjdecgijnodhaa
open Go.RowKit Go.Maps
theorem infoI : (Try.prog.info? 3).map (fun i => (i.zero, i.size, i.bytes)) = some (some (.int .i64 0), 1, 8) := by kernel_rfl
/-- Entries that are taken out, each the first of those that are left, none ahead of its time. -/
inductive Taken (now : Int) (S : Ent → Prop) : List Ent → (Ent → Prop) → Prop
  | nil : Taken now S [] S
  | snoc {L : List Ent} {S1 : Ent → Prop} {x : Ent} : Taken now S L S1 → MinS S1 x → x.tm ≤ now → Taken now S (L ++ [x]) (fun y => S1 y ∧ y.id ≠ x.id)
def cellsE (L : List Ent) : List Value := L.map fun x => Value.int .i64 x.id
theorem cellsE_snoc (L : List Ent) (x : Ent) : cellsE L ++ [.int .i64 x.id] = cellsE (L ++ [x]) := by simp [cellsE]
def lenOf : Value → Nat | .slice _ n _ => n | _ => 0
def DuePost (a n : Nat) (F : Nat → Prop) (S : Ent → Prop) (sets : Nat) (now most : Int) (w : World) (e : Ending) (w' : World) : Prop :=
  ∃ L S' F' n' v, e = .returned v ∧ Taken now S L S' ∧ w'.ownsRow w.heap.size 3 1 v L.length (cellsE L) ∧ AgS w' a F' S' n' sets ∧ Mv F w w' ∧ (∀ k, F' k → F k) ∧ n = L.length + n' ∧ ((L.length : Int) ≤ most ∨ L = []) ∧ (most ≤ (L.length : Int) ∨ n' = 0 ∨ ∃ x, MinS S' x ∧ now < x.tm)
theorem AgS.wfId {w : World} {a n sets : Nat} {F : Nat → Prop} {S : Ent → Prop} (H : AgS w a F S n sets) {x : Ent} (hx : S x) : (Lit.int .i64 x.id).wf = true := by
  obtain ⟨h, rowv, mb, D, HA, hS, _⟩ := H
  obtain ⟨i, hi, rfl⟩ := (hS x).1 hx
  exact HA.wf i hi
theorem AgS.ltF {w : World} {a n sets : Nat} {F : Nat → Prop} {S : Ent → Prop} (H : AgS w a F S n sets) : (∀ k, F k → k < w.heap.size) ∧ n ≤ sets ∧ sets ≤ 1000000 := by
  obtain ⟨h, rowv, mb, D, HA, hS, _, hl⟩ := H
  exact ⟨hl, HA.small⟩
theorem own_shapeG {W : World} {base : Nat} {e : TypeId} {size : Nat} {v : Value} {n : Nat} {xs : List Value} (h : W.ownsRow base e size v n xs) : ∃ oa cap, v = .slice oa n cap := by
  rcases h.2 with ⟨rfl, rfl⟩ | ⟨g, cap, cur, rfl, _⟩
  · exact ⟨_, _, rfl⟩
  · exact ⟨_, _, rfl⟩
theorem row_mv {w w1 w2 : World} {F : Nat → Prop} {v : Value} {n : Nat} {xs : List Value} (h : w1.ownsRow w.heap.size 3 1 v n xs) (hF : ∀ k, F k → k < w.heap.size) (hM : Mv F w1 w2) : w2.ownsRow w.heap.size 3 1 v n xs :=
  owns_same h fun g hg e => hM.block g hg fun x => by have h1 := hF g x; have h2 := (h.lt g e).1; omega
set_option maxRecDepth 100000 in
set_option maxHeartbeats 4000000 in
theorem dueA (a n sets : Nat) (F : Nat → Prop) (S : Ent → Prop) (now most : Int) (w : World) (H : AgS w a F S n sets) :
    Calls Try.prog 19 #[.pointer (some ⟨a, 0, none⟩), .int .i64 now, .int .i64 most] w (DuePost a n F S sets now most w) := by
  obtain ⟨i0, hi, hz0, hz1, hz2⟩ := info_parts infoI
  have hlF := hide' H.ltF
  have hnn : n ≤ 1000000 := by have := H.ltF; omega
  have H' := hide' H
  clear H
  go_enter Try.func19, Try.ntmps19
  go_wp2
  go_loopw [7] (fun v wr => ∃ (L : List Ent) (S1 : Ent → Prop) (F1 : Nat → Prop) (n1 : Nat), wr.ownsRow w.heap.size 3 1 v L.length (cellsE L) ∧ Hid (Taken now S L S1) ∧ AgS wr a F1 S1 n1 sets ∧ Mv F w wr ∧ Hid (∀ k, F1 k → F k) ∧ n = L.length + n1 ∧ Hid ((L.length : Int) ≤ most ∨ L = [])) (fun v _ => n - lenOf v)
  case atStart => exact ⟨[], S, F, n, World.ownsRow_nil _ _ _ _, Taken.nil, H'.out, Mv.refl _ _, fun _ x => x, by simp, .inr rfl⟩
  case round =>
    clear H'
    obtain ⟨L, S1, F1, n1, hrow, hT, hA, hM, hF1, hnl, hmo⟩ := hrel
    obtain ⟨oa, cap, rfl⟩ := own_shapeG hrow
    have hrow' := hide' hrow
    have hA' := hide' hA
    have hM' := hide' hM
    have hll : L.length ≤ 1000000 := by omega
    clear hrow hA hM
    by_cases hlt : (L.length : Int) < most
    · by_cases h0 : n1 = 0
      · subst h0
        have KF := hide' (firstNo a sets F1 S1 wr hA'.out)
        have hP : Hid (∀ w2, Below wr.heap.size wr w2 → DuePost a n F S sets now most w (.returned (.slice oa L.length cap)) w2) := fun w2 hb => ⟨L, S1, F1, 0, _, rfl, hT.out, owns_same hrow'.out fun g hg _ => hb.block g hg, hA'.out.below hb, hM'.out.trans (Mv.below (F := fun _ => False) hb) (fun _ _ x => x.elim), hF1.out, hnl, hmo.out, .inr (.inl rfl)⟩
        clear hT hrow' hA' hM' hF1 hmo
        go_wp2_with (go_at_call 25; refine KF.out.mono ?_; rintro e w2 ⟨rfl, hb⟩)
        go_ret
        exact hP.out _ hb
      · obtain ⟨x, hx⟩ := first_of hA'.out (by omega)
        have KF := hide' (firstYes a n1 sets F1 S1 (by omega) x hx wr hA'.out)
        by_cases hnow : now < x.tm
        · have hP : Hid (∀ w2, Below wr.heap.size wr w2 → DuePost a n F S sets now most w (.returned (.slice oa L.length cap)) w2) := fun w2 hb => ⟨L, S1, F1, n1, _, rfl, hT.out, owns_same hrow'.out fun g hg _ => hb.block g hg, hA'.out.below hb, hM'.out.trans (Mv.below (F := fun _ => False) hb) (fun _ _ x => x.elim), hF1.out, hnl, hmo.out, .inr (.inr ⟨x, hx, hnow⟩)⟩
          generalize x.id = xi at *
          generalize x.tm = xt at *
          clear hT hrow' hA' hM' hF1 hmo hx
          go_wp2_with (go_at_call 25; refine KF.out.mono ?_; rintro e w2 ⟨rfl, hb⟩)
          go_ret
          exact hP.out _ hb
        · have KD := hide' (fun W (hb : Below wr.heap.size wr W) => dropA a n1 sets F1 S1 x.id (hA'.out.wfId hx.1) W (hA'.out.below hb))
          have hT2 : Hid (Taken now S (L ++ [x]) (fun y => S1 y ∧ y.id ≠ x.id)) := hT.out.snoc hx (by omega)
          have hin : Hid (S1 x) := hx.1
          have hcs := hide' (cellsE_snoc L x)
          have hll2 : Hid ((L ++ [x]).length = L.length + 1) := by show _ = _; simp
          clear hx hT
          generalize hxi : x.id = xi at *
          have hxi' := hide' hxi
          clear hxi
          generalize x.tm = xt at *
          go_wp2_with (first | (go_at_call 25; refine KF.out.mono ?_; rintro e w2 ⟨rfl, hb⟩; have hb2 := hide' hb; clear hb) | (go_at_call 12; refine (KD.out _ hb2.out).mono ?_; rintro e w3 ⟨b3, F3, n3, rfl, hb3, hA3, hM3, hF3, hn3⟩; have hA3' := hide' hA3; have hM3' := hide' hM3; have hF3' := hide' hF3; have hb3' := hide' hb3; have hrow3 := hide' (row_mv (owns_same hrow'.out fun g hg _ => hb2.out.block g hg) (fun k hk => hlF.out.1 k (hF1.out k hk)) hM3); have hz3 : w.heap.size ≤ w3.heap.size := (by have h1 := hM'.out.size; have h2 := hb2.out.size; have h3 := hM3.size; omega); clear hA3 hM3 hF3 hb3) | (at_builtin; go_loud (refine wpList_append_lies _ rfl _ _ 51 rfl w.heap.size 3 i0 (.int .i64 0) 1 8 Try.underlying51 hi hz0 hz1 hz2 rfl (by decide) (.slice oa L.length cap) L.length (cellsE L) rfl (hrow3.out.alloc _) ⟨w3.heap.size, 0, none⟩ 1 1 [.int .i64 xi] rfl rfl (cell_one_new _ _ _) (by simp [Value.oneCell']) (by decide) (by unfold maxLen; omega) (by omega) (by simp; omega) _ rfl ?_); intro g4 cap4 w4 hown4 hgrow4 hat4 hlt4))
          have hb3t : b3 = true := hb3'.out.2 ⟨x, hin.out, hxi'.out⟩
          subst hb3t
          have hgw : ∀ k, (Value.slice oa L.length cap).ownBlock = some k → w.heap.size ≤ k := fun k ek => (hrow3.out.lt k ek).1
          have hM4 : Mv (fun k => w.heap.size ≤ k) w3 w4 := (Mv.alloc (.cells #[.int .i64 xi] 3)).trans (Mv.grown (F := fun k => w.heap.size ≤ k) hgrow4 hgw (fun k ek => (ne_row hrow3.out ek (by decide)).same (Below.heap_alloc _ _ _ (hrow3.out.lt k ek).2))) (fun _ _ x => x)
          have hA4 : AgS w4 a F3 (fun y => S1 y ∧ y.id ≠ xi) n3 sets := hA3'.out.keep hM4.size fun k hk => hM4.block k (hA3'.out.ltF.1 k hk) (fun x => by have := hlF.out.1 k (hF1.out k (hF3'.out k hk)); omega)
          have hMx : Mv F w w4 := ((hM'.out.trans (Mv.below (F := fun _ => False) hb2.out) (fun _ _ x => x.elim)).trans hM3'.out (fun k _ x => hF1.out k x)).trans hM4 (fun k hk x => by omega)
          have hown5 : w4.ownsRow w.heap.size 3 1 (.slice (some ⟨g4, 0, none⟩) (L.length + 1) cap4) (L ++ [x]).length (cellsE (L ++ [x])) := by
            rw [hll2.out, ← hcs.out]; exact hown4
          have hn3' : n1 = n3 + 1 := hn3
          have hT3 : Taken now S (L ++ [x]) (fun y => S1 y ∧ y.id ≠ xi) := hT2.out
          refine ⟨⟨L ++ [x], _, F3, n3, hown5, hT3, hA4, hMx, fun k hk => hF1.out k (hF3'.out k hk), by rw [hll2.out]; omega, .inl (by rw [hll2.out]; omega)⟩, ?_⟩
          simp only [lenOf]
          omega
    · have hP : Hid (DuePost a n F S sets now most w (.returned (.slice oa L.length cap)) wr) := ⟨L, S1, F1, n1, _, rfl, hT.out, hrow'.out, hA'.out, hM'.out, hF1.out, hnl, hmo.out, .inl (by omega)⟩
      clear hT hrow' hA' hM' hF1 hmo hnl
      go_wp2
      go_ret
      exact hP.out
end Go.Proofs.Ytmjdecgijnodhaa
