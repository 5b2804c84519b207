/- PartAll's walk. -/
import Derived.Test.YtdfkonbkdbhgkaaPAllFn
import Derived.Test.YtdfkonbkdbhgkaaPWakes
import Derived.Deep.DeepCutAuto
import Derived.Deep.CutRange
namespace Go.Proofs.Ytdfkonbkdbhgkaa
open Go.RowKit Go.Shelf
attribute [local go_sem] Oper.semAt_some
/-- What the rounds keep: the boxes, and the last row. -/
structure PI (B s most k : Nat) (z : Int) (li : List Nat) (w W : World) : Prop where
  bn : Boxed W B 3 (.int .i64 z)
  br : Boxed W (B + 1) 4 (.bool false)
  bk : Boxed W (s + 1) 3 (.int .i64 (k : Int))
  bm : Boxed W (s + 2) 3 (.int .i64 (most : Int))
  row : ∃ v, Boxed W s 26 v ∧ W.ownsRow (s + 3 + 3) 3 1 v li.length (cellsI (ints li))
  bel : Below B w W
  sz : B + 2 < s
theorem PI.lt {B s most k : Nat} {z : Int} {li : List Nat} {w W : World} (h : PI B s most k z li w W) : s + 2 < W.heap.size := h.bm.lt
theorem PI.grown {B s most k : Nat} {z : Int} {li : List Nat} {w X Y : World} {r : Nat} (h : PI B s most k z li w X) (h1 : s + 3 ≤ r) (h2 : r ≤ s + 3 + 2) (hg : X.grownBy Y (some r)) : PI B s most k z li w Y := by
  have hz := h.sz
  have hl := h.lt
  refine ⟨h.bn.kept hg (by intro e; injection e; omega), h.br.kept hg (by intro e; injection e; omega), h.bk.kept hg (by intro e; injection e; omega), h.bm.kept hg (by intro e; injection e; omega), ?_, h.bel.grown hg (by omega) (fun j ej => by cases ej; omega), hz⟩
  obtain ⟨v, hv, hr⟩ := h.row
  refine ⟨v, hv.kept hg (by intro e; injection e; omega), hr.kept hg ?_⟩
  cases e : v.ownBlock with
  | none => exact .inl rfl
  | some b =>
    refine .inr ?_
    rcases hr.2 with ⟨rfl, _⟩ | ⟨g, cap, cur, rfl, hb, _⟩
    · cases e
    · intro e2
      rw [← e] at e2
      simp [Value.ownBlock] at e2
      omega
theorem PI.most {B s most k : Nat} {z : Int} {li : List Nat} {w W : World} (h : PI B s most k z li w W) (u : Nat) : PI B s u k z li w (W.setCell ⟨s + 2, 0, none⟩ (.int .i64 (u : Int))) := by
  have hz := h.sz
  obtain ⟨v, hv, hr⟩ := h.row
  refine ⟨h.bn.other (by omega) _, h.br.other (by omega) _, h.bk.other (by omega) _, h.bm.set _, ⟨v, hv.other (by omega) _, hr.kept (grownBy_setCell' W (s + 2) _) ?_⟩, h.bel.setCell (by show B ≤ s + 2; omega) _, hz⟩
  rcases hr.2 with ⟨rfl, _⟩ | ⟨g, cap, cur, rfl, hb, _⟩
  · exact .inl rfl
  · exact .inr (by simp [Value.ownBlock]; omega)
theorem PI.start {B : Nat} {z : Int} {w w1 : World} (h0 : Boxed w1 B 3 (.int .i64 z)) (h1 : Boxed w1 (B + 1) 4 (.bool false)) (hb : Below B w w1) (hz : B + 2 < w1.heap.size) :
    PI B w1.heap.size 1000 0 z [] w (((w1.alloc (.cells #[.slice none 0 0] 26)).alloc (.cells #[.int .i64 0] 3)).alloc (.cells #[.int .i64 1000] 3)) := by
  have bk := (Boxed.new (w1.alloc (.cells #[.slice none 0 0] 26)) 3 (.int .i64 0)).alloc (.cells #[.int .i64 1000] 3)
  have bm := Boxed.new ((w1.alloc (.cells #[.slice none 0 0] 26)).alloc (.cells #[.int .i64 0] 3)) 3 (.int .i64 1000)
  simp only [World.size_alloc] at bk bm
  exact ⟨((h0.alloc _).alloc _).alloc _, ((h1.alloc _).alloc _).alloc _, bk, bm, ⟨_, ((Boxed.new w1 26 (.slice none 0 0)).alloc _).alloc _, World.ownsRow_nil _ _ _ _⟩, ((hb.alloc (by omega) _).alloc (by simp; omega) _).alloc (by simp; omega) _, hz⟩
theorem PI.step {B s most k : Nat} {z : Int} {li li2 : List Nat} {w W w4 wr : World} {v2 : Value} {ob : Option Nat} (h : PI B s most k z li w W) (hb : Below W.heap.size W w4) (hs : s + 3 + 3 ≤ W.heap.size) (ho : w4.ownsRow W.heap.size 3 1 v2 li2.length (cellsI (ints li2)))
    (hg : (w4.setCell ⟨s, 0, none⟩ v2).grownBy wr ob) (hob : ∀ j, ob = some j → s + 3 + 3 ≤ j ∧ j < W.heap.size) :
    PI B s most (k + 1) z li2 w (wr.setCell ⟨s + 1, 0, none⟩ (.int .i64 ((k : Int) + 1))) ∧ W.heap.size ≤ (wr.setCell ⟨s + 1, 0, none⟩ (.int .i64 ((k : Int) + 1))).heap.size ∧ ∀ r, s + 3 ≤ r → r ≤ s + 3 + 2 → (wr.setCell ⟨s + 1, 0, none⟩ (.int .i64 ((k : Int) + 1))).heap[r]? = W.heap[r]? := by
  have hz := h.sz
  have hl := h.lt
  have s4 := hb.size
  have g5 := grownBy_setCell' w4 s v2
  have g6 := grownBy_setCell' wr (s + 1) (.int .i64 ((k : Int) + 1))
  have one : ∀ b t u, Boxed W b t u → b < s + 3 → b ≠ s → Boxed wr b t u := fun b t u hx h1 h2 => by
    refine Boxed.kept (Boxed.kept (W' := w4.setCell ⟨s, 0, none⟩ v2) ((hb.block b (by omega)).trans hx) g5 (by intro e; injection e; omega)) hg ?_
    intro e
    have := hob b e.symm
    omega
  have blk : ∀ b, b < W.heap.size → b ≠ s → b ≠ s + 1 → ob ≠ some b → (wr.setCell ⟨s + 1, 0, none⟩ (.int .i64 ((k : Int) + 1))).heap[b]? = W.heap[b]? := fun b h1 h2 h3 h4 => by
    have q1 := hb.block b h1
    have q2 := g5.block b (by omega) (by intro e; injection e; omega)
    have q3 := hg.block b (by simp; omega) (fun e => h4 e.symm)
    have q4 := g6.block b (by have := hg.size; simp at this; omega) (by intro e; injection e; omega)
    exact q4.trans (q3.trans (q2.trans q1))
  have hrw : v2.ownBlock = none ∨ ∃ g, v2.ownBlock = some g ∧ W.heap.size ≤ g := by
    rcases ho.2 with ⟨rfl, _⟩ | ⟨g, cap, cur, rfl, hb, _⟩
    · exact .inl rfl
    · exact .inr ⟨g, rfl, hb⟩
  have far : ∀ r : Option Nat, (∀ j, r = some j → j < W.heap.size) → v2.ownBlock = none ∨ v2.ownBlock ≠ r := fun r hr => by
    rcases hrw with e | ⟨g, e, hg2⟩
    · exact .inl e
    · refine .inr fun e2 => ?_
      have := hr g (e2 ▸ e)
      omega
  refine ⟨⟨(one _ _ _ h.bn (by omega) (by omega)).other (by omega) _, (one _ _ _ h.br (by omega) (by omega)).other (by omega) _, (one _ _ _ h.bk (by omega) (by omega)).set _, (one _ _ _ h.bm (by omega) (by omega)).other (by omega) _, ⟨v2, ?_, ?_⟩, ?_, hz⟩, ?_, fun r h1 h2 => blk r (by omega) (by omega) (by omega) (fun e => by have := hob r e; omega)⟩
  · obtain ⟨v, hv, _⟩ := h.row
    have hv4 : Boxed w4 s 26 v := (hb.block s (by omega)).trans hv
    exact ((hv4.set v2).kept hg (fun e => by have := hob s e.symm; omega)).other (by omega) _
  · have hm : w4.ownsRow (s + 3 + 3) 3 1 v2 li2.length (cellsI (ints li2)) := by
      refine ⟨ho.1, ?_⟩
      rcases ho.2 with h1 | ⟨g, cap, cur, e1, e2, e3⟩
      · exact .inl h1
      · exact .inr ⟨g, cap, cur, e1, by omega, e3⟩
    exact ((hm.kept g5 (far _ (fun j e => by injection e; omega))).kept hg (far _ (fun j e => (hob j e).2))).kept g6 (far _ (fun j e => by injection e; omega))
  · refine (((h.bel.trans (hb.mono (by omega))).setCell (by show B ≤ s; omega) _).grown hg (by simp; omega) (fun j e => by have := hob j e; omega)).setCell (by show B ≤ s + 1; omega) _
  · have := hg.size; simp at this ⊢; omega
theorem owns_shapeP {W : World} {base e size n : Nat} {v : Value} {xs : List Value} (h : W.ownsRow base e size v n xs) : ∃ oa cap, v = .slice oa n cap := by
  rcases h.2 with ⟨rfl, rfl⟩ | ⟨g, cap, cur, rfl, _⟩
  · exact ⟨_, _, rfl⟩
  · exact ⟨_, _, rfl⟩
theorem owns_shapeQ {W : World} {base e size n : Nat} {v : Value} {xs : List Value} (h : W.ownsRow base e size v n xs) : ∃ oa m cap, v = .slice oa m cap := by
  obtain ⟨oa, cap, e⟩ := owns_shapeP h
  exact ⟨_, _, _, e⟩
def lastOf (pre : List (Value × List Nat)) : List Nat := match pre.getLast? with | some y => y.2 | none => []
set_option maxRecDepth 100000 in
set_option maxHeartbeats 4000000 in
theorem partAll_walk (z stop : Int) (fit : Prop) (m tot most : Nat) (hfit : fit → m ≤ 25 ∧ z = m ∧ tot = ways m 0) (hmost : (0 ≤ stop ∧ stop < 1000 ∧ stop = (most : Int)) ∨ (¬ (0 ≤ stop ∧ stop < 1000) ∧ most = 1000)) (htot : tot ≤ 4638590332229999353)
    (hseq : ∀ (w : World) (Bn : Nat), Bn < w.heap.size → w.cell? ⟨Bn, 0, none⟩ = some (.int .i64 z) → SeqP 8 Try.prog 17 #[.pointer (some ⟨Bn, 0, none⟩)] (fun x : Value × List Nat => #[x.1]) (fun pre g V0 V x => fit ∧ HxP m pre g V0 V x) (fun xs => xs.length = tot) (fun _ => True) w)
    (ez : Int) (hez : ez = 0 ∨ (ez = 1 ∧ tot = 0)) (hbell : ∀ w : World, Calls Try.prog 10 #[.int .i64 z] w fun e w' => e = .returned (.tuple #[.int .u64 (tot : Int), .int .i64 ez]) ∧ Below w.heap.size w w') (w : World) :
    CallsIn Fence.wide 9 Try.prog 3 #[.int .i64 z, .int .i64 stop] w fun e w' => e = .returned (.bool true) ∧ Below w.heap.size w w' := by
  have hnil := eql_fnA
  have hseq' := hide' hseq
  have hbell' := hide' hbell
  have hez' := hide' hez
  have hfit' := hide' hfit
  clear hseq hbell hfit hez
  refine callsIn_of_wp_marks Try.func3 rfl trivial (wpIn_wide.2 ?_) rfl
  simp only [Try.ntmps3, List.size_toArray, List.length_cons, List.length_nil, Nat.reduceAdd, Nat.reduceSub, Array.replicate_succ, Array.replicate_zero, List.push_toArray, List.append_toArray, List.nil_append, List.cons_append]
  have hmost' := hide' hmost
  clear hmost
  go_upto_region 7 with (first | (go_at_call 5; refine (allFn _ _).mono ?_; rintro e w' ⟨rfl, rfl⟩) | (go_at_call 6; refine (wakes _).mono ?_; rintro e w1 ⟨rfl, hb1⟩))
  have x0 : Boxed w1 w.heap.size 3 (.int .i64 z) := (hb1.block _ (by simp; omega)).trans (((Boxed.new w 3 (.int .i64 z)).alloc _).alloc _)
  have x1 : Boxed w1 (w.heap.size + 1) 4 (.bool false) := by
    have h := (Boxed.new (w.alloc (.cells #[.int .i64 z] 3)) 4 (.bool false)).alloc (.cells #[.int .i64 z] 3)
    rw [World.size_alloc] at h
    exact (hb1.block _ (by simp)).trans h
  have x2 : w1.cell? ⟨w.heap.size + 2, 0, none⟩ = some (.int .i64 z) := by
    have h := Boxed.new ((w.alloc (.cells #[.int .i64 z] 3)).alloc (.cells #[.bool false] 4)) 3 (.int .i64 z)
    simp only [World.size_alloc] at h
    exact (hb1.cell (p := ⟨w.heap.size + 2, 0, none⟩) (by simp)).trans h.cell
  have b1 : Below w.heap.size w w1 := ((((Below.refl _ w).alloc (Nat.le_refl _) _).alloc (by simp) _).alloc (by simp; omega) _).trans (hb1.mono (by simp; omega))
  have s1 : w.heap.size + 2 < w1.heap.size := by have := hb1.size; simp at this; omega
  have hPI := PI.start x0 x1 b1 s1
  go_cut [26] from 21 to 26 (fun s wx => s = .bool (decide (0 ≤ stop ∧ stop < 1000)) ∧ PI w.heap.size w1.heap.size 1000 0 z [] w wx ∧ wx.heap.size = w1.heap.size + 3 ∧ wx.cell? ⟨w.heap.size + 2, 0, none⟩ = some (.int .i64 z))
  case first =>
    as_aux_lemma =>
    have hc0 : (((w1.alloc (.cells #[.slice none 0 0] 26)).alloc (.cells #[.int .i64 0] 3)).alloc (.cells #[.int .i64 1000] 3)).cell? ⟨w.heap.size + 2, 0, none⟩ = some (.int .i64 z) :=
      (((((Below.refl w1.heap.size w1).alloc (Nat.le_refl _) _).alloc (by simp) _).alloc (by simp; omega) _).cell (p := ⟨w.heap.size + 2, 0, none⟩) s1).trans x2
    have hz0 : (((w1.alloc (.cells #[.slice none 0 0] 26)).alloc (.cells #[.int .i64 0] 3)).alloc (.cells #[.int .i64 1000] 3)).heap.size = w1.heap.size + 3 := by simp
    have hPI' := hide' hPI
    have hc0' := hide' hc0
    have hz0' := hide' hz0
    clear hPI hc0 hz0 x0 x1 x2
    by_cases h0 : 0 ≤ stop
    · have hd : decide (0 ≤ stop ∧ stop < 1000) = decide (stop < 1000) := by simp [h0]
      go_wp2
      go_meet
      exact ⟨by rw [hd], hPI'.out, hz0'.out, hc0'.out⟩
    · have hd : decide (0 ≤ stop ∧ stop < 1000) = false := by simp [h0]
      go_wp2
      go_meet
      exact ⟨by rw [hd], hPI'.out, hz0'.out, hc0'.out⟩
  case rest =>
  as_aux_lemma =>
  clear hPI x0 x1 x2 hb1
  obtain ⟨rfl, hP0, hsz0, hc0⟩ := hcut
  have f8 := hP0.bm.frozen
  have c8 := hP0.bm.cell
  go_upto_if 26 with fail
  go_cut [] from 26 to 27 (fun wx => PI w.heap.size w1.heap.size most 0 z [] w wx ∧ wx.heap.size = w1.heap.size + 3 ∧ wx.cell? ⟨w.heap.size + 2, 0, none⟩ = some (.int .i64 z))
  case first =>
    as_aux_lemma =>
    have hP0' := hide' hP0
    rcases hmost'.out with ⟨h1, h2, rfl⟩ | ⟨h1, rfl⟩
    · have hd : decide (0 ≤ (most : Int) ∧ (most : Int) < 1000) = true := by simp; omega
      have hsz0' := hide' hsz0
      have hc0' := hide' hc0
      clear hP0 hsz0 hc0
      rw [hd]
      go_wp2
      go_meet
      refine ⟨hP0'.out.most most, by simp; exact hsz0'.out, ?_⟩
      exact ((Below.refl w1.heap.size wc).setCell (p := ⟨w1.heap.size + 2, 0, none⟩) (by show w1.heap.size ≤ w1.heap.size + 2; omega) (.int .i64 (most : Int))).cell (p := ⟨w.heap.size + 2, 0, none⟩) s1 |>.trans hc0'.out
    · have hd : decide (0 ≤ stop ∧ stop < 1000) = false := by simpa using h1
      have hsz0' := hide' hsz0
      have hc0' := hide' hc0
      clear hP0 hsz0 hc0
      rw [hd]
      go_wp2
      go_meet
      exact ⟨hP0'.out, hsz0'.out, hc0'.out⟩
  case rest =>
  as_aux_lemma =>
  clear hP0 hsz0 hc0 f8 c8
  obtain ⟨hP, hsz, hc⟩ := hcut
  have hwl : w.heap.size + 2 < wc.heap.size := by omega
  have hsq := hide' (hseq'.out wc (w.heap.size + 2) hwl hc)
  go_wp2
  refine (wpIn_wide (n := 9)).1 ?_
  refine rangeP (gf := 17) (lb := #[.pointer (some ⟨w.heap.size + 2, 0, none⟩)]) rfl (enters_of Try.func17 (by kernel_rfl) rfl) hsq.out (fun _ => rfl) (fun pre x V0 V h => h.2.1)
    (fun pre W => PI w.heap.size w1.heap.size most pre.length z (lastOf pre) w W ∧ pre.length ≤ most)
    (fun c xs W => c = .exit 0 ∧ PI w.heap.size w1.heap.size most most z (lastOf xs.dropLast) w W ∧ most < tot)
    (fun s X Y r h1 h2 h hg => ⟨h.1.grown (by omega) (by omega) hg, h.2⟩)
    (fun c s X Y r h1 h2 h hg => ⟨h.1, h.2.1.grown (by omega) (by omega) hg, h.2.2⟩)
    ⟨hP, Nat.zero_le _⟩ ?a1 ?assign ?body ?done ?stop
  case assign =>
    intro l x W K hK
    gi_wp2
    exact hK
  case body =>
    rintro l pre ⟨v, li⟩ V0 V W ⟨hI0, hk0⟩ ⟨hf, ⟨hs0, hgV⟩, hrow, hlen, hleg, hrk, hlast⟩ hgW
    obtain ⟨hm25, rfl, htw⟩ := hfit'.out hf
    simp only at hrow hlen hleg hrk hlast
    have hIW := (hI0.grown (by omega) (by omega) hgV).grown (by omega) (by omega) hgW
    have hsV : V0.heap.size ≤ W.heap.size := Nat.le_trans hgV.size hgW.size
    have hblk : v.ownBlock = none ∨ ∃ g, v.ownBlock = some g ∧ V0.heap.size ≤ g := by
      rcases hrow.2 with ⟨rfl, _⟩ | ⟨g, cap, cur, rfl, hb, _⟩
      · exact .inl rfl
      · exact .inr ⟨g, rfl, hb⟩
    have hrowW := hrow.kept hgW (by
      rcases hblk with e | ⟨g, e, hg2⟩
      · exact .inl e
      · refine .inr ?_
        rw [e]
        intro e2
        injection e2
        omega)
    have hsW : w1.heap.size + 3 + 3 ≤ W.heap.size := by omega
    have hlt := rk_lt hleg
    rw [hlen, hrk] at hlt
    have hRI := RowI.of_owns hrowW
    have KL := hide' (legalT li v W hRI (by omega) hleg)
    have KF : Hid (∀ W', Below W.heap.size W W' → Calls Try.prog 9 #[v, .int .i64 25] W' fun e w' => ∃ v', e = .returned v' ∧ w'.ownsRow W.heap.size 3 1 v' li.length (cellsI (ints li)) ∧ Below W.heap.size W w') := fun W' hW' => by
      refine (fewO (ints li) v 25 W' (hRI.below hW' (Nat.le_refl _)) (by omega)).mono fun e w' ⟨v', h1, h2, h3⟩ => ⟨v', h1, ?_, hW'.trans (h3.mono hW'.size)⟩
      rw [List.take_of_length_le (by rw [ints_len]; omega), ints_len] at h2
      refine ⟨h2.1, ?_⟩
      rcases h2.2 with h4 | ⟨g, cap, cur, e1, e2, e3⟩
      · exact .inl h4
      · exact .inr ⟨g, cap, cur, e1, Nat.le_trans hW'.size e2, e3⟩
    obtain ⟨vl, hvl, hrl⟩ := hIW.row
    have hLT : Hid (pre ≠ [] → Calls Try.prog 8 #[vl, v] W fun e w' => e = .returned (.bool true) ∧ Below W.heap.size W w') := fun hne => by
      obtain ⟨y, hy⟩ : ∃ y, pre.getLast? = some y := by
        cases e : pre.getLast? with
        | none => exact absurd (List.getLast?_eq_none_iff.1 e) hne
        | some y => exact ⟨y, rfl⟩
      obtain ⟨p, u, t, e1, e2⟩ := hlast y hy
      have hl2 : lastOf pre = p ++ u :: t := by unfold lastOf; rw [hy]; exact e1
      have hR1 := RowI.of_owns hrl
      rw [hl2] at hR1
      rw [e2] at hRI hlen
      exact laterT p t (List.replicate t.length 0) u (u + 1) (by omega) vl v W hR1 hRI (by rw [List.length_append] at hlen; omega)
    rw [hlen] at hrowW
    obtain ⟨oa, cap, rfl⟩ := owns_shapeP hrowW
    obtain ⟨ol, nl, cl, rfl⟩ := owns_shapeQ hrl
    have cn := hIW.bn.cell
    have ck := hIW.bk.cell
    have cm := hIW.bm.cell
    have cl' := hvl.cell
    have fl := hvl.frozen
    have hIW' := hide' hIW
    have hrowW' := hide' hrowW
    have hlen' := hide' hlen
    have htw' := hide' htw
    have hlt' := hide' hlt
    have hblk' := hide' hblk
    clear hrow hrk hlast hleg hRI hrl hIW hrowW hI0 hlen htw hlt hblk hgV hgW
    by_cases hkm : pre.length = most
    · clear KL KF hLT
      have hpl := hide' hkm
      generalize hkk : pre.length = k at *
      subst hkm
      gi_wp2
      exact ⟨Nat.le_refl _, fun _ _ _ => rfl, rfl, by rw [List.dropLast_concat]; exact hIW'.out, by rw [htw'.out]; exact hlt'.out⟩
    · have hkl : pre.length < most := by omega
      have hlo : lastOf (pre ++ [(Value.slice oa m cap, li)]) = li := by unfold lastOf; rw [List.getLast?_concat]
      have hlo' := hide' hlo
      have hm1 : most ≤ 1000 := by rcases hmost'.out with h | h <;> omega
      have hob : Hid (∀ j, (Value.slice oa m cap).ownBlock = some j → w1.heap.size + 3 + 3 ≤ j ∧ j < W.heap.size) := fun j ej => by
        refine ⟨?_, ?_⟩
        · rcases hblk'.out with e | ⟨g, e, hg2⟩
          · rw [e] at ej; cases ej
          · rw [e] at ej; injection ej; omega
        · rcases hrowW'.out.2 with ⟨h, _⟩ | ⟨g', cap', cur, e1, e2, e3, e4⟩
          · rw [h] at ej; cases ej
          · rw [e1] at ej; cases ej; exact (Array.getElem?_eq_some_iff.1 e3).1
      have hpl : Hid ((pre ++ [(Value.slice oa m cap, li)]).length = pre.length + 1) := by show _ = _; simp
      clear hlo
      have hvl' : Hid (Boxed W w1.heap.size 26 (.slice ol nl cl)) := hvl
      clear hvl
      by_cases hk : pre = []
      · have h0 : pre.length ≤ 0 := by rw [hk]; exact Nat.le_refl _
        clear hLT
        generalize pre.length = k at *
        gi_wp2_with (first | (refine ⟨trivial, ?_⟩; gi_at_call 7; refine (CallsIn.inRound l (callsIn_wide.2 KL.out)).mono ?_; rintro e wa ⟨rfl, rfl⟩))
        refine ⟨trivial, ?_⟩
        gi_wp2_with (first | (refine ⟨trivial, ?_⟩; gi_at_call 9; refine (CallsIn.inRound l (callsIn_wide.2 (KF.out _ (Below.refl _ _)))).mono ?_; rintro e w4 ⟨v2, rfl, hown4, hb4⟩; have bl4 : Boxed w4 w1.heap.size 26 (.slice ol nl cl) := (hb4.block w1.heap.size (by omega)).trans hvl'.out; have cl4 := bl4.cell; have fl4 := bl4.frozen; obtain ⟨o2, n2, c2, rfl⟩ := owns_shapeQ hown4))
        have hr5 : Hid ((w4.setCell ⟨w1.heap.size, 0, none⟩ (.slice o2 n2 c2)).ownsRow V0.heap.size 3 1 (.slice oa m cap) m (cellsI (ints li))) := (own_below hrowW'.out hb4 (Nat.le_refl _)).kept (grownBy_setCell' w4 w1.heap.size _) (by
          cases e : (Value.slice oa m cap).ownBlock with
          | none => exact .inl rfl
          | some j => exact .inr fun e2 => by injection e2; have := hob.out j e; omega)
        have hown4' := hide' hown4
        clear hown4 KL KF cl4 fl4 bl4
        gi_loopw [10] (fun i wr => ∃ (c : Nat) (ys : List Value), c ≤ m ∧ i = .int .i64 c ∧ wr.ownsRow V0.heap.size 3 1 (.slice oa m cap) m ys ∧ (w4.setCell ⟨w1.heap.size, 0, none⟩ (.slice o2 n2 c2)).grownBy wr (Value.slice oa m cap).ownBlock) (fun i _ => ((m : Int) - intOf i).toNat)
        case atStart => exact ⟨0, _, Nat.zero_le _, rfl, hr5.out, World.grownBy.refl _ _⟩
        case round =>
          obtain ⟨c, ys, hc5, rfl, hown5, hgr5⟩ := hrel
          by_cases hlt5 : c < m
          · obtain ⟨g, rfl⟩ : ∃ g, oa = some ⟨g, 0, none⟩ := by
              rcases hown5.2 with ⟨h, _⟩ | ⟨g', cap', cur, e1, e2, e3, e4⟩
              · cases h; omega
              · cases e1; exact ⟨_, rfl⟩
            have hyl : ys.length = m := by have := hown5.1; omega
            obtain ⟨y, hy⟩ : ∃ y, ys[c]? = some y := ⟨_, List.getElem?_eq_getElem (by omega)⟩
            have cy : wr.cell? ⟨g, c, none⟩ = some y := by rw [hown5.cellAt c (by omega)]; exact hy
            have fy := hown5.frozenAt c
            have hst := hown5.stored c (.int .i64 77)
            have hst' := hide' hst
            have hgr5' := hide' hgr5
            clear hown5 hst hgr5 hy
            gi_wp2
            go_roundw
            case rel => exact ⟨c + 1, _, by omega, by go_num, hst'.out.1, hgr5'.out.trans hst'.out.2⟩
            case measure => simp [intOf]; omega
          · obtain rfl : c = m := by omega
            have bk5 : Boxed wr (w1.heap.size + 1) 3 (.int .i64 (k : Int)) := Boxed.kept (Boxed.other ((hb4.block (w1.heap.size + 1) (by omega)).trans hIW'.out.bk) (by omega) _) hgr5 (fun e => by have := hob.out _ e.symm; omega)
            have ck5 := bk5.cell
            have fk5 := bk5.frozen
            have hfin := hide' (hIW'.out.step hb4 hsW hown4'.out hgr5 hob.out)
            clear bk5 hgr5 hown5
            gi_wp2
            refine ⟨hfin.out.2.1, fun r h1 h2 => hfin.out.2.2 r (by omega) (by omega), ?_, ?_⟩
            · rw [hpl.out, hlo'.out]; exact hfin.out.1
            · rw [hpl.out]; omega
      · have h0 : 0 < pre.length := List.length_pos_iff.2 hk
        have KT := hide' (hLT.out hk)
        clear hLT
        generalize pre.length = k at *
        gi_wp2_with (first | (refine ⟨trivial, ?_⟩; gi_at_call 7; refine (CallsIn.inRound l (callsIn_wide.2 KL.out)).mono ?_; rintro e wa ⟨rfl, rfl⟩) | (refine ⟨trivial, ?_⟩; gi_at_call 8; refine (CallsIn.inRound l (callsIn_wide.2 KT.out)).mono ?_; rintro e wb ⟨rfl, hbb⟩) | (refine ⟨trivial, ?_⟩; gi_at_call 9; refine (CallsIn.inRound l (callsIn_wide.2 (KF.out _ hbb))).mono ?_; rintro e w4 ⟨v2, rfl, hown4, hb4⟩; have bl4 : Boxed w4 w1.heap.size 26 (.slice ol nl cl) := (hb4.block w1.heap.size (by omega)).trans hvl'.out; have cl4 := bl4.cell; have fl4 := bl4.frozen; obtain ⟨o2, n2, c2, rfl⟩ := owns_shapeQ hown4))
        have hr5 : Hid ((w4.setCell ⟨w1.heap.size, 0, none⟩ (.slice o2 n2 c2)).ownsRow V0.heap.size 3 1 (.slice oa m cap) m (cellsI (ints li))) := (own_below hrowW'.out hb4 (Nat.le_refl _)).kept (grownBy_setCell' w4 w1.heap.size _) (by
          cases e : (Value.slice oa m cap).ownBlock with
          | none => exact .inl rfl
          | some j => exact .inr fun e2 => by injection e2; have := hob.out j e; omega)
        have hown4' := hide' hown4
        clear hown4 KL KF cl4 fl4 bl4
        gi_loopw [10] (fun i wr => ∃ (c : Nat) (ys : List Value), c ≤ m ∧ i = .int .i64 c ∧ wr.ownsRow V0.heap.size 3 1 (.slice oa m cap) m ys ∧ (w4.setCell ⟨w1.heap.size, 0, none⟩ (.slice o2 n2 c2)).grownBy wr (Value.slice oa m cap).ownBlock) (fun i _ => ((m : Int) - intOf i).toNat)
        case atStart => exact ⟨0, _, Nat.zero_le _, rfl, hr5.out, World.grownBy.refl _ _⟩
        case round =>
          obtain ⟨c, ys, hc5, rfl, hown5, hgr5⟩ := hrel
          by_cases hlt5 : c < m
          · obtain ⟨g, rfl⟩ : ∃ g, oa = some ⟨g, 0, none⟩ := by
              rcases hown5.2 with ⟨h, _⟩ | ⟨g', cap', cur, e1, e2, e3, e4⟩
              · cases h; omega
              · cases e1; exact ⟨_, rfl⟩
            have hyl : ys.length = m := by have := hown5.1; omega
            obtain ⟨y, hy⟩ : ∃ y, ys[c]? = some y := ⟨_, List.getElem?_eq_getElem (by omega)⟩
            have cy : wr.cell? ⟨g, c, none⟩ = some y := by rw [hown5.cellAt c (by omega)]; exact hy
            have fy := hown5.frozenAt c
            have hst := hown5.stored c (.int .i64 77)
            have hst' := hide' hst
            have hgr5' := hide' hgr5
            clear hown5 hst hgr5 hy
            gi_wp2
            go_roundw
            case rel => exact ⟨c + 1, _, by omega, by go_num, hst'.out.1, hgr5'.out.trans hst'.out.2⟩
            case measure => simp [intOf]; omega
          · obtain rfl : c = m := by omega
            have bk5 : Boxed wr (w1.heap.size + 1) 3 (.int .i64 (k : Int)) := Boxed.kept (Boxed.other ((hb4.block (w1.heap.size + 1) (by omega)).trans hIW'.out.bk) (by omega) _) hgr5 (fun e => by have := hob.out _ e.symm; omega)
            have ck5 := bk5.cell
            have fk5 := bk5.frozen
            have hfin := hide' (hIW'.out.step hb4 hsW hown4'.out hgr5 hob.out)
            clear bk5 hgr5 hown5
            gi_wp2
            refine ⟨hfin.out.2.1, fun r h1 h2 => hfin.out.2.2 r (by omega) (by omega), ?_, ?_⟩
            · rw [hpl.out, hlo'.out]; exact hfin.out.1
            · rw [hpl.out]; omega
  case done =>
    rintro D xs W hD hS ⟨hI, hle⟩ hK
    have hm1 : most ≤ 1000 := by rcases hmost'.out with h | h <;> omega
    have hl := hI.lt
    have cn := hI.bn.cell
    have hI' := hide' hI
    rw [hS] at hI' hle
    clear hI hP hc hsq hseq' hS hmost' hfit'
    rcases hez'.out with rfl | ⟨rfl, rfl⟩
    · clear hez'
      go_wp2_with (go_at_call 10; refine (hbell'.out _).mono ?_; rintro e w2 ⟨rfl, hb2⟩; have bk2 : Boxed w2 (w1.heap.size + 1) 3 _ := (hb2.block _ (by omega)).trans hI'.out.bk; have bm2 : Boxed w2 (w1.heap.size + 2) 3 _ := (hb2.block _ (by omega)).trans hI'.out.bm; have br2 : Boxed w2 (w.heap.size + 1) 4 _ := (hb2.block _ (by omega)).trans hI'.out.br; have ck2 := bk2.cell; have cm2 := bm2.cell; have cr2 := br2.cell; have fr2 := br2.frozen)
      have hK2 := (hb2.block D (Array.getElem?_eq_some_iff.1 hK).1).trans hK
      have hK3 := (KeepsOthers.setCell w2 ⟨w.heap.size + 1, 0, none⟩ (.bool true)).same D _ hK2 rfl
      have bE2 := (br2.set (.bool true)).kept (grownBy_putObj' _ D (.deferred none)) (by intro e; injection e; omega)
      have cE := bE2.cell
      refine ⟨by simp, .inl ⟨_, _, rfl, run_takeDeferred hK3, ?_⟩⟩
      refine ⟨.bool true, by simp [results, Try.results3, go_sem, cE], rfl, ?_⟩
      exact ((hI'.out.bel.trans (hb2.mono (by omega))).setCell (p := ⟨w.heap.size + 1, 0, none⟩) (by show w.heap.size ≤ w.heap.size + 1; omega) _).trans (belowK_b (w := w) (Nat.le_refl _) _ D _ _ (by omega) hK3 rfl rfl)
    · go_wp2_with (go_at_call 10; refine (hbell'.out _).mono ?_; rintro e w2 ⟨rfl, hb2⟩; have bk2 : Boxed w2 (w1.heap.size + 1) 3 _ := (hb2.block _ (by omega)).trans hI'.out.bk; have bm2 : Boxed w2 (w1.heap.size + 2) 3 _ := (hb2.block _ (by omega)).trans hI'.out.bm; have br2 : Boxed w2 (w.heap.size + 1) 4 _ := (hb2.block _ (by omega)).trans hI'.out.br; have ck2 := bk2.cell; have cm2 := bm2.cell; have cr2 := br2.cell; have fr2 := br2.frozen)
      have hK2 := (hb2.block D (Array.getElem?_eq_some_iff.1 hK).1).trans hK
      have hK3 := (KeepsOthers.setCell w2 ⟨w.heap.size + 1, 0, none⟩ (.bool true)).same D _ hK2 rfl
      have bE2 := (br2.set (.bool true)).kept (grownBy_putObj' _ D (.deferred none)) (by intro e; injection e; omega)
      have cE := bE2.cell
      refine ⟨by simp, .inl ⟨_, _, rfl, run_takeDeferred hK3, ?_⟩⟩
      refine ⟨.bool true, by simp [results, Try.results3, go_sem, cE], rfl, ?_⟩
      exact ((hI'.out.bel.trans (hb2.mono (by omega))).setCell (p := ⟨w.heap.size + 1, 0, none⟩) (by show w.heap.size ≤ w.heap.size + 1; omega) _).trans (belowK_b (w := w) (Nat.le_refl _) _ D _ _ (by omega) hK3 rfl rfl)
  case stop =>
    rintro D c pre W hD hp ⟨rfl, hI, hlt⟩ hK
    have hm1 : most ≤ 1000 := by rcases hmost'.out with h | h <;> omega
    have hl := hI.lt
    have cn := hI.bn.cell
    have hI' := hide' hI
    clear hI hP hc hsq hseq' hmost' hfit'
    rcases hez'.out with rfl | ⟨rfl, rfl⟩
    · refine (wpIn_wide (n := 9)).2 ?_
      go_wp2_with (go_at_call 10; refine (hbell'.out _).mono ?_; rintro e w2 ⟨rfl, hb2⟩; have bk2 : Boxed w2 (w1.heap.size + 1) 3 _ := (hb2.block _ (by omega)).trans hI'.out.bk; have bm2 : Boxed w2 (w1.heap.size + 2) 3 _ := (hb2.block _ (by omega)).trans hI'.out.bm; have br2 : Boxed w2 (w.heap.size + 1) 4 _ := (hb2.block _ (by omega)).trans hI'.out.br; have ck2 := bk2.cell; have cm2 := bm2.cell; have cr2 := br2.cell; have fr2 := br2.frozen)
      have hK2 := (hb2.block D (Array.getElem?_eq_some_iff.1 hK).1).trans hK
      have hK3 := (KeepsOthers.setCell w2 ⟨w.heap.size + 1, 0, none⟩ (.bool true)).same D _ hK2 rfl
      have bE2 := (br2.set (.bool true)).kept (grownBy_putObj' _ D (.deferred none)) (by intro e; injection e; omega)
      have cE := bE2.cell
      refine ⟨by simp, .inl ⟨_, _, rfl, run_takeDeferred hK3, ?_⟩⟩
      refine ⟨.bool true, by simp [results, Try.results3, go_sem, cE], rfl, ?_⟩
      exact ((hI'.out.bel.trans (hb2.mono (by omega))).setCell (p := ⟨w.heap.size + 1, 0, none⟩) (by show w.heap.size ≤ w.heap.size + 1; omega) _).trans (belowK_b (w := w) (Nat.le_refl _) _ D _ _ (by omega) hK3 rfl rfl)
    · omega
end Go.Proofs.Ytdfkonbkdbhgkaa
