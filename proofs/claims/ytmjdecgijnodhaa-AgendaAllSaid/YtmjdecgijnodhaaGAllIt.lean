/- Agenda.All: the iterator tells the entries in order, whatever a round does with the agenda. -/
import Derived.Test.YtmjdecgijnodhaaGSort0
import Derived.Test.YtmjdecgijnodhaaGAllE
import Derived.Test.YtmjdecgijnodhaaGClone
import Derived.Test.YtmjdecgijnodhaaGSeqR
import Derived.Test.YtmjdecgijnodhaaGTie
namespace Go.Proofs.Ytmjdecgijnodhaa
open Go.RowKit Go.Shelf
attribute [local go_sem] Oper.semAt_some
/-- No entry turns but for its place. -/
def Ek (V V' : World) : Prop := ∀ p e k, EntAt V p e k → ∃ k', EntAt V' p e k'
theorem Ek.trans (X Y Z : World) (h : Ek X Y) (k : Ek Y Z) : Ek X Z := fun p e j x => by
  obtain ⟨j', x'⟩ := h p e j x
  exact k p e j' x'
theorem Ek.put (W : World) (l : Nat) (o o' : Obj) (h : W.heap[l]? = some o) (ho : o.isCells = false) : Ek W (W.putObj l o') := fun p e k x =>
  ⟨k, (World.putObj_heap_other (by intro e'; subst e'; rw [x] at h; cases h; cases ho)).trans x⟩
def encE (x : Ent) : Array Value := #[.int .i64 x.id, .int .i64 x.tm]
set_option maxHeartbeats 1000000 in
theorem allF (a : Nat) (w : World) :
    Calls Try.prog 6 #[.pointer (some ⟨a, 0, none⟩)] w fun e w' => e = .returned (.func (.func 21) #[] #[.pointer (some ⟨w.heap.size, 0, none⟩)]) ∧ w' = w.alloc (.cells #[.pointer (some ⟨a, 0, none⟩)] 23) := by
  go_enter Try.func6, Try.ntmps6
  go_wp2
  go_ret
  exact ⟨rfl, rfl⟩
/-- A sorted row of pointers to entries. -/
def Srt (V : World) (g : Nat) (L : List (Nat × Ent)) : Prop := ∀ k x, L[k]? = some x → V.cell? ⟨g, k, none⟩ = some (.pointer (some ⟨x.1, 0, none⟩)) ∧ ∃ j, EntAt V x.1 x.2 j
theorem Srt.ek {V V' : World} {g : Nat} {L : List (Nat × Ent)} (h : Srt V g L) (hk : Ek V V') (hg : V'.heap[g]? = V.heap[g]?) : Srt V' g L := fun k x hx => by
  obtain ⟨h1, j, h2⟩ := h k x hx
  exact ⟨(World.cell?_of_block hg).trans h1, hk _ _ _ h2⟩
theorem own_pos {W : World} {base : Nat} {e : TypeId} {size : Nat} {v : Value} {n : Nat} {xs : List Value} (h : W.ownsRow base e size v n xs) (hn : 0 < n) : ∃ g cap, v = .slice (some ⟨g, 0, none⟩) n cap ∧ base ≤ g := by
  rcases h.2 with ⟨_, h0⟩ | ⟨g, cap, cur, rfl, hb, _⟩
  · omega
  · exact ⟨g, cap, rfl, hb⟩
set_option maxRecDepth 100000 in
set_option maxHeartbeats 2000000 in
theorem allSeq {w : World} {a ab sets : Nat} {F : Nat → Prop} {M : List Ent} (n : Nat) (H : AgS w a F (fun x => x ∈ M) M.length sets) (hti : Ti M sets) (hc : w.cell? ⟨ab, 0, none⟩ = some (.pointer (some ⟨a, 0, none⟩))) :
    SeqG n Try.prog 21 #[.pointer (some ⟨ab, 0, none⟩)] encE Ek (allE M) w := fun l J Jx W hW hJd h0 hY => by
  replace hc := (hW.cell (p := ⟨ab, 0, none⟩) (cell_lt hc)).trans hc
  obtain ⟨h, rowv, mb, D, HA, hS, hF, hFl⟩ := H.below hW
  have hmx : Try.prog.follows Departure.mixedOrders = true := by kernel_rfl
  have hsm := HA.small
  have c0 := HA.box.c0
  have KC := hide' (cloneE W rowv M.length h HA.hp.row (by omega))
  obtain ⟨oa, cap, hrv⟩ : ∃ oa cap, rowv = .slice oa M.length cap := by
    rcases HA.hp.row.2 with ⟨rfl, h0⟩ | ⟨g, cap, cur, rfl, _⟩
    · exact ⟨none, 0, by rw [h0]⟩
    · exact ⟨_, _, rfl⟩
  subst hrv
  by_cases hm0 : M.length = 0
  · have hM0 : M = [] := List.length_eq_zero_iff.1 hm0
    subst hM0
    have hfin : Hid (∀ X, Below W.heap.size W X → (∃ T, W.heap.size ≤ T ∧ T ≤ X.heap.size ∧ J T [] X)) := fun X hX => ⟨_, hX.size, Nat.le_refl _, h0 X hX⟩
    clear HA hS hF hFl hY h0 hJd H hti hsm hW
    show CallsIn _ _ _ _ _ _ fun e W' => (∃ v, e = .returned v) ∧ ((∃ T, W.heap.size ≤ T ∧ T ≤ W'.heap.size ∧ J T [] W') ∨ _)
    refine (callsIn_wide (n := n)).2 ?_
    go_enter Try.func21, Try.ntmps21
    go_wp2_with (first | (go_at_call 22; refine KC.out.mono ?_; rintro e w1 ⟨v, rfl, hrow1, hb1⟩; obtain ⟨oa1, cap1, rfl⟩ := own_shapeG hrow1) | (go_at_call 23; refine (sort0 _ _ _).mono ?_; rintro e w2 ⟨rfl, rfl⟩))
    refine wp_loop_rounds 1 ?_
    rw [rounds_succ]
    go_wp2
    go_end0
    exact ⟨⟨_, rfl⟩, .inl (hfin.out _ hb1)⟩
  · have hm : 0 < M.length := by omega
    have hent := HA.hp.ent
    have hpM : ((List.range M.length).map fun k => (h k).2).Perm M := by
      refine (List.perm_ext_iff_of_nodup ?_ ?_).2 fun x => ?_
      · rw [List.nodup_iff_pairwise_ne, List.pairwise_map]
        refine (List.nodup_range (n := M.length)).imp_of_mem fun {k l} hk hl hne e => hne (HA.dist k l (List.mem_range.1 hk) (List.mem_range.1 hl) (by rw [e]))
      · rw [List.nodup_iff_pairwise_ne]
        exact hti.rise.imp fun {x y} hlt e => by subst e; omega
      · rw [List.mem_map]
        constructor
        · rintro ⟨k, hk, rfl⟩
          exact (hS _).2 ⟨k, List.mem_range.1 hk, rfl⟩
        · intro hx
          obtain ⟨k, hk, e⟩ := (hS x).1 hx
          exact ⟨k, List.mem_range.2 hk, e⟩
    have hall : Hid (∀ L : List (Nat × Ent), L.Perm ((List.range M.length).map h) → L.Pairwise (fun x y => ¬ ltE y.2 x.2) → L.map (·.2) = allE M) := fun L h1 h2 => by
      refine perm_allE hti (((h1.map (·.2)).trans ?_)) (List.pairwise_map.2 h2)
      rw [List.map_map]
      exact hpM
    have hinL : Hid (∀ L : List (Nat × Ent), L.Perm ((List.range M.length).map h) → ∀ k x, L[k]? = some x → ∃ j, j < M.length ∧ h j = x) := fun L h1 k x hx => by
      have := h1.mem_iff.1 (List.mem_of_getElem? hx)
      obtain ⟨j, hj, e⟩ := List.mem_map.1 this
      exact ⟨j, List.mem_range.1 hj, e⟩
    have hlenL : Hid (∀ L : List (Nat × Ent), L.Perm ((List.range M.length).map h) → L.length = M.length) := fun L h1 => by
      have := h1.length_eq
      simpa using this
    clear hpM hS hF hFl HA H hW
    generalize hmm : M.length = m at *
    clear hmm
    have KS : Hid (∀ (w1 : World) (g cap1 : Nat), Below W.heap.size W w1 → W.heap.size ≤ g → w1.ownsRow W.heap.size 57 1 (.slice (some ⟨g, 0, none⟩) m cap1) m (ptrs h m) →
        Calls Try.prog 23 #[.slice (some ⟨g, 0, none⟩) m cap1, .func (.func 24) #[] #[]] w1 fun e w' => e = .returned (.tuple #[]) ∧ ∃ L : List (Nat × Ent), L.map (·.2) = allE M ∧ L.length = m ∧ Srt w' g L ∧ Below W.heap.size W w' ∧ g < w'.heap.size) := fun w1 g cap1 hb1 hg hrow1 => by
      have hgl : g < w1.heap.size := (hrow1.lt g rfl).2
      refine (sortE w1 g m cap1 h hm (by omega) hgl (fun k hk => ⟨?_, hrow1.frozenAt k⟩) (fun k hk => ?_)).mono ?_
      · rw [hrow1.cellAt k (by omega)]
        simp [ptrs, hk]
      · have he := (hent k hk).same (hb1.block _ (hent k hk).lt)
        exact ⟨⟨he.c1, he.c2⟩, fun e => by have := (hent k hk).lt; omega⟩
      · rintro e w' ⟨rfl, L, h1, h2, h3, h4⟩
        have hBW : Below W.heap.size W w' := hb1.trans ⟨h4.os, h4.tape, h4.output, h4.size, fun k hk => h4.block k (Nat.lt_of_lt_of_le hk hb1.size) (by omega)⟩
        refine ⟨rfl, L, hall.out L h1 h2, hlenL.out L h1, fun k x hx => ⟨h3 k x hx, ?_⟩, hBW, Nat.lt_of_lt_of_le hgl h4.size⟩
        obtain ⟨j, hj, rfl⟩ := hinL.out L h1 k x hx
        exact ⟨j, (hent j hj).same (hBW.block _ (hent j hj).lt)⟩
    clear hall hinL hlenL hent
    refine callsIn_of_wp Try.func21 rfl trivial ?_ rfl
    simp only [Try.ntmps21, List.size_toArray, List.length_cons, List.length_nil, Nat.reduceAdd, Nat.reduceSub, Array.replicate_succ, Array.replicate_zero, List.push_toArray, List.append_toArray, List.nil_append, List.cons_append]
    gi_wp2_with (first | (refine ⟨trivial, fun h => absurd h (by decide), ?_⟩; gi_at_call 22; refine (callsIn_wide.2 KC.out).mono ?_; rintro e w1 ⟨v, rfl, hrow1, hb1⟩; obtain ⟨g, cap1, rfl, hgW⟩ := own_pos hrow1 hm; have KS1 := hide' (KS.out w1 g cap1 hb1 hgW hrow1)) | (refine ⟨trivial, fun h => absurd h (by decide), ?_⟩; gi_at_call 23; refine (callsIn_wide.2 KS1.out).mono ?_; rintro e w2 ⟨rfl, L, hL1, hL2, hSr, hBW, hg2⟩))
    have hJ0 := h0 w2 hBW
    clear KC KS KS1 h0 hrow1 hb1
    gi_loopw [15] (fun p wr => ∃ i : Nat, i ≤ m ∧ p = .int .i64 (i : Int) ∧ Hid (Srt wr g L) ∧ Hid (w2.heap.size ≤ wr.heap.size ∧ J w2.heap.size ((allE M).take i) wr)) (fun p _ => ((m : Int) - intOf p).toNat)
    case atStart => exact ⟨0, Nat.zero_le _, rfl, hSr, Nat.le_refl _, hJ0⟩
    case round =>
      obtain ⟨i, hi, rfl, hSrt, hJi⟩ := hrel
      by_cases hlt : i < m
      · obtain ⟨x, hx⟩ : ∃ x, L[i]? = some x := ⟨_, List.getElem?_eq_getElem (by omega)⟩
        obtain ⟨cg, je, hE⟩ := hSrt.out i x hx
        have hax : (allE M)[i]? = some x.2 := by rw [← hL1, List.getElem?_map, hx]; rfl
        have htk : Hid ((allE M).take (i + 1) = (allE M).take i ++ [x.2]) := by show _ = _; rw [List.take_add_one, hax]; rfl
        have hpre : (allE M).take i ++ [x.2] <+: allE M := by rw [← htk.out]; exact List.take_prefix _ _
        have HY : YieldAt Fence.wide (n - 1) Try.prog l (encE x.2) wr.drew fun e V' => ∃ b, e = .returned (.bool b) ∧ Hid ((b = true ∧ J w2.heap.size ((allE M).take i ++ [x.2]) V' ∧ Ek wr.drew V' ∧ w2.heap.size ≤ V'.heap.size ∧ ∀ k, W.heap.size ≤ k → k < w2.heap.size → V'.heap[k]? = wr.drew.heap[k]?) ∨ (b = false ∧ Jx ((allE M).take i ++ [x.2]) V')) := by
          refine YieldAt.mono (hY w2.heap.size ((allE M).take i) x.2 wr.drew hBW.size hJi.out.1 (hJd _ _ _ hJi.out.2) hpre) ?_
          rintro e V' (⟨rfl, q⟩ | ⟨rfl, q⟩)
          · exact ⟨true, rfl, .inl ⟨rfl, q⟩⟩
          · exact ⟨false, rfl, .inr ⟨rfl, q⟩⟩
        obtain ⟨fn, tmps, assign, body, hy, hR⟩ := HY
        have he0 := hE.c0
        have he1 := hE.c1
        rw [show encE x.2 = #[.int .i64 x.2.id, .int .i64 x.2.tm] from rfl] at hy
        have hgr : g < w2.heap.size := hg2
        have hpref := hide' hpre
        clear hpre hax hE hx
        generalize x.1 = xp at *
        generalize x.2.id = xi at *
        generalize x.2.tm = xt at *
        gi_wp2
        gi_region_with_o (first | (refine ⟨fun h => absurd h (by decide), hR.mono ?_⟩; rintro e V1 ⟨b, rfl, hq⟩))
        all_goals
          obtain ⟨rfl, q1, q2, q3, q4⟩ | ⟨rfl, q1⟩ := hq.out
          · gi_wp2
            exact ⟨⟨i + 1, by omega, by go_num, hSrt.out.ek q2 (q4 g hgW hgr), q3, by rw [htk.out]; exact q1⟩, by simp [intOf]; omega⟩
          · gi_wp2
            refine bodyPost_ret (results_none rfl _ _ _) rfl ?_
            exact ⟨⟨_, rfl⟩, .inr ⟨_, hpref.out, q1⟩⟩
      · obtain rfl : i = m := by omega
        have hlen : (allE M).take i = allE M := List.take_of_length_le (by rw [← hL1, List.length_map]; omega)
        rw [hlen] at hJi
        gi_wp2
        go_end0
        exact ⟨⟨_, rfl⟩, .inl ⟨_, hBW.size, hJi.out.1, hJi.out.2⟩⟩
end Go.Proofs.Ytmjdecgijnodhaa
