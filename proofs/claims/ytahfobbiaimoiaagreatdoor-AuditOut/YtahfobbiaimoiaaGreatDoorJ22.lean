/- New: an order, or why there is none. -/
import Derived.Test.YtahfobbiaimoiaaGreatDoorJ04
import Derived.Test.YtahfobbiaimoiaaGreatDoorJ06
import Derived.Deep.DeepCutAuto
import Derived.Deep.OwnRows
namespace Go.Proofs.YtahfobbiaimoiaaGreatDoor.O
open Go.RowKit Go.Shelf
attribute [local go_sem] Oper.semAt_some
theorem infoW : (Tryz.prog.info? 136).map (fun i => (i.zero, i.size, i.bytes)) = some (some (.agg #[.int .u64 0]), 1, 8) := by kernel_rfl
theorem info_of {P : Program} {t : TypeId} {z : Option Value} {s b : Nat} (h : (P.info? t).map (fun i => (i.zero, i.size, i.bytes)) = some (z, s, b)) : ∃ i, P.info? t = some i ∧ i.zero = z ∧ i.size = s ∧ i.bytes = b := by
  cases e : P.info? t with
  | none => rw [e] at h; cases h
  | some i => rw [e] at h; simp at h; exact ⟨i, rfl, h.1, h.2.1, h.2.2⟩
theorem makeW (m : Nat) (hm : m ≤ 64) (W : World) : (Instr.makeSlice 141 (.int .i64 (m : Int)) (.int .i64 (m : Int))).run Tryz.prog W = .ok (.slice (some ⟨W.heap.size, 0, none⟩) m m) (W.alloc (.cells (madeCells #[.int .u64 0] m) 136)) := by
  obtain ⟨i, hi, hz, hs, hb⟩ := info_of infoW
  have hr := run_make (P := Tryz.prog) W 141 136 i _ Tryz.underlying141 hi hz .i64 .i64 m m (by omega) (Int.le_refl _) (by rw [hb]; omega) (by omega)
  simp only [Int.toNat_natCast, hs, Nat.mul_one] at hr
  exact hr
/-- An order under way. -/
structure NewI (w : World) (g8 go gp gs n : Nat) (P S : Nat → Nat) (W : World) : Prop where
  b8 : Boxed W g8 104 (.pointer (some ⟨go, 0, none⟩))
  ob : W.heap[go]? = some (.cells #[.slice (some ⟨gp, 0, none⟩) n n, .slice (some ⟨gs, 0, none⟩) n n] 143 (0, 0))
  pr : W.ownsRow w.heap.size 136 1 (.slice (some ⟨gp, 0, none⟩) n n) n (words n P)
  sr : W.ownsRow w.heap.size 136 1 (.slice (some ⟨gs, 0, none⟩) n n) n (words n S)
  ne : gp ≠ gs ∧ go ≠ gp ∧ go ≠ gs ∧ g8 ≠ go ∧ g8 ≠ gp ∧ g8 ≠ gs
  ge : w.heap.size ≤ go ∧ w.heap.size ≤ g8 ∧ w.heap.size ≤ gp ∧ w.heap.size ≤ gs
  bl : Below w.heap.size w W
section
variable {w : World} {g8 go gp gs n : Nat} {P S S' P' : Nat → Nat} {W W' : World}
theorem NewI.over (h : NewI w g8 go gp gs n P S W) (hb : Below W.heap.size W W') : NewI w g8 go gp gs n P S W' :=
  ⟨bxb h.b8 hb h.b8.lt, (hb.block go (Array.getElem?_eq_some_iff.1 h.ob).1).trans h.ob, h.pr.kept (grown_below (none) hb) (.inr (by simp [Value.ownBlock])), h.sr.kept (grown_below (none) hb) (.inr (by simp [Value.ownBlock])), h.ne, h.ge, h.bl.trans (hb.mono h.bl.size)⟩
theorem NewI.c1 (h : NewI w g8 go gp gs n P S W) : W.cell? ⟨go, 1, none⟩ = some (.slice (some ⟨gs, 0, none⟩) n n) := by simp [World.cell?, h.ob]
theorem NewI.c0 (h : NewI w g8 go gp gs n P S W) : W.cell? ⟨go, 0, none⟩ = some (.slice (some ⟨gp, 0, none⟩) n n) := by simp [World.cell?, h.ob]
theorem NewI.sat (h : NewI w g8 go gp gs n P S W) {i : Nat} (hi : i < n) : W.cell? ⟨gs, i, none⟩ = some (.int .u64 (S i : Int)) := by rw [h.sr.cellAt i (by omega)]; exact words_at S hi
theorem NewI.pat (h : NewI w g8 go gp gs n P S W) {i : Nat} (hi : i < n) : W.cell? ⟨gp, i, none⟩ = some (.int .u64 (P i : Int)) := by rw [h.pr.cellAt i (by omega)]; exact words_at P hi
theorem NewI.congrS (h : NewI w g8 go gp gs n P S W) (e : ∀ i, i < n → S i = S' i) : NewI w g8 go gp gs n P S' W := ⟨h.b8, h.ob, h.pr, words_congr e ▸ h.sr, h.ne, h.ge, h.bl⟩
theorem NewI.congrP (h : NewI w g8 go gp gs n P S W) (e : ∀ i, i < n → P i = P' i) : NewI w g8 go gp gs n P' S W := ⟨h.b8, h.ob, words_congr e ▸ h.pr, h.sr, h.ne, h.ge, h.bl⟩
theorem NewI.setS (h : NewI w g8 go gp gs n P S W) {a v : Nat} (ha : S' a = v) (e : ∀ i, i < n → i ≠ a → S i = S' i) : NewI w g8 go gp gs n P S' (W.setCell ⟨gs, a, none⟩ (.int .u64 (v : Int))) := by
  obtain ⟨h1, h2⟩ := h.sr.stored a (.int .u64 (v : Int))
  obtain ⟨n1, n2, n3, n4, n5, n6⟩ := h.ne
  exact ⟨h.b8.kept h2 (by simpa using n6), (h2.block go (Array.getElem?_eq_some_iff.1 h.ob).1 (by simpa using n3)).trans h.ob, h.pr.kept h2 (.inr (by simpa [Value.ownBlock] using n1)), words_set ha e ▸ h1, h.ne, h.ge, h.bl.setCell (p := ⟨gs, a, none⟩) h.ge.2.2.2 _⟩
theorem NewI.setP (h : NewI w g8 go gp gs n P S W) {a v : Nat} (ha : P' a = v) (e : ∀ i, i < n → i ≠ a → P i = P' i) : NewI w g8 go gp gs n P' S (W.setCell ⟨gp, a, none⟩ (.int .u64 (v : Int))) := by
  obtain ⟨h1, h2⟩ := h.pr.stored a (.int .u64 (v : Int))
  obtain ⟨n1, n2, n3, n4, n5, n6⟩ := h.ne
  exact ⟨h.b8.kept h2 (by simpa using n5), (h2.block go (Array.getElem?_eq_some_iff.1 h.ob).1 (by simpa using n2)).trans h.ob, words_set ha e ▸ h1, h.sr.kept h2 (.inr (by simpa [Value.ownBlock] using n1.symm)), h.ne, h.ge, h.bl.setCell (p := ⟨gp, a, none⟩) h.ge.2.2.1 _⟩
theorem NewI.fol (h : NewI w g8 go gp gs n P S W) (hF : FolI W go gs n w.heap.size S' W') : NewI w g8 go gp gs n P S' W' := by
  obtain ⟨n1, n2, n3, n4, n5, n6⟩ := h.ne
  exact ⟨h.b8.kept hF.gr (by simpa using n6), (hF.gr.block go (Array.getElem?_eq_some_iff.1 h.ob).1 (by simpa using n3)).trans h.ob, h.pr.kept hF.gr (.inr (by simpa [Value.ownBlock] using n1)), hF.row, h.ne, h.ge, h.bl.grown hF.gr h.bl.size (fun j ej => by cases ej; exact h.ge.2.2.2)⟩
theorem NewI.shut (h : NewI w g8 go gp gs n P S W) (hs : ShutTo w.heap.size W W') : NewI w g8 go gp gs n P S W' := by
  have row : ∀ {g : Nat} {xs : List Value}, W.ownsRow w.heap.size 136 1 (.slice (some ⟨g, 0, none⟩) n n) n xs → W'.ownsRow w.heap.size 136 1 (.slice (some ⟨g, 0, none⟩) n n) n xs := fun {g xs} hr => by
    refine ⟨hr.1, ?_⟩
    rcases hr.2 with ⟨h', _⟩ | ⟨g', cap', cur, h', hb, hg, rest⟩
    · cases h'
    · exact .inr ⟨g', cap', cur, h', hb, hs.2 _ _ hg rfl, rest⟩
  exact ⟨hs.2 _ _ h.b8 rfl, hs.2 _ _ h.ob rfl, row h.pr, row h.sr, h.ne, h.ge, h.bl.trans hs.1⟩
theorem NewI.ord (h : NewI w g8 go gp gs n P S W) : OrdAt W go gp gs n P S := ⟨h.c0, h.c1, fun _ hi => h.pat hi, fun _ hi => h.sat hi⟩
theorem NewI.own {B : Nat} (hB : w.heap.size ≤ B) : OwnFrom B (fun (P : Nat → Nat) W => NewI w g8 go gp gs n P S W) := by
  intro P X Y row h hg hr
  have hk : ∀ (b : Nat) (o : Obj), X.heap[b]? = some o → o.isCells = true → Y.heap[b]? = some o := fun b o ho hc => by
    refine (hg.block b (Array.getElem?_eq_some_iff.1 ho).1 (fun e => ?_)).trans ho
    obtain ⟨_, o', ho', hc'⟩ := hr b e.symm
    rw [ho] at ho'; cases ho'; rw [hc] at hc'; cases hc'
  exact h.shut ⟨(Below.refl _ X).grown hg h.bl.size fun k e => Nat.le_trans hB (hr k e).1, hk⟩
end
theorem own_lt' {w : World} {B : Nat} {e : TypeId} {size : Nat} {g n cap m : Nat} {xs : List Value} {v : Value} (h : w.ownsRow B e size v m xs) (hv : v = .slice (some ⟨g, 0, none⟩) n cap) : g < w.heap.size := by
  subst hv
  rcases h.2 with ⟨h', _⟩ | ⟨g', cap', cur, h', _, hg, _⟩
  · cases h'
  · cases h'; exact (Array.getElem?_eq_some_iff.1 hg).1
theorem ord_of {n : Nat} {L : List (Int × Int)} {S : Nat → Nat} (hn : n ≤ 64) (hok : ∀ p ∈ L, okP n p) (hbit : ∀ a, a < n → ∀ b, (S a).testBit b = ordL n L a b) (hnc : ∀ a, a < n → (S a).testBit a = false) : Ord n (ordL n L) (prP S n) S where
  n64 := hn
  inn := ordL_in hok
  irr := fun a => by
    cases h : ordL n L a a with
    | false => rfl
    | true =>
      have ha := (ordL_in hok a a h).1
      rw [← hbit a ha, hnc a ha] at h
      cases h
  tr := fun a b c h1 h2 => clo_trans (relL L) n b (ordL_in hok a b h1).2 a c h1 h2
  suc := fun a ha b => hbit a ha b
  pre := fun b hb a => by
    rw [prP_bits]
    by_cases ha : a < n
    · rw [hbit a ha]; simp [ha]
    · cases h : ordL n L a b with
      | false => simp [ha]
      | true => exact absurd (ordL_in hok a b h).1 ha
theorem cell_far {V : World} {g i b j : Nat} {v u : Value} (h : V.cell? ⟨b, j, none⟩ = some u) (hne : b ≠ g) : (V.setCell ⟨g, i, none⟩ v).cell? ⟨b, j, none⟩ = some u := by
  rw [World.cell?_setCell_other _ _ _ _ (by intro e; injection e with e1; exact hne e1.symm)]; exact h
theorem words_zero (m : Nat) : words m (fun _ => 0) = List.replicate m (.int .u64 0) := by
  apply List.ext_getElem?
  intro i
  by_cases h : i < m
  · rw [words_at _ h]; simp [h]
  · rw [List.getElem?_eq_none (by rw [words_len]; omega), List.getElem?_eq_none (by simp; omega)]
theorem made_owns {W : World} {g m B : Nat} (hm : m ≤ 64) (hB : B ≤ g) (h : W.heap[g]? = some (.cells (madeCells #[.int .u64 0] m) 136 (0, 0))) : W.ownsRow B 136 1 (.slice (some ⟨g, 0, none⟩) m m) m (words m (fun _ => 0)) :=
  ⟨by rw [words_len, Nat.mul_one], .inr ⟨g, m, _, rfl, hB, h, Nat.le_refl _, by unfold maxLen; omega, by rw [size_madeCells, Nat.mul_one], by rw [toList_madeCells_one, Nat.mul_one, words_zero, List.take_of_length_le (by simp)]⟩⟩
theorem al4 (W : World) (o0 o1 o2 o3 : Obj) : ((((W.alloc o0).alloc o1).alloc o2).alloc o3).drew.heap[W.heap.size]? = some o0 ∧ ((((W.alloc o0).alloc o1).alloc o2).alloc o3).drew.heap[W.heap.size + 1]? = some o1 ∧
    ((((W.alloc o0).alloc o1).alloc o2).alloc o3).drew.heap[W.heap.size + 1 + 1]? = some o2 ∧ ((((W.alloc o0).alloc o1).alloc o2).alloc o3).drew.heap[W.heap.size + 1 + 1 + 1]? = some o3 := by
  show (((W.heap.push o0).push o1).push o2 |>.push o3)[W.heap.size]? = some o0 ∧ (((W.heap.push o0).push o1).push o2 |>.push o3)[W.heap.size + 1]? = some o1 ∧ (((W.heap.push o0).push o1).push o2 |>.push o3)[W.heap.size + 1 + 1]? = some o2 ∧ (((W.heap.push o0).push o1).push o2 |>.push o3)[W.heap.size + 1 + 1 + 1]? = some o3
  refine ⟨?_, ?_, ?_, ?_⟩
  · rw [Array.getElem?_push, if_neg (by simp; omega), Array.getElem?_push, if_neg (by simp; omega), Array.getElem?_push, if_neg (by simp), Array.getElem?_push, if_pos rfl]
  · rw [Array.getElem?_push, if_neg (by simp), Array.getElem?_push, if_neg (by simp), Array.getElem?_push, if_pos (by simp)]
  · rw [Array.getElem?_push, if_neg (by simp), Array.getElem?_push, if_pos (by simp)]
  · rw [Array.getElem?_push, if_pos (by simp)]
theorem be4 {w W : World} (hB : Below w.heap.size w W) (o0 o1 o2 o3 : Obj) : Below w.heap.size w ((((W.alloc o0).alloc o1).alloc o2).alloc o3).drew :=
  (((((hB.alloc hB.size o0).alloc (by have := hB.size; simp; omega) o1).alloc (by have := hB.size; simp; omega) o2).alloc (by have := hB.size; simp; omega) o3)).drew
theorem newI_mk {w W : World} {g8 go gp gs m : Nat} (hm : m ≤ 64) (h8 : W.heap[g8]? = some (.cells #[.pointer (some ⟨go, 0, none⟩)] 104 (0, 0)))
    (ho : W.heap[go]? = some (.cells #[.slice (some ⟨gp, 0, none⟩) m m, .slice (some ⟨gs, 0, none⟩) m m] 143 (0, 0)))
    (hp : W.heap[gp]? = some (.cells (madeCells #[.int .u64 0] m) 136 (0, 0))) (hs : W.heap[gs]? = some (.cells (madeCells #[.int .u64 0] m) 136 (0, 0)))
    (hb : Below w.heap.size w W) (ne : gp ≠ gs ∧ go ≠ gp ∧ go ≠ gs ∧ g8 ≠ go ∧ g8 ≠ gp ∧ g8 ≠ gs) (ge : w.heap.size ≤ go ∧ w.heap.size ≤ g8 ∧ w.heap.size ≤ gp ∧ w.heap.size ≤ gs) : NewI w g8 go gp gs m (fun _ => 0) (fun _ => 0) W :=
  ⟨h8, ho, made_owns hm ge.2.2.1 hp, made_owns hm ge.2.2.2 hs, ne, ge, hb⟩
/-- What New answers. -/
def NewR (w : World) (n : Int) (L : List (Int × Int)) (e : Ending) (w' : World) : Prop :=
  Below w.heap.size w w' ∧
    ((¬ goodP n L ∧ e = .returned (.tuple #[.pointer none, .int .i64 1])) ∨
     (goodP n L ∧ cycL n.toNat L ∧ e = .returned (.tuple #[.pointer none, .int .i64 6])) ∨
     (goodP n L ∧ ¬ cycL n.toNat L ∧ ∃ go gp gs Pf Sf, e = .returned (.tuple #[.pointer (some ⟨go, 0, none⟩), .int .i64 0]) ∧ (w.heap.size ≤ go ∧ w.heap.size ≤ gp ∧ w.heap.size ≤ gs) ∧ OrdAt w' go gp gs n.toNat Pf Sf ∧ Ord n.toNat (ordL n.toNat L) Pf Sf))
set_option maxRecDepth 100000 in
set_option maxHeartbeats 1000000 in
theorem newC (n : Int) (v : Value) (L : List (Int × Int)) (w : World) (hv : PairsAt w v L) (hl : L.length ≤ 9000000000000000000) (ht : Tab w) :
    CallsIn Fence.wide 9 Tryz.prog 139 #[.int .i64 n, v] w (NewR w n L) := by
  have h3 := ht.2
  have hmx : Tryz.prog.follows Departure.mixedOrders = true := by kernel_rfl
  obtain ⟨oa, cap, rfl, hcap, hcl⟩ := hv
  refine callsIn_of_wp_marks Tryz.func139 rfl trivial ?_ rfl
  refine wpIn_wide.2 ?_
  simp only [Tryz.ntmps139, List.size_toArray, List.length_cons, List.length_nil, Nat.reduceAdd, Nat.reduceSub, Array.replicate_succ, Array.replicate_zero, List.push_toArray, List.append_toArray, List.nil_append, List.cons_append]
  by_cases hn : 0 ≤ n ∧ n ≤ 64
  · obtain ⟨m, rfl⟩ := Int.eq_ofNat_of_zero_le hn.1
    have hm : m ≤ 64 := by omega
    have hcl' := hide' hcl
    clear hcl
    go_wp2
    go_loopw [22] (fun p wr => ∃ c : Nat, c ≤ L.length ∧ p = .int .i64 c ∧ Hid (∀ (i : Nat) q, i < c → L[i]? = some q → okP m q) ∧ Below w.heap.size w wr) (fun p _ => ((L.length : Int) - intOf p).toNat)
    case atStart => exact ⟨0, Nat.zero_le _, rfl, fun i q hi => by omega, Below.refl _ _⟩
    case round =>
      obtain ⟨c, hc, rfl, hok, hB⟩ := hrel
      by_cases hlt : c < L.length
      · obtain ⟨q, hq⟩ : ∃ q, L[c]? = some q := ⟨_, List.getElem?_eq_getElem hlt⟩
        obtain ⟨g, o, rfl, c1', c2'⟩ := hcl'.out c q hq
        have c1 := cell_over c1' hB
        have c2 := cell_over c2' hB
        clear c1' c2'
        have hq' := hide' hq
        clear hq
        have hcap1 := hcap.1
        by_cases ok1 : 0 ≤ q.1 ∧ q.1 < (m : Int)
        · by_cases ok2 : 0 ≤ q.2 ∧ q.2 < (m : Int)
          · have K1 := hide' (withinT ok1)
            have K2 := hide' (withinT ok2)
            have hok2 : Hid (∀ (i : Nat) q, i < c + 1 → L[i]? = some q → okP m q) := fun i r hi hr => by
              by_cases e : i = c
              · subst e; rw [hq'.out] at hr; cases hr; exact ⟨ok1, ok2⟩
              · exact hok.out i r (by omega) hr
            clear ok1 ok2 hok hcap
            go_wp2_with fail
            refine (K1.out _).mono ?_
            rintro e w1 ⟨rfl, rfl⟩
            go_wp2_with fail
            refine (K2.out _).mono ?_
            rintro e w1 ⟨rfl, rfl⟩
            go_wp2
            go_roundw
            case rel => exact ⟨c + 1, by omega, by go_num, hok2, hB.alloc hB.size _⟩
            case measure => simp [intOf]; omega
          · have K1 := hide' (withinT ok1)
            have K2 := hide' (withinF ok2)
            have hbad : Hid (¬ goodP m L) := fun h => ok2 (h.2 q (List.mem_of_getElem? hq'.out)).2
            clear ok1 ok2 hok hcap
            go_wp2_with fail
            refine (K1.out _).mono ?_
            rintro e w1 ⟨rfl, rfl⟩
            go_wp2_with fail
            refine (K2.out _).mono ?_
            rintro e w1 ⟨rfl, rfl⟩
            go_wp2
            exact ⟨.tuple #[.pointer none, .int .i64 1], by simp [results, Tryz.results139, go_sem], hB.alloc hB.size _, .inl ⟨hbad.out, rfl⟩⟩
        · have K1 := hide' (withinF ok1)
          have hbad : Hid (¬ goodP m L) := fun h => ok1 (h.2 q (List.mem_of_getElem? hq'.out)).1
          clear ok1 hok hcap
          go_wp2_with fail
          refine (K1.out _).mono ?_
          rintro e w1 ⟨rfl, rfl⟩
          go_wp2
          exact ⟨.tuple #[.pointer none, .int .i64 1], by simp [results, Tryz.results139, go_sem], hB.alloc hB.size _, .inl ⟨hbad.out, rfl⟩⟩
      · obtain rfl : c = L.length := by omega
        have hgood : Hid (∀ q ∈ L, okP m q) := fun q hq => by
          obtain ⟨i, hi⟩ := List.getElem?_of_mem hq
          exact hok.out i q (List.getElem?_eq_some_iff.1 hi).1 hi
        clear hok hlt
        go_upto_region 9 with fail
        go_cut [8] from 39 to 44 (fun s W => ∃ g8 go gp gs, s = .pointer (some ⟨g8, 0, none⟩) ∧ NewI w g8 go gp gs m (fun _ => 0) (fun _ => 0) W)
        case first =>
          have hmk : ∀ W : World, (Instr.makeSlice 141 (.int .i64 (m : Int)) (.int .i64 (m : Int))).run Tryz.prog W = .ok (.slice (some ⟨W.heap.size, 0, none⟩) m m) (W.alloc (.cells (madeCells #[.int .u64 0] m) 136)) := fun W => makeW m hm W
          have z0 := hB.size
          go_region
          all_goals go_wp2
          all_goals go_meet
          all_goals first
            | exact ⟨_, _, _, _, rfl, newI_mk hm (al4 wr _ _ _ _).2.2.2 (al4 wr _ _ _ _).2.2.1 (al4 wr _ _ _ _).1 (al4 wr _ _ _ _).2.1 (be4 hB _ _ _ _) (by omega) (by omega)⟩
            | exact ⟨_, _, _, _, rfl, newI_mk hm (al4 wr _ _ _ _).2.2.1 (al4 wr _ _ _ _).2.2.2 (al4 wr _ _ _ _).1 (al4 wr _ _ _ _).2.1 (be4 hB _ _ _ _) (by omega) (by omega)⟩
            | exact ⟨_, _, _, _, rfl, newI_mk hm (al4 wr _ _ _ _).2.1 (al4 wr _ _ _ _).2.2.2 (al4 wr _ _ _ _).1 (al4 wr _ _ _ _).2.2.1 (be4 hB _ _ _ _) (by omega) (by omega)⟩
            | exact ⟨_, _, _, _, rfl, newI_mk hm (al4 wr _ _ _ _).2.2.2 (al4 wr _ _ _ _).2.2.1 (al4 wr _ _ _ _).2.1 (al4 wr _ _ _ _).1 (be4 hB _ _ _ _) (by omega) (by omega)⟩
            | exact ⟨_, _, _, _, rfl, newI_mk hm (al4 wr _ _ _ _).2.2.1 (al4 wr _ _ _ _).2.2.2 (al4 wr _ _ _ _).2.1 (al4 wr _ _ _ _).1 (be4 hB _ _ _ _) (by omega) (by omega)⟩
            | exact ⟨_, _, _, _, rfl, newI_mk hm (al4 wr _ _ _ _).2.1 (al4 wr _ _ _ _).2.2.2 (al4 wr _ _ _ _).2.2.1 (al4 wr _ _ _ _).1 (be4 hB _ _ _ _) (by omega) (by omega)⟩
            | exact ⟨_, _, _, _, rfl, newI_mk hm (al4 wr _ _ _ _).1 (al4 wr _ _ _ _).2.2.2 (al4 wr _ _ _ _).2.1 (al4 wr _ _ _ _).2.2.1 (be4 hB _ _ _ _) (by omega) (by omega)⟩
            | exact ⟨_, _, _, _, rfl, newI_mk hm (al4 wr _ _ _ _).1 (al4 wr _ _ _ _).2.2.2 (al4 wr _ _ _ _).2.2.1 (al4 wr _ _ _ _).2.1 (be4 hB _ _ _ _) (by omega) (by omega)⟩
        case rest =>
          obtain ⟨g8, go, gp, gs, rfl, hN⟩ := hcut
          clear hB
          go_wp2
          go_loopw [47] (fun p wr => ∃ c : Nat, c ≤ L.length ∧ p = .int .i64 c ∧ NewI w g8 go gp gs m (fun _ => 0) (sucP L c) wr) (fun p _ => ((L.length : Int) - intOf p).toNat)
          case atStart => exact ⟨0, Nat.zero_le _, rfl, hN⟩
          case round =>
            clear hN
            obtain ⟨c, hc, rfl, hN⟩ := hrel
            by_cases hlt : c < L.length
            · obtain ⟨q, hq⟩ : ∃ q, L[c]? = some q := ⟨_, List.getElem?_eq_getElem hlt⟩
              obtain ⟨g, o, rfl, c1', c2'⟩ := hcl'.out c q hq
              have hok := hgood.out q (List.mem_of_getElem? hq)
              obtain ⟨q1, q2⟩ := q
              obtain ⟨⟨k1, k2⟩, k3, k4⟩ := hok
              simp only [] at k1 k2 k3 k4 c1' c2'
              obtain ⟨a, rfl⟩ := Int.eq_ofNat_of_zero_le k1
              obtain ⟨b, rfl⟩ := Int.eq_ofNat_of_zero_le k3
              have ha : a < m := by omega
              have hb : b < m := by omega
              have hb64 : b < 64 := by omega
              clear k1 k2 k3 k4
              have c1 := cell_over c1' hN.bl
              have c2 := cell_over c2' hN.bl
              have hcap1 := hcap.1
              have hnext : Hid (∀ V, NewI w g8 go gp gs m (fun _ => 0) (sucP L c) V → NewI w g8 go gp gs m (fun _ => 0) (sucP L (c + 1)) (V.setCell ⟨gs, a, none⟩ (.int .u64 ((sucP L c a ||| 2 ^ b : Nat) : Int)))) := fun V hV =>
                hV.setS (by rw [sucP_snoc hq, if_pos rfl]; simp) fun i _ hi => by rw [sucP_snoc hq, if_neg (by simp; omega)]
              have hsa := sucP_lt hm hgood.out c a
              have KY := hide' (onlyO b hb64)
              have hpw : (2 ^ b : Nat) < 18446744073709551616 := Nat.lt_of_lt_of_le (Nat.pow_lt_pow_right (by decide) hb64) (by decide)
              have KO := hide' (or64 (sucP L c a) (2 ^ b) hsa hpw)
              have hsat := hide' (fun (V : World) (hV : NewI w g8 go gp gs m (fun _ => 0) (sucP L c) V) => hV.sat ha)
              have hN' := hide' hN
              clear c1' c2' hq hcap hN hcl' hgood
              go_wp2
              generalize sucP L c a = x at *
              generalize 2 ^ b = y at *
              have hN1 := hN'.out.over ((Below.refl _ _).alloc (Nat.le_refl _) (.cells #[.int .i64 (a : Int), .int .i64 (b : Int)] 93))
              have hgs := cell_lt (hsat.out _ hN'.out)
              have n3 := hN1.ne.2.2.1
              have n6 := hN1.ne.2.2.2.2.2
              have s0 := hN1.b8.cell
              have s1 := hN1.c1
              have s2 : (wr.alloc (.cells #[.int .i64 (a : Int), .int .i64 (b : Int)] 93)).cell? ⟨wr.heap.size, 0, none⟩ = some (.int .i64 (a : Int)) := by simp
              have s3 : (wr.alloc (.cells #[.int .i64 (a : Int), .int .i64 (b : Int)] 93)).cell? ⟨wr.heap.size, 1, none⟩ = some (.int .i64 (b : Int)) := by simp
              have e1 := hsat.out _ hN1
              have hN1' := hide' hN1
              clear hN1 hN' c1 c2
              generalize wr.alloc (.cells #[.int .i64 (a : Int), .int .i64 (b : Int)] 93) = W1 at *
              refine wp_region_noPanic (wp_region_held_drew (S := (fun V => V.cell? ⟨g8, 0, none⟩ = some (.pointer (some ⟨go, 0, none⟩)) ∧ V.cell? ⟨go, 1, none⟩ = some (.slice (some ⟨gs, 0, none⟩) m m) ∧ V.cell? ⟨wr.heap.size, 0, none⟩ = some (.int .i64 (a : Int)) ∧ V.cell? ⟨wr.heap.size, 1, none⟩ = some (.int .i64 (b : Int)))) (by kernel_rfl) ?_ (fun hHeld => ?_))
              · exact ⟨s0, s1, s2, s3⟩
              refine wpAnyH_take (i := 0) (oi := { dst := some 51, op := Op.load 104 (Operand.tmp 8), type := 104, pos := "order.go:30", after := #[], guard := none }) (v := ?_) rfl (by kernel_rfl) (by kernel_rfl) (by kernel_rfl) (fun _ _ _ h => h) (Or.inl ⟨by rfl, ?_⟩) (by assumption) ?_
              rotate_left
              · intro w hSw; (try dsimp only at hSw); go_simp <;> with_reducible rfl
              simp only [Act.put, List.setIfInBounds_toArray, List.set_cons_zero, List.set_cons_succ]
              refine wpAnyH_take (i := 1) (oi := { dst := some 52, op := Op.nilCheck (Operand.tmp 51), type := 0, pos := "order.go:30", after := #[{ on := 0, ground := Ground.data }], guard := none }) (v := ?_) rfl (by kernel_rfl) (by kernel_rfl) (by kernel_rfl) (fun _ _ _ h => h) (Or.inl ⟨by rfl, ?_⟩) (by assumption) ?_
              rotate_left
              · intro w hSw; (try dsimp only at hSw); go_simp <;> with_reducible rfl
              simp only [Act.put, List.setIfInBounds_toArray, List.set_cons_zero, List.set_cons_succ]
              refine wpAnyH_take (i := 2) (oi := { dst := some 53, op := Op.fieldAddr 143 (Operand.tmp 52) 1, type := 0, pos := "order.go:30", after := #[{ on := 1, ground := Ground.data }], guard := none }) (v := ?_) rfl (by kernel_rfl) (by kernel_rfl) (by kernel_rfl) (fun _ _ _ h => h) (Or.inl ⟨by rfl, ?_⟩) (by assumption) ?_
              rotate_left
              · intro w hSw; (try dsimp only at hSw); go_simp <;> with_reducible rfl
              simp only [Act.put, List.setIfInBounds_toArray, List.set_cons_zero, List.set_cons_succ]
              refine wpAnyH_take (i := 3) (oi := { dst := some 54, op := Op.load 141 (Operand.tmp 53), type := 141, pos := "order.go:30", after := #[{ on := 2, ground := Ground.data }], guard := none }) (v := ?_) rfl (by kernel_rfl) (by kernel_rfl) (by kernel_rfl) (fun _ _ _ h => h) (Or.inl ⟨by rfl, ?_⟩) (by assumption) ?_
              rotate_left
              · intro w hSw; (try dsimp only at hSw); go_simp <;> with_reducible rfl
              simp only [Act.put, List.setIfInBounds_toArray, List.set_cons_zero, List.set_cons_succ]
              refine wpAnyH_take (i := 4) (oi := { dst := some 55, op := Op.indexAddr 93 (Operand.tmp 10) (Operand.const (Value.int IntKind.i64 0)), type := 0, pos := "order.go:30", after := #[], guard := none }) (v := ?_) rfl (by kernel_rfl) (by kernel_rfl) (by kernel_rfl) (fun _ _ _ h => h) (Or.inl ⟨by rfl, ?_⟩) (by assumption) ?_
              rotate_left
              · intro w hSw; (try dsimp only at hSw); go_simp <;> with_reducible rfl
              simp only [Act.put, List.setIfInBounds_toArray, List.set_cons_zero, List.set_cons_succ]
              refine wpAnyH_take (i := 5) (oi := { dst := some 56, op := Op.load 3 (Operand.tmp 55), type := 3, pos := "order.go:30", after := #[{ on := 4, ground := Ground.data }], guard := none }) (v := ?_) rfl (by kernel_rfl) (by kernel_rfl) (by kernel_rfl) (fun _ _ _ h => h) (Or.inl ⟨by rfl, ?_⟩) (by assumption) ?_
              rotate_left
              · intro w hSw; (try dsimp only at hSw); go_simp <;> with_reducible rfl
              simp only [Act.put, List.setIfInBounds_toArray, List.set_cons_zero, List.set_cons_succ]
              refine wpAnyH_take (i := 6) (oi := { dst := some 57, op := Op.load 104 (Operand.tmp 8), type := 104, pos := "order.go:30", after := #[], guard := none }) (v := ?_) rfl (by kernel_rfl) (by kernel_rfl) (by kernel_rfl) (fun _ _ _ h => h) (Or.inl ⟨by rfl, ?_⟩) (by assumption) ?_
              rotate_left
              · intro w hSw; (try dsimp only at hSw); go_simp <;> with_reducible rfl
              simp only [Act.put, List.setIfInBounds_toArray, List.set_cons_zero, List.set_cons_succ]
              refine wpAnyH_take (i := 7) (oi := { dst := some 58, op := Op.nilCheck (Operand.tmp 57), type := 0, pos := "order.go:30", after := #[{ on := 6, ground := Ground.data }], guard := none }) (v := ?_) rfl (by kernel_rfl) (by kernel_rfl) (by kernel_rfl) (fun _ _ _ h => h) (Or.inl ⟨by rfl, ?_⟩) (by assumption) ?_
              rotate_left
              · intro w hSw; (try dsimp only at hSw); go_simp <;> with_reducible rfl
              simp only [Act.put, List.setIfInBounds_toArray, List.set_cons_zero, List.set_cons_succ]
              refine wpAnyH_take (i := 8) (oi := { dst := some 59, op := Op.fieldAddr 143 (Operand.tmp 58) 1, type := 0, pos := "order.go:30", after := #[{ on := 7, ground := Ground.data }], guard := none }) (v := ?_) rfl (by kernel_rfl) (by kernel_rfl) (by kernel_rfl) (fun _ _ _ h => h) (Or.inl ⟨by rfl, ?_⟩) (by assumption) ?_
              rotate_left
              · intro w hSw; (try dsimp only at hSw); go_simp <;> with_reducible rfl
              simp only [Act.put, List.setIfInBounds_toArray, List.set_cons_zero, List.set_cons_succ]
              refine wpAnyH_take (i := 9) (oi := { dst := some 60, op := Op.load 141 (Operand.tmp 59), type := 141, pos := "order.go:30", after := #[{ on := 8, ground := Ground.data }], guard := none }) (v := ?_) rfl (by kernel_rfl) (by kernel_rfl) (by kernel_rfl) (fun _ _ _ h => h) (Or.inl ⟨by rfl, ?_⟩) (by assumption) ?_
              rotate_left
              · intro w hSw; (try dsimp only at hSw); go_simp <;> with_reducible rfl
              simp only [Act.put, List.setIfInBounds_toArray, List.set_cons_zero, List.set_cons_succ]
              refine wpAnyH_take (i := 10) (oi := { dst := some 61, op := Op.indexAddr 93 (Operand.tmp 10) (Operand.const (Value.int IntKind.i64 0)), type := 0, pos := "order.go:30", after := #[], guard := none }) (v := ?_) rfl (by kernel_rfl) (by kernel_rfl) (by kernel_rfl) (fun _ _ _ h => h) (Or.inl ⟨by rfl, ?_⟩) (by assumption) ?_
              rotate_left
              · intro w hSw; (try dsimp only at hSw); go_simp <;> with_reducible rfl
              simp only [Act.put, List.setIfInBounds_toArray, List.set_cons_zero, List.set_cons_succ]
              refine wpAnyH_take (i := 11) (oi := { dst := some 62, op := Op.load 3 (Operand.tmp 61), type := 3, pos := "order.go:30", after := #[{ on := 10, ground := Ground.data }], guard := none }) (v := ?_) rfl (by kernel_rfl) (by kernel_rfl) (by kernel_rfl) (fun _ _ _ h => h) (Or.inl ⟨by rfl, ?_⟩) (by assumption) ?_
              rotate_left
              · intro w hSw; (try dsimp only at hSw); go_simp <;> with_reducible rfl
              simp only [Act.put, List.setIfInBounds_toArray, List.set_cons_zero, List.set_cons_succ]
              refine wpAnyH_take (i := 12) (oi := { dst := some 63, op := Op.indexAddr 141 (Operand.tmp 60) (Operand.tmp 62), type := 0, pos := "order.go:30", after := #[{ on := 9, ground := Ground.data }, { on := 11, ground := Ground.data }], guard := none }) (v := ?_) rfl (by kernel_rfl) (by kernel_rfl) (by kernel_rfl) (fun _ _ _ h => h) (Or.inl ⟨by rfl, ?_⟩) (by assumption) ?_
              rotate_left
              · intro w hSw; (try dsimp only at hSw); go_simp <;> with_reducible rfl
              simp only [Act.put, List.setIfInBounds_toArray, List.set_cons_zero, List.set_cons_succ]
              refine wpAnyH_take (i := 14) (oi := { dst := some 65, op := Op.indexAddr 93 (Operand.tmp 10) (Operand.const (Value.int IntKind.i64 1)), type := 0, pos := "order.go:30", after := #[], guard := none }) (v := ?_) rfl (by kernel_rfl) (by kernel_rfl) (by kernel_rfl) (fun _ _ _ h => h) (Or.inl ⟨by rfl, ?_⟩) (by assumption) ?_
              rotate_left
              · intro w hSw; (try dsimp only at hSw); go_simp <;> with_reducible rfl
              simp only [Act.put, List.setIfInBounds_toArray, List.set_cons_zero, List.set_cons_succ]
              refine wpAnyH_take (i := 15) (oi := { dst := some 66, op := Op.load 3 (Operand.tmp 65), type := 3, pos := "order.go:30", after := #[{ on := 14, ground := Ground.data }], guard := none }) (v := ?_) rfl (by kernel_rfl) (by kernel_rfl) (by kernel_rfl) (fun _ _ _ h => h) (Or.inl ⟨by rfl, ?_⟩) (by assumption) ?_
              rotate_left
              · intro w hSw; (try dsimp only at hSw); go_simp <;> with_reducible rfl
              simp only [Act.put, List.setIfInBounds_toArray, List.set_cons_zero, List.set_cons_succ]
              refine wpAnyH_ready (rs := [13, 16]) (by kernel_rfl) (by simp) ?_
              refine AllReadyH.cons (o := { dst := some 64, op := Op.load 136 (Operand.tmp 63), type := 136, pos := "order.go:30", after := #[{ on := 12, ground := Ground.data }], guard := none }) rfl (fun K hK => ?_) ?_
              · skip
                go_simp
                refine hK.out _ _ ?_ (fun hHeld => ?_)
                · exact hHeld
                clear hK K
                try simp only [Act.put, List.setIfInBounds_toArray, List.set_cons_zero, List.set_cons_succ]
                refine wpAnyH_ready (rs := [16]) (by kernel_rfl) (by simp) ?_
                refine AllReadyH.cons (o := { dst := some 67, op := Op.call { callee := Callee.value (Operand.func 96), args := #[Operand.tmp 66], argTypes := #[3] }, type := 136, pos := "order.go:30", after := #[{ on := 15, ground := Ground.data }], guard := none }) rfl (fun K hK => ?_) AllReadyH.nil
                go_simp
                refine (KY.out _).mono ?_; rintro e w4 ⟨rfl, hb4⟩; (try dsimp only); have hN4 := hN1'.out.over (((Below.refl _ _).drew).trans hb4); have e4 := hsat.out _ hN4
                refine hK.out _ _ ?_ (fun hHeld => ?_)
                · exact ⟨cell_over hHeld.1 hb4, cell_over hHeld.2.1 hb4, cell_over hHeld.2.2.1 hb4, cell_over hHeld.2.2.2 hb4⟩
                clear hK K
                try simp only [Act.put, List.setIfInBounds_toArray, List.set_cons_zero, List.set_cons_succ]
                refine wpAnyH_ready (rs := [17]) (by kernel_rfl) (by simp) ?_
                refine AllReadyH.cons (o := { dst := some 68, op := Op.call { callee := Callee.value (Operand.func 95), args := #[Operand.tmp 64, Operand.tmp 67], argTypes := #[136, 136] }, type := 136, pos := "order.go:30", after := #[{ on := 13, ground := Ground.data }, { on := 16, ground := Ground.data }, { on := 16, ground := Ground.chain }], guard := none }) rfl (fun K hK => ?_) AllReadyH.nil
                go_simp
                refine (KO.out _).mono ?_; rintro e w5 ⟨rfl, hb5⟩; (try dsimp only); have hN5 := hN4.over hb5; have e5 := hsat.out _ hN5; have f5 := hN5.sr.frozenAt a
                refine hK.out _ _ ?_ (fun hHeld => ?_)
                · exact ⟨cell_over hHeld.1 hb5, cell_over hHeld.2.1 hb5, cell_over hHeld.2.2.1 hb5, cell_over hHeld.2.2.2 hb5⟩
                clear hK K
                try simp only [Act.put, List.setIfInBounds_toArray, List.set_cons_zero, List.set_cons_succ]
                refine wpAnyH_take (i := 18) (oi := { dst := some 69, op := Op.indexAddr 141 (Operand.tmp 54) (Operand.tmp 56), type := 0, pos := "order.go:30", after := #[{ on := 3, ground := Ground.data }, { on := 5, ground := Ground.data }, { on := 0, ground := Ground.phase }, { on := 1, ground := Ground.phase }, { on := 2, ground := Ground.phase }, { on := 3, ground := Ground.phase }, { on := 4, ground := Ground.phase }, { on := 5, ground := Ground.phase }, { on := 6, ground := Ground.phase }, { on := 7, ground := Ground.phase }, { on := 8, ground := Ground.phase }, { on := 9, ground := Ground.phase }, { on := 10, ground := Ground.phase }, { on := 11, ground := Ground.phase }, { on := 12, ground := Ground.phase }, { on := 13, ground := Ground.phase }, { on := 14, ground := Ground.phase }, { on := 15, ground := Ground.phase }, { on := 16, ground := Ground.phase }, { on := 17, ground := Ground.phase }], guard := none }) (v := ?_) rfl (by kernel_rfl) (by kernel_rfl) (by kernel_rfl) (fun _ _ _ h => h) (Or.inl ⟨by rfl, ?_⟩) (by assumption) ?_
                rotate_left
                · intro w hSw; (try dsimp only at hSw); go_simp <;> with_reducible rfl
                simp only [Act.put, List.setIfInBounds_toArray, List.set_cons_zero, List.set_cons_succ]
                refine wpAnyH_ready (rs := [19]) (by kernel_rfl) (by simp) ?_
                refine AllReadyH.cons (o := { dst := none, op := Op.store 136 (Operand.tmp 69) (Operand.tmp 68), type := 0, pos := "order.go:30", after := #[{ on := 18, ground := Ground.data }, { on := 17, ground := Ground.data }, { on := 17, ground := Ground.chain }, { on := 0, ground := Ground.phase }, { on := 1, ground := Ground.phase }, { on := 2, ground := Ground.phase }, { on := 3, ground := Ground.phase }, { on := 4, ground := Ground.phase }, { on := 5, ground := Ground.phase }, { on := 6, ground := Ground.phase }, { on := 7, ground := Ground.phase }, { on := 8, ground := Ground.phase }, { on := 9, ground := Ground.phase }, { on := 10, ground := Ground.phase }, { on := 11, ground := Ground.phase }, { on := 12, ground := Ground.phase }, { on := 13, ground := Ground.phase }, { on := 14, ground := Ground.phase }, { on := 15, ground := Ground.phase }, { on := 16, ground := Ground.phase }, { on := 17, ground := Ground.phase }], guard := none }) rfl (fun K hK => ?_) AllReadyH.nil
                go_simp
                refine hK.out _ _ ?_ (fun hHeld => ?_)
                · exact ⟨cell_far hHeld.1 n6, cell_far hHeld.2.1 n3, cell_far hHeld.2.2.1 (by omega), cell_far hHeld.2.2.2 (by omega)⟩
                clear hK K
                try simp only [Act.put, List.setIfInBounds_toArray, List.set_cons_zero, List.set_cons_succ]
                refine wpAnyH_done (by kernel_rfl) ?_ _
                refine NoPanic.normal ?_
                go_wp2
                go_roundw
                case rel => exact ⟨c + 1, by omega, by go_num, hnext.out _ hN5⟩
                case measure => simp [intOf]; omega
              refine AllReadyH.cons (o := { dst := some 67, op := Op.call { callee := Callee.value (Operand.func 96), args := #[Operand.tmp 66], argTypes := #[3] }, type := 136, pos := "order.go:30", after := #[{ on := 15, ground := Ground.data }], guard := none }) rfl (fun K hK => ?_) AllReadyH.nil
              go_simp
              refine (KY.out _).mono ?_; rintro e w4 ⟨rfl, hb4⟩; (try dsimp only); have hN4 := hN1'.out.over (((Below.refl _ _).drew).trans hb4); have e4 := hsat.out _ hN4
              refine hK.out _ _ ?_ (fun hHeld => ?_)
              · exact ⟨cell_over hHeld.1 hb4, cell_over hHeld.2.1 hb4, cell_over hHeld.2.2.1 hb4, cell_over hHeld.2.2.2 hb4⟩
              clear hK K
              try simp only [Act.put, List.setIfInBounds_toArray, List.set_cons_zero, List.set_cons_succ]
              refine wpAnyH_ready (rs := [13]) (by kernel_rfl) (by simp) ?_
              refine AllReadyH.cons (o := { dst := some 64, op := Op.load 136 (Operand.tmp 63), type := 136, pos := "order.go:30", after := #[{ on := 12, ground := Ground.data }], guard := none }) rfl (fun K hK => ?_) AllReadyH.nil
              go_simp
              refine hK.out _ _ ?_ (fun hHeld => ?_)
              · exact hHeld
              clear hK K
              try simp only [Act.put, List.setIfInBounds_toArray, List.set_cons_zero, List.set_cons_succ]
              refine wpAnyH_ready (rs := [17]) (by kernel_rfl) (by simp) ?_
              refine AllReadyH.cons (o := { dst := some 68, op := Op.call { callee := Callee.value (Operand.func 95), args := #[Operand.tmp 64, Operand.tmp 67], argTypes := #[136, 136] }, type := 136, pos := "order.go:30", after := #[{ on := 13, ground := Ground.data }, { on := 16, ground := Ground.data }, { on := 16, ground := Ground.chain }], guard := none }) rfl (fun K hK => ?_) AllReadyH.nil
              go_simp
              refine (KO.out _).mono ?_; rintro e w5 ⟨rfl, hb5⟩; (try dsimp only); have hN5 := hN4.over hb5; have e5 := hsat.out _ hN5; have f5 := hN5.sr.frozenAt a
              refine hK.out _ _ ?_ (fun hHeld => ?_)
              · exact ⟨cell_over hHeld.1 hb5, cell_over hHeld.2.1 hb5, cell_over hHeld.2.2.1 hb5, cell_over hHeld.2.2.2 hb5⟩
              clear hK K
              try simp only [Act.put, List.setIfInBounds_toArray, List.set_cons_zero, List.set_cons_succ]
              refine wpAnyH_take (i := 18) (oi := { dst := some 69, op := Op.indexAddr 141 (Operand.tmp 54) (Operand.tmp 56), type := 0, pos := "order.go:30", after := #[{ on := 3, ground := Ground.data }, { on := 5, ground := Ground.data }, { on := 0, ground := Ground.phase }, { on := 1, ground := Ground.phase }, { on := 2, ground := Ground.phase }, { on := 3, ground := Ground.phase }, { on := 4, ground := Ground.phase }, { on := 5, ground := Ground.phase }, { on := 6, ground := Ground.phase }, { on := 7, ground := Ground.phase }, { on := 8, ground := Ground.phase }, { on := 9, ground := Ground.phase }, { on := 10, ground := Ground.phase }, { on := 11, ground := Ground.phase }, { on := 12, ground := Ground.phase }, { on := 13, ground := Ground.phase }, { on := 14, ground := Ground.phase }, { on := 15, ground := Ground.phase }, { on := 16, ground := Ground.phase }, { on := 17, ground := Ground.phase }], guard := none }) (v := ?_) rfl (by kernel_rfl) (by kernel_rfl) (by kernel_rfl) (fun _ _ _ h => h) (Or.inl ⟨by rfl, ?_⟩) (by assumption) ?_
              rotate_left
              · intro w hSw; (try dsimp only at hSw); go_simp <;> with_reducible rfl
              simp only [Act.put, List.setIfInBounds_toArray, List.set_cons_zero, List.set_cons_succ]
              refine wpAnyH_ready (rs := [19]) (by kernel_rfl) (by simp) ?_
              refine AllReadyH.cons (o := { dst := none, op := Op.store 136 (Operand.tmp 69) (Operand.tmp 68), type := 0, pos := "order.go:30", after := #[{ on := 18, ground := Ground.data }, { on := 17, ground := Ground.data }, { on := 17, ground := Ground.chain }, { on := 0, ground := Ground.phase }, { on := 1, ground := Ground.phase }, { on := 2, ground := Ground.phase }, { on := 3, ground := Ground.phase }, { on := 4, ground := Ground.phase }, { on := 5, ground := Ground.phase }, { on := 6, ground := Ground.phase }, { on := 7, ground := Ground.phase }, { on := 8, ground := Ground.phase }, { on := 9, ground := Ground.phase }, { on := 10, ground := Ground.phase }, { on := 11, ground := Ground.phase }, { on := 12, ground := Ground.phase }, { on := 13, ground := Ground.phase }, { on := 14, ground := Ground.phase }, { on := 15, ground := Ground.phase }, { on := 16, ground := Ground.phase }, { on := 17, ground := Ground.phase }], guard := none }) rfl (fun K hK => ?_) AllReadyH.nil
              go_simp
              refine hK.out _ _ ?_ (fun hHeld => ?_)
              · exact ⟨cell_far hHeld.1 n6, cell_far hHeld.2.1 n3, cell_far hHeld.2.2.1 (by omega), cell_far hHeld.2.2.2 (by omega)⟩
              clear hK K
              try simp only [Act.put, List.setIfInBounds_toArray, List.set_cons_zero, List.set_cons_succ]
              refine wpAnyH_done (by kernel_rfl) ?_ _
              refine NoPanic.normal ?_
              go_wp2
              go_roundw
              case rel => exact ⟨c + 1, by omega, by go_num, hnext.out _ hN5⟩
              case measure => simp [intOf]; omega
            · obtain rfl : c = L.length := by omega
              have hb64 := fun i (_ : i < m) => sucP_lt hm hgood.out L.length i
              have hbits := fun i (_ : i < m) b => sucP_bits hgood.out i b
              have hcl0 := wclo_lt hb64 m (Nat.le_refl _)
              have hbit := wclo_bits hbits m (Nat.le_refl _)
              have hF0 : FolI wr go gs m w.heap.size (sucP L L.length) wr := ⟨hN.c1, hN.sr, grown_refl _ _⟩
              have KF := hide' (followP wr go gs m w.heap.size (sucP L L.length) hm hN.ne.2.2.1 hb64 hF0)
              have s0 := hN.b8.cell
              have hN' := hide' hN
              clear hb64 hbits hF0 hN hlt
              generalize wclo m (sucP L L.length) = S at *
              go_wp2_with (go_at_call 168; refine KF.out.mono ?_; rintro e w2 ⟨⟨rv, rfl⟩, hF⟩; have hN2 := hN'.out.fol hF; have t0 := hN2.b8.cell; have t1 := hN2.c1)
              have hbl2 := hN2.bl
              have hN2' := hide' (hN2.congrP (P' := prP S 0) fun i _ => (prP_zero S i).symm)
              clear hN2 hN' hF s0 KF t0 t1
              refine wp_loop (fun a W => ∃ (k : Nat) (Ds : List Nat) (z : Int) (u0 u1 u2 u3 u4 u5 u6 u7 u9 u10 u11 u12 u13 u14 u15 u16 u17 u18 u19 u20 u21 u22 u23 u24 u25 u26 u27 u28 u29 u30 u31 u32 u33 u34 u35 u36 u37 u38 u39 u40 u41 u42 u43 u44 u45 u46 u47 u48 u49 u50 u51 u52 u53 u54 u55 u56 u57 u58 u59 u60 u61 u62 u63 u64 u65 u66 u67 u68 u69 u70 u71 u72 u73 u74 u75 u79 u80 u81 u82 u83 u84 u85 u86 u87 u88 u89 u90 u91 u92 u93 u94 u95 u96 u97 u98 u99 u100 u101 u102 u103 u104 u105 u106 : Value), (Hid (z = (k : Int)) ∧ k ≤ m ∧ Marks w.heap.size Ds W ∧ NewI w g8 go gp gs m (prP S k) S W ∧ ∀ i, i < k → (S i).testBit i = false) ∧ a = { tmps := #[u0, u1, u2, u3, u4, u5, u6, u7, .pointer (some ⟨g8, 0, none⟩), u9, u10, u11, u12, u13, u14, u15, u16, u17, u18, u19, u20, u21, u22, u23, u24, u25, u26, u27, u28, u29, u30, u31, u32, u33, u34, u35, u36, u37, u38, u39, u40, u41, u42, u43, u44, u45, u46, u47, u48, u49, u50, u51, u52, u53, u54, u55, u56, u57, u58, u59, u60, u61, u62, u63, u64, u65, u66, u67, u68, u69, u70, u71, u72, u73, u74, u75, .slice (some ⟨gs, 0, none⟩) m m, .int .i64 (m : Int), .int .i64 z, u79, u80, u81, u82, u83, u84, u85, u86, u87, u88, u89, u90, u91, u92, u93, u94, u95, u96, u97, u98, u99, u100, u101, u102, u103, u104, u105, u106], defers := Ds.map mark }) (fun a _ => m - (intOf (a.tmps.getD 78 undef)).toNat) ?_ ?_
              · refine ⟨0, [], 0, ?_⟩
                repeat apply Exists.intro
                refine ⟨⟨rfl, Nat.zero_le _, Marks.nil _ _, hN2'.out, fun i hi => by omega⟩, rfl⟩
              · clear hN2' hbl2
                rintro _ W ⟨k, Ds, z, hinv⟩
                obtain ⟨u0, hinv⟩ := hinv
                obtain ⟨u1, hinv⟩ := hinv
                obtain ⟨u2, hinv⟩ := hinv
                obtain ⟨u3, hinv⟩ := hinv
                obtain ⟨u4, hinv⟩ := hinv
                obtain ⟨u5, hinv⟩ := hinv
                obtain ⟨u6, hinv⟩ := hinv
                obtain ⟨u7, hinv⟩ := hinv
                obtain ⟨u9, hinv⟩ := hinv
                obtain ⟨u10, hinv⟩ := hinv
                obtain ⟨u11, hinv⟩ := hinv
                obtain ⟨u12, hinv⟩ := hinv
                obtain ⟨u13, hinv⟩ := hinv
                obtain ⟨u14, hinv⟩ := hinv
                obtain ⟨u15, hinv⟩ := hinv
                obtain ⟨u16, hinv⟩ := hinv
                obtain ⟨u17, hinv⟩ := hinv
                obtain ⟨u18, hinv⟩ := hinv
                obtain ⟨u19, hinv⟩ := hinv
                obtain ⟨u20, hinv⟩ := hinv
                obtain ⟨u21, hinv⟩ := hinv
                obtain ⟨u22, hinv⟩ := hinv
                obtain ⟨u23, hinv⟩ := hinv
                obtain ⟨u24, hinv⟩ := hinv
                obtain ⟨u25, hinv⟩ := hinv
                obtain ⟨u26, hinv⟩ := hinv
                obtain ⟨u27, hinv⟩ := hinv
                obtain ⟨u28, hinv⟩ := hinv
                obtain ⟨u29, hinv⟩ := hinv
                obtain ⟨u30, hinv⟩ := hinv
                obtain ⟨u31, hinv⟩ := hinv
                obtain ⟨u32, hinv⟩ := hinv
                obtain ⟨u33, hinv⟩ := hinv
                obtain ⟨u34, hinv⟩ := hinv
                obtain ⟨u35, hinv⟩ := hinv
                obtain ⟨u36, hinv⟩ := hinv
                obtain ⟨u37, hinv⟩ := hinv
                obtain ⟨u38, hinv⟩ := hinv
                obtain ⟨u39, hinv⟩ := hinv
                obtain ⟨u40, hinv⟩ := hinv
                obtain ⟨u41, hinv⟩ := hinv
                obtain ⟨u42, hinv⟩ := hinv
                obtain ⟨u43, hinv⟩ := hinv
                obtain ⟨u44, hinv⟩ := hinv
                obtain ⟨u45, hinv⟩ := hinv
                obtain ⟨u46, hinv⟩ := hinv
                obtain ⟨u47, hinv⟩ := hinv
                obtain ⟨u48, hinv⟩ := hinv
                obtain ⟨u49, hinv⟩ := hinv
                obtain ⟨u50, hinv⟩ := hinv
                obtain ⟨u51, hinv⟩ := hinv
                obtain ⟨u52, hinv⟩ := hinv
                obtain ⟨u53, hinv⟩ := hinv
                obtain ⟨u54, hinv⟩ := hinv
                obtain ⟨u55, hinv⟩ := hinv
                obtain ⟨u56, hinv⟩ := hinv
                obtain ⟨u57, hinv⟩ := hinv
                obtain ⟨u58, hinv⟩ := hinv
                obtain ⟨u59, hinv⟩ := hinv
                obtain ⟨u60, hinv⟩ := hinv
                obtain ⟨u61, hinv⟩ := hinv
                obtain ⟨u62, hinv⟩ := hinv
                obtain ⟨u63, hinv⟩ := hinv
                obtain ⟨u64, hinv⟩ := hinv
                obtain ⟨u65, hinv⟩ := hinv
                obtain ⟨u66, hinv⟩ := hinv
                obtain ⟨u67, hinv⟩ := hinv
                obtain ⟨u68, hinv⟩ := hinv
                obtain ⟨u69, hinv⟩ := hinv
                obtain ⟨u70, hinv⟩ := hinv
                obtain ⟨u71, hinv⟩ := hinv
                obtain ⟨u72, hinv⟩ := hinv
                obtain ⟨u73, hinv⟩ := hinv
                obtain ⟨u74, hinv⟩ := hinv
                obtain ⟨u75, hinv⟩ := hinv
                obtain ⟨u79, hinv⟩ := hinv
                obtain ⟨u80, hinv⟩ := hinv
                obtain ⟨u81, hinv⟩ := hinv
                obtain ⟨u82, hinv⟩ := hinv
                obtain ⟨u83, hinv⟩ := hinv
                obtain ⟨u84, hinv⟩ := hinv
                obtain ⟨u85, hinv⟩ := hinv
                obtain ⟨u86, hinv⟩ := hinv
                obtain ⟨u87, hinv⟩ := hinv
                obtain ⟨u88, hinv⟩ := hinv
                obtain ⟨u89, hinv⟩ := hinv
                obtain ⟨u90, hinv⟩ := hinv
                obtain ⟨u91, hinv⟩ := hinv
                obtain ⟨u92, hinv⟩ := hinv
                obtain ⟨u93, hinv⟩ := hinv
                obtain ⟨u94, hinv⟩ := hinv
                obtain ⟨u95, hinv⟩ := hinv
                obtain ⟨u96, hinv⟩ := hinv
                obtain ⟨u97, hinv⟩ := hinv
                obtain ⟨u98, hinv⟩ := hinv
                obtain ⟨u99, hinv⟩ := hinv
                obtain ⟨u100, hinv⟩ := hinv
                obtain ⟨u101, hinv⟩ := hinv
                obtain ⟨u102, hinv⟩ := hinv
                obtain ⟨u103, hinv⟩ := hinv
                obtain ⟨u104, hinv⟩ := hinv
                obtain ⟨u105, hinv⟩ := hinv
                obtain ⟨u106, hinv⟩ := hinv
                obtain ⟨⟨hz, hk, hM, hN, hnc⟩, rfl⟩ := hinv
                obtain rfl : z = (k : Int) := hz.out
                clear hz
                by_cases hlt : k < m
                · have hk64 : k < 64 := by omega
                  have hx := hcl0 k hlt
                  have hHas : Hid (∀ V, Calls Tryz.prog 169 #[.agg #[.int .u64 (S k : Int)], .int .i64 k] V fun e w' => e = .returned (.bool ((S k).testBit k)) ∧ Below V.heap.size V w') := fun V => by
                    have := has64 (S k) hx (k : Int) V
                    simpa using this
                  have c1 := hN.sat hlt
                  have zN := hN.bl.size
                  have hgp := own_lt' hN.pr rfl
                  have hB2 : Below W.heap.size W ((W.alloc (.cells #[.int .i64 (k : Int)] 3)).alloc (.cells #[.int .u64 (S k : Int)] 136)) := ((Below.refl _ W).alloc (Nat.le_refl _) _).alloc (by simp) _
                  have hN2 := hide' (hN.over hB2)
                  have hM2 := hide' (hM.keeps (keepsO hB2))
                  have bK2 := (Boxed.new W 3 (.int .i64 (k : Int))).alloc (.cells #[.int .u64 (S k : Int)] 136)
                  have bS2 := Boxed.new (W.alloc (.cells #[.int .i64 (k : Int)] 3)) 136 (.int .u64 (S k : Int))
                  simp only [World.size_alloc] at bS2
                  by_cases hcy : (S k).testBit k = true
                  · rw [hcy] at hHas
                    have hcyc : Hid (cycL m L) := ⟨k, hlt, by rw [← hcy]; exact (hbit k hlt k).symm⟩
                    have hg : Hid (goodP m L) := ⟨hn, hgood.out⟩
                    clear hcy hN hM hnc
                    generalize S k = x at *
                    go_wp2_with (go_at_call 169; refine (hHas.out _).mono ?_; rintro e w2 ⟨rfl, hb2⟩)
                    refine leaves_marks Ds _ (hM2.out.keeps (keepsO hb2)) fun W' hW' => ?_
                    exact ⟨.tuple #[.pointer none, .int .i64 6], by simp [results, Tryz.results139, go_sem], (hN2.out.over hb2).bl.trans hW'.1, .inr (.inl ⟨hg.out, hcyc.out, rfl⟩)⟩
                  · have hf : (S k).testBit k = false := by simpa using hcy
                    rw [hf] at hHas
                    have hnc' : Hid (∀ i, i < k + 1 → (S i).testBit i = false) := fun i hi => by
                      by_cases e : i = k
                      · subst e; exact hf
                      · exact hnc i (by omega)
                    have hin : Hid (∀ j ∈ nums (S k), j.val < m) := fun j hj => by
                      rw [mem_nums, hbit k hlt] at hj
                      exact (ordL_in hgood.out k j.val hj).2
                    have hmid : Hid (∀ b, b < m → midP S k (nums (S k)) b = prP S (k + 1) b) := fun b hb => midP_end S k (by omega)
                    clear hcy hf hN hM hnc
                    obtain ⟨x, hSx⟩ : ∃ x, S k = x := ⟨_, rfl⟩
                    rw [hSx] at hHas hx c1 bS2 bK2 hin hmid hB2 hN2 hM2
                    clear hSx
                    go_wp2_with (first | (go_at_call 169; refine (hHas.out _).mono ?_; rintro e w2 ⟨rfl, hb2⟩; have cS2 := (bxb bS2 hb2 (by simp)).cell) | (go_at_call 93; refine (allSeq x _).mono ?_; rintro e w3 ⟨bb, rfl, hbox, hbb, hb3⟩))
                    have z2 := hb2.size
                    have z3 := hb3.size
                    simp only [World.size_alloc] at z2
                    have hN3 := (hN2.out.over hb2).over hb3
                    have hM3 := (hM2.out.keeps (keepsO hb2)).keeps (keepsO hb3)
                    have bK3 := bxb (bxb bK2 hb2 (by simp; omega)) hb3 (by omega)
                    have hbl3 := hN3.bl
                    have hMl := hM3.lt
                    clear hN2 hM2 bK2 bS2 hb2 hb3 hB2 c1 cS2
                    refine (wpIn_wide (n := 9)).1 ?_
                    refine wpIn_rangeFunc_ownG rfl (by decide) (gf := 124) (lb := #[.pointer (some ⟨bb, 0, none⟩)]) rfl trivial (enters_of Tryz.func124 (by kernel_rfl) rfl)
                      (all_mem 8 bb x hx w3 hbox.lt (ht.over hbl3) hbox.cell) KpB.t (KpB.b hbox.lt (by omega)) (Below.refl _ _) (fun _ => rfl)
                      (fun pre V => NewI w g8 go gp gs m (midP S k (plain pre)) S V ∧ Boxed V W.heap.size 3 (.int .i64 (k : Int)) ∧ Boxed V bb 136 (.int .u64 x) ∧ Marks w.heap.size Ds V)
                      (fun _ _ _ => False)
                      (OwnFrom.and (fun pre X Y row h hg hr => NewI.own (by omega) (midP S k (plain pre)) X Y row h hg hr) (OwnFrom.and (Own.from (boxed_own _ _ _) _) (OwnFrom.and (Own.from (boxed_own _ _ _) _) (fun _ X Y row h hg hr => h.grown hg (fun r e => (hr r e).1) hMl))))
                      (fun _ _ _ _ _ hs _ _ => hs)
                      ⟨hN3, bK3, hbox, hM3⟩
                      (fun j => { tmps := #[u0, u1, u2, u3, u4, u5, u6, u7, .pointer (some ⟨g8, 0, none⟩), u9, u10, .pointer (some ⟨W.heap.size, 0, none⟩), .pointer (some ⟨W.heap.size + 1, 0, none⟩), .int .i64 (j.val.val : Int), u14, u15, u16, u17, u18, u19, u20, u21, u22, u23, u24, u25, u26, u27, u28, u29, u30, u31, u32, u33, u34, u35, u36, u37, u38, u39, u40, u41, u42, u43, u44, u45, u46, u47, u48, u49, u50, u51, u52, u53, u54, u55, u56, u57, u58, u59, u60, u61, u62, u63, u64, u65, u66, u67, u68, u69, u70, u71, u72, u73, u74, u75, .slice (some ⟨gs, 0, none⟩) m m, .int .i64 (m : Int), .int .i64 (k : Int), .bool true, .int .i64 (k : Int), .pointer (some ⟨gs, k, none⟩), .agg #[.int .u64 x], .agg #[.int .u64 x], .int .i64 (k : Int), .bool false, .agg #[.int .u64 x], .func (.func 124) #[] #[.pointer (some ⟨bb, 0, none⟩)], .int .i64 (j.val.val : Int), u89, u90, u91, u92, u93, u94, u95, u96, u97, u98, u99, u100, u101, u102, u103, u104, u105, u106], defers := [] }) ?assign ?body ?done ?stop
                    case assign =>
                      intro l j V K hK
                      gi_wp2
                      exact hK
                    case body =>
                      rintro l pre j V ⟨hNv, bKv, bBv, hMv⟩ hlt2
                      have hj := hin.out j.val j.property
                      have zV := bBv.lt
                      have s0 := hNv.b8.cell
                      have s1 := hNv.c0
                      have s2 := bKv.cell
                      have n2 := hNv.ne.2.1
                      have n5 := hNv.ne.2.2.2.2.1
                      have e1 := hNv.pat hj
                      have hax : midP S k (plain pre) j.val.val < 18446744073709551616 := midP_lt S hk64 _ _
                      have KY := hide' (onlyO k hk64)
                      have hpw : (2 ^ k : Nat) < 18446744073709551616 := Nat.lt_of_lt_of_le (Nat.pow_lt_pow_right (by decide) hk64) (by decide)
                      have KO := hide' (or64 (midP S k (plain pre) j.val.val) (2 ^ k) hax hpw)
                      have hsat := hide' (fun (V : World) (hV : NewI w g8 go gp gs m (midP S k (plain pre)) S V) => hV.pat hj)
                      have hset : Hid (∀ V, NewI w g8 go gp gs m (midP S k (plain pre)) S V → NewI w g8 go gp gs m (midP S k (plain (pre ++ [j]))) S (V.setCell ⟨gp, j.val.val, none⟩ (.int .u64 ((midP S k (plain pre) j.val.val ||| 2 ^ k : Nat) : Int)))) := fun V hV =>
                        hV.setP (by rw [plain_snoc]; exact midP_here S k _ _) fun i _ hi => by rw [plain_snoc]; exact midP_other S k _ _ hi
                      have hNv' := hide' hNv
                      generalize midP S k (plain pre) j.val.val = y at *
                      generalize 2 ^ k = pw at *
                      generalize j.val.val = jj at *
                      clear hNv hlt2 hin hmid hnc' hHas hbit hcl0 hgood
                      gi_wp2
                      refine region_round (fun V => V.cell? ⟨g8, 0, none⟩ = some (.pointer (some ⟨go, 0, none⟩)) ∧ V.cell? ⟨go, 0, none⟩ = some (.slice (some ⟨gp, 0, none⟩) m m) ∧ V.cell? ⟨W.heap.size, 0, none⟩ = some (.int .i64 (k : Int))) hmx (noDefer_of (by kernel_rfl)) ?_ (fun hHeld => ?_)
                      · exact ⟨s0, s1, s2⟩
                      refine wpAnyH_take (i := 0) (oi := { dst := some 89, op := Op.load 104 (Operand.tmp 8), type := 104, pos := "order.go:38", after := #[], guard := none }) (v := ?_) rfl (by kernel_rfl) (by kernel_rfl) (by kernel_rfl) (fun _ _ _ h => h) (Or.inl ⟨by rfl, ?_⟩) (by assumption) ?_
                      rotate_left
                      · intro w hSw; (try dsimp only at hSw); go_simp <;> with_reducible rfl
                      simp only [Act.put, List.setIfInBounds_toArray, List.set_cons_zero, List.set_cons_succ]
                      refine wpAnyH_take (i := 1) (oi := { dst := some 90, op := Op.nilCheck (Operand.tmp 89), type := 0, pos := "order.go:38", after := #[{ on := 0, ground := Ground.data }], guard := none }) (v := ?_) rfl (by kernel_rfl) (by kernel_rfl) (by kernel_rfl) (fun _ _ _ h => h) (Or.inl ⟨by rfl, ?_⟩) (by assumption) ?_
                      rotate_left
                      · intro w hSw; (try dsimp only at hSw); go_simp <;> with_reducible rfl
                      simp only [Act.put, List.setIfInBounds_toArray, List.set_cons_zero, List.set_cons_succ]
                      refine wpAnyH_take (i := 2) (oi := { dst := some 91, op := Op.fieldAddr 143 (Operand.tmp 90) 0, type := 0, pos := "order.go:38", after := #[{ on := 1, ground := Ground.data }], guard := none }) (v := ?_) rfl (by kernel_rfl) (by kernel_rfl) (by kernel_rfl) (fun _ _ _ h => h) (Or.inl ⟨by rfl, ?_⟩) (by assumption) ?_
                      rotate_left
                      · intro w hSw; (try dsimp only at hSw); go_simp <;> with_reducible rfl
                      simp only [Act.put, List.setIfInBounds_toArray, List.set_cons_zero, List.set_cons_succ]
                      refine wpAnyH_take (i := 3) (oi := { dst := some 92, op := Op.load 141 (Operand.tmp 91), type := 141, pos := "order.go:38", after := #[{ on := 2, ground := Ground.data }], guard := none }) (v := ?_) rfl (by kernel_rfl) (by kernel_rfl) (by kernel_rfl) (fun _ _ _ h => h) (Or.inl ⟨by rfl, ?_⟩) (by assumption) ?_
                      rotate_left
                      · intro w hSw; (try dsimp only at hSw); go_simp <;> with_reducible rfl
                      simp only [Act.put, List.setIfInBounds_toArray, List.set_cons_zero, List.set_cons_succ]
                      refine wpAnyH_take (i := 4) (oi := { dst := some 93, op := Op.move (Operand.tmp 13), type := 3, pos := "order.go:38", after := #[], guard := none }) (v := ?_) rfl (by kernel_rfl) (by kernel_rfl) (by kernel_rfl) (fun _ _ _ h => h) (Or.inl ⟨by rfl, ?_⟩) (by assumption) ?_
                      rotate_left
                      · intro w hSw; (try dsimp only at hSw); go_simp <;> with_reducible rfl
                      simp only [Act.put, List.setIfInBounds_toArray, List.set_cons_zero, List.set_cons_succ]
                      refine wpAnyH_take (i := 5) (oi := { dst := some 94, op := Op.load 104 (Operand.tmp 8), type := 104, pos := "order.go:38", after := #[], guard := none }) (v := ?_) rfl (by kernel_rfl) (by kernel_rfl) (by kernel_rfl) (fun _ _ _ h => h) (Or.inl ⟨by rfl, ?_⟩) (by assumption) ?_
                      rotate_left
                      · intro w hSw; (try dsimp only at hSw); go_simp <;> with_reducible rfl
                      simp only [Act.put, List.setIfInBounds_toArray, List.set_cons_zero, List.set_cons_succ]
                      refine wpAnyH_take (i := 6) (oi := { dst := some 95, op := Op.nilCheck (Operand.tmp 94), type := 0, pos := "order.go:38", after := #[{ on := 5, ground := Ground.data }], guard := none }) (v := ?_) rfl (by kernel_rfl) (by kernel_rfl) (by kernel_rfl) (fun _ _ _ h => h) (Or.inl ⟨by rfl, ?_⟩) (by assumption) ?_
                      rotate_left
                      · intro w hSw; (try dsimp only at hSw); go_simp <;> with_reducible rfl
                      simp only [Act.put, List.setIfInBounds_toArray, List.set_cons_zero, List.set_cons_succ]
                      refine wpAnyH_take (i := 7) (oi := { dst := some 96, op := Op.fieldAddr 143 (Operand.tmp 95) 0, type := 0, pos := "order.go:38", after := #[{ on := 6, ground := Ground.data }], guard := none }) (v := ?_) rfl (by kernel_rfl) (by kernel_rfl) (by kernel_rfl) (fun _ _ _ h => h) (Or.inl ⟨by rfl, ?_⟩) (by assumption) ?_
                      rotate_left
                      · intro w hSw; (try dsimp only at hSw); go_simp <;> with_reducible rfl
                      simp only [Act.put, List.setIfInBounds_toArray, List.set_cons_zero, List.set_cons_succ]
                      refine wpAnyH_take (i := 8) (oi := { dst := some 97, op := Op.load 141 (Operand.tmp 96), type := 141, pos := "order.go:38", after := #[{ on := 7, ground := Ground.data }], guard := none }) (v := ?_) rfl (by kernel_rfl) (by kernel_rfl) (by kernel_rfl) (fun _ _ _ h => h) (Or.inl ⟨by rfl, ?_⟩) (by assumption) ?_
                      rotate_left
                      · intro w hSw; (try dsimp only at hSw); go_simp <;> with_reducible rfl
                      simp only [Act.put, List.setIfInBounds_toArray, List.set_cons_zero, List.set_cons_succ]
                      refine wpAnyH_take (i := 9) (oi := { dst := some 98, op := Op.move (Operand.tmp 13), type := 3, pos := "order.go:38", after := #[], guard := none }) (v := ?_) rfl (by kernel_rfl) (by kernel_rfl) (by kernel_rfl) (fun _ _ _ h => h) (Or.inl ⟨by rfl, ?_⟩) (by assumption) ?_
                      rotate_left
                      · intro w hSw; (try dsimp only at hSw); go_simp <;> with_reducible rfl
                      simp only [Act.put, List.setIfInBounds_toArray, List.set_cons_zero, List.set_cons_succ]
                      refine wpAnyH_take (i := 10) (oi := { dst := some 99, op := Op.indexAddr 141 (Operand.tmp 97) (Operand.tmp 98), type := 0, pos := "order.go:38", after := #[{ on := 8, ground := Ground.data }, { on := 9, ground := Ground.data }], guard := none }) (v := ?_) rfl (by kernel_rfl) (by kernel_rfl) (by kernel_rfl) (fun _ _ _ h => h) (Or.inl ⟨by rfl, ?_⟩) (by assumption) ?_
                      rotate_left
                      · intro w hSw; (try dsimp only at hSw); go_simp <;> with_reducible rfl
                      simp only [Act.put, List.setIfInBounds_toArray, List.set_cons_zero, List.set_cons_succ]
                      refine wpAnyH_take (i := 12) (oi := { dst := some 101, op := Op.load 3 (Operand.tmp 11), type := 3, pos := "order.go:38", after := #[], guard := none }) (v := ?_) rfl (by kernel_rfl) (by kernel_rfl) (by kernel_rfl) (fun _ _ _ h => h) (Or.inl ⟨by rfl, ?_⟩) (by assumption) ?_
                      rotate_left
                      · intro w hSw; (try dsimp only at hSw); go_simp <;> with_reducible rfl
                      simp only [Act.put, List.setIfInBounds_toArray, List.set_cons_zero, List.set_cons_succ]
                      refine wpAnyH_ready (rs := [11, 13]) (by kernel_rfl) (by simp) ?_
                      refine AllReadyH.cons (o := { dst := some 100, op := Op.load 136 (Operand.tmp 99), type := 136, pos := "order.go:38", after := #[{ on := 10, ground := Ground.data }], guard := none }) rfl (fun K hK => ?_) ?_
                      · skip
                        go_simp
                        refine hK.out _ _ ?_ (fun hHeld => ?_)
                        · exact hHeld
                        clear hK K
                        try simp only [Act.put, List.setIfInBounds_toArray, List.set_cons_zero, List.set_cons_succ]
                        refine wpAnyH_ready (rs := [13]) (by kernel_rfl) (by simp) ?_
                        refine AllReadyH.cons (o := { dst := some 102, op := Op.call { callee := Callee.value (Operand.func 96), args := #[Operand.tmp 101], argTypes := #[3] }, type := 136, pos := "order.go:38", after := #[{ on := 12, ground := Ground.data }], guard := none }) rfl (fun K hK => ?_) AllReadyH.nil
                        go_simp
                        refine (KY.out _).mono ?_; rintro e w4 ⟨rfl, hb4⟩; (try dsimp only); have hBV4 : Below V.heap.size V w4 := ((Below.refl _ _).drew).trans hb4; have hN4 := hNv'.out.over hBV4; have e4 := hsat.out _ hN4
                        refine hK.out _ _ ?_ (fun hHeld => ?_)
                        · exact ⟨cell_over hHeld.1 hb4, cell_over hHeld.2.1 hb4, cell_over hHeld.2.2 hb4⟩
                        clear hK K
                        try simp only [Act.put, List.setIfInBounds_toArray, List.set_cons_zero, List.set_cons_succ]
                        refine wpAnyH_ready (rs := [14]) (by kernel_rfl) (by simp) ?_
                        refine AllReadyH.cons (o := { dst := some 103, op := Op.call { callee := Callee.value (Operand.func 95), args := #[Operand.tmp 100, Operand.tmp 102], argTypes := #[136, 136] }, type := 136, pos := "order.go:38", after := #[{ on := 11, ground := Ground.data }, { on := 13, ground := Ground.data }, { on := 13, ground := Ground.chain }], guard := none }) rfl (fun K hK => ?_) AllReadyH.nil
                        go_simp
                        refine (KO.out _).mono ?_; rintro e w5 ⟨rfl, hb5⟩; (try dsimp only); have hN5 := hN4.over hb5; have e5 := hsat.out _ hN5; have f5 := hN5.pr.frozenAt jj
                        refine hK.out _ _ ?_ (fun hHeld => ?_)
                        · exact ⟨cell_over hHeld.1 hb5, cell_over hHeld.2.1 hb5, cell_over hHeld.2.2 hb5⟩
                        clear hK K
                        try simp only [Act.put, List.setIfInBounds_toArray, List.set_cons_zero, List.set_cons_succ]
                        refine wpAnyH_take (i := 15) (oi := { dst := some 104, op := Op.indexAddr 141 (Operand.tmp 92) (Operand.tmp 93), type := 0, pos := "order.go:38", after := #[{ on := 3, ground := Ground.data }, { on := 4, ground := Ground.data }, { on := 0, ground := Ground.phase }, { on := 1, ground := Ground.phase }, { on := 2, ground := Ground.phase }, { on := 3, ground := Ground.phase }, { on := 4, ground := Ground.phase }, { on := 5, ground := Ground.phase }, { on := 6, ground := Ground.phase }, { on := 7, ground := Ground.phase }, { on := 8, ground := Ground.phase }, { on := 9, ground := Ground.phase }, { on := 10, ground := Ground.phase }, { on := 11, ground := Ground.phase }, { on := 12, ground := Ground.phase }, { on := 13, ground := Ground.phase }, { on := 14, ground := Ground.phase }], guard := none }) (v := ?_) rfl (by kernel_rfl) (by kernel_rfl) (by kernel_rfl) (fun _ _ _ h => h) (Or.inl ⟨by rfl, ?_⟩) (by assumption) ?_
                        rotate_left
                        · intro w hSw; (try dsimp only at hSw); go_simp <;> with_reducible rfl
                        simp only [Act.put, List.setIfInBounds_toArray, List.set_cons_zero, List.set_cons_succ]
                        refine wpAnyH_ready (rs := [16]) (by kernel_rfl) (by simp) ?_
                        refine AllReadyH.cons (o := { dst := none, op := Op.store 136 (Operand.tmp 104) (Operand.tmp 103), type := 0, pos := "order.go:38", after := #[{ on := 15, ground := Ground.data }, { on := 14, ground := Ground.data }, { on := 14, ground := Ground.chain }, { on := 0, ground := Ground.phase }, { on := 1, ground := Ground.phase }, { on := 2, ground := Ground.phase }, { on := 3, ground := Ground.phase }, { on := 4, ground := Ground.phase }, { on := 5, ground := Ground.phase }, { on := 6, ground := Ground.phase }, { on := 7, ground := Ground.phase }, { on := 8, ground := Ground.phase }, { on := 9, ground := Ground.phase }, { on := 10, ground := Ground.phase }, { on := 11, ground := Ground.phase }, { on := 12, ground := Ground.phase }, { on := 13, ground := Ground.phase }, { on := 14, ground := Ground.phase }], guard := none }) rfl (fun K hK => ?_) AllReadyH.nil
                        go_simp
                        refine hK.out _ _ ?_ (fun hHeld => ?_)
                        · exact ⟨cell_far hHeld.1 n5, cell_far hHeld.2.1 n2, cell_far hHeld.2.2 (by omega)⟩
                        clear hK K
                        try simp only [Act.put, List.setIfInBounds_toArray, List.set_cons_zero, List.set_cons_succ]
                        refine wpAnyH_done (by kernel_rfl) ?_ _
                        unfold onlyNormal
                        gi_wp2
                        have hB5 : Below V.heap.size V w5 := hBV4.trans (hb5.mono hBV4.size)
                        have hNe := hset.out _ hN5
                        have bBe := (bxb bBv hB5 zV).kept (row := some gp) (hN5.pr.stored jj (.int .u64 ((y ||| pw : Nat) : Int))).2 (by simp; omega)
                        have bKe := (bxb bKv hB5 bKv.lt).kept (row := some gp) (hN5.pr.stored jj (.int .u64 ((y ||| pw : Nat) : Int))).2 (by simp; omega)
                        have hke := (keepsO hB5).trans (KeepsOthers.setCell w5 ⟨gp, jj, none⟩ (.int .u64 ((y ||| pw : Nat) : Int)))
                        exact ⟨hke.from _, ⟨bBe.cell.trans bBv.cell.symm, fun h => ht.over hNe.bl⟩, hNe, bKe, bBe, hMv.keeps hke⟩
                      refine AllReadyH.cons (o := { dst := some 102, op := Op.call { callee := Callee.value (Operand.func 96), args := #[Operand.tmp 101], argTypes := #[3] }, type := 136, pos := "order.go:38", after := #[{ on := 12, ground := Ground.data }], guard := none }) rfl (fun K hK => ?_) AllReadyH.nil
                      go_simp
                      refine (KY.out _).mono ?_; rintro e w4 ⟨rfl, hb4⟩; (try dsimp only); have hBV4 : Below V.heap.size V w4 := ((Below.refl _ _).drew).trans hb4; have hN4 := hNv'.out.over hBV4; have e4 := hsat.out _ hN4
                      refine hK.out _ _ ?_ (fun hHeld => ?_)
                      · exact ⟨cell_over hHeld.1 hb4, cell_over hHeld.2.1 hb4, cell_over hHeld.2.2 hb4⟩
                      clear hK K
                      try simp only [Act.put, List.setIfInBounds_toArray, List.set_cons_zero, List.set_cons_succ]
                      refine wpAnyH_ready (rs := [11]) (by kernel_rfl) (by simp) ?_
                      refine AllReadyH.cons (o := { dst := some 100, op := Op.load 136 (Operand.tmp 99), type := 136, pos := "order.go:38", after := #[{ on := 10, ground := Ground.data }], guard := none }) rfl (fun K hK => ?_) AllReadyH.nil
                      go_simp
                      refine hK.out _ _ ?_ (fun hHeld => ?_)
                      · exact hHeld
                      clear hK K
                      try simp only [Act.put, List.setIfInBounds_toArray, List.set_cons_zero, List.set_cons_succ]
                      refine wpAnyH_ready (rs := [14]) (by kernel_rfl) (by simp) ?_
                      refine AllReadyH.cons (o := { dst := some 103, op := Op.call { callee := Callee.value (Operand.func 95), args := #[Operand.tmp 100, Operand.tmp 102], argTypes := #[136, 136] }, type := 136, pos := "order.go:38", after := #[{ on := 11, ground := Ground.data }, { on := 13, ground := Ground.data }, { on := 13, ground := Ground.chain }], guard := none }) rfl (fun K hK => ?_) AllReadyH.nil
                      go_simp
                      refine (KO.out _).mono ?_; rintro e w5 ⟨rfl, hb5⟩; (try dsimp only); have hN5 := hN4.over hb5; have e5 := hsat.out _ hN5; have f5 := hN5.pr.frozenAt jj
                      refine hK.out _ _ ?_ (fun hHeld => ?_)
                      · exact ⟨cell_over hHeld.1 hb5, cell_over hHeld.2.1 hb5, cell_over hHeld.2.2 hb5⟩
                      clear hK K
                      try simp only [Act.put, List.setIfInBounds_toArray, List.set_cons_zero, List.set_cons_succ]
                      refine wpAnyH_take (i := 15) (oi := { dst := some 104, op := Op.indexAddr 141 (Operand.tmp 92) (Operand.tmp 93), type := 0, pos := "order.go:38", after := #[{ on := 3, ground := Ground.data }, { on := 4, ground := Ground.data }, { on := 0, ground := Ground.phase }, { on := 1, ground := Ground.phase }, { on := 2, ground := Ground.phase }, { on := 3, ground := Ground.phase }, { on := 4, ground := Ground.phase }, { on := 5, ground := Ground.phase }, { on := 6, ground := Ground.phase }, { on := 7, ground := Ground.phase }, { on := 8, ground := Ground.phase }, { on := 9, ground := Ground.phase }, { on := 10, ground := Ground.phase }, { on := 11, ground := Ground.phase }, { on := 12, ground := Ground.phase }, { on := 13, ground := Ground.phase }, { on := 14, ground := Ground.phase }], guard := none }) (v := ?_) rfl (by kernel_rfl) (by kernel_rfl) (by kernel_rfl) (fun _ _ _ h => h) (Or.inl ⟨by rfl, ?_⟩) (by assumption) ?_
                      rotate_left
                      · intro w hSw; (try dsimp only at hSw); go_simp <;> with_reducible rfl
                      simp only [Act.put, List.setIfInBounds_toArray, List.set_cons_zero, List.set_cons_succ]
                      refine wpAnyH_ready (rs := [16]) (by kernel_rfl) (by simp) ?_
                      refine AllReadyH.cons (o := { dst := none, op := Op.store 136 (Operand.tmp 104) (Operand.tmp 103), type := 0, pos := "order.go:38", after := #[{ on := 15, ground := Ground.data }, { on := 14, ground := Ground.data }, { on := 14, ground := Ground.chain }, { on := 0, ground := Ground.phase }, { on := 1, ground := Ground.phase }, { on := 2, ground := Ground.phase }, { on := 3, ground := Ground.phase }, { on := 4, ground := Ground.phase }, { on := 5, ground := Ground.phase }, { on := 6, ground := Ground.phase }, { on := 7, ground := Ground.phase }, { on := 8, ground := Ground.phase }, { on := 9, ground := Ground.phase }, { on := 10, ground := Ground.phase }, { on := 11, ground := Ground.phase }, { on := 12, ground := Ground.phase }, { on := 13, ground := Ground.phase }, { on := 14, ground := Ground.phase }], guard := none }) rfl (fun K hK => ?_) AllReadyH.nil
                      go_simp
                      refine hK.out _ _ ?_ (fun hHeld => ?_)
                      · exact ⟨cell_far hHeld.1 n5, cell_far hHeld.2.1 n2, cell_far hHeld.2.2 (by omega)⟩
                      clear hK K
                      try simp only [Act.put, List.setIfInBounds_toArray, List.set_cons_zero, List.set_cons_succ]
                      refine wpAnyH_done (by kernel_rfl) ?_ _
                      unfold onlyNormal
                      gi_wp2
                      have hB5 : Below V.heap.size V w5 := hBV4.trans (hb5.mono hBV4.size)
                      have hNe := hset.out _ hN5
                      have bBe := (bxb bBv hB5 zV).kept (row := some gp) (hN5.pr.stored jj (.int .u64 ((y ||| pw : Nat) : Int))).2 (by simp; omega)
                      have bKe := (bxb bKv hB5 bKv.lt).kept (row := some gp) (hN5.pr.stored jj (.int .u64 ((y ||| pw : Nat) : Int))).2 (by simp; omega)
                      have hke := (keepsO hB5).trans (KeepsOthers.setCell w5 ⟨gp, jj, none⟩ (.int .u64 ((y ||| pw : Nat) : Int)))
                      exact ⟨hke.from _, ⟨bBe.cell.trans bBv.cell.symm, fun h => ht.over hNe.bl⟩, hNe, bKe, bBe, hMv.keeps hke⟩
                    case done =>
                      rintro D ys V hD hys ⟨hNv, bKv, bBv, hMv⟩ hK
                      rw [hys] at hNv
                      have hNe := hide' (hNv.congrP hmid.out)
                      have hMe := hide' (hMv.cons hK (by omega) (fun E hE => by have := hMl E hE; omega))
                      clear hNv hMv hbit hin hmid hgood hcl0 hHas
                      go_wp2
                      refine ⟨⟨k + 1, D :: Ds, (k : Int) + 1, ?_⟩, ?_⟩
                      · repeat apply Exists.intro
                        exact ⟨⟨by show (k : Int) + 1 = ((k + 1 : Nat) : Int); omega, by omega, hMe.out, hNe.out, hnc'.out⟩, rfl⟩
                      · simp [intOf]; omega
                    case stop =>
                      rintro D c pre V _ _ h _
                      exact h.elim
                · obtain rfl : k = m := by omega
                  have hg : Hid (goodP k L) := ⟨hn, hgood.out⟩
                  have hncy : Hid (¬ cycL k L) := by
                    rintro ⟨a, ha, h⟩
                    have h2 := hbit a ha a
                    rw [hnc a ha] at h2
                    exact absurd (h2.symm.trans rfl) (by rw [show clo k (relL L) a a = true from h]; simp)
                  have hO : Hid (Ord k (ordL k L) (prP S k) S) := ord_of hm hgood.out hbit hnc
                  have t0 := hN.b8.cell
                  have hN' := hide' hN
                  clear hlt hN hnc hbit
                  go_wp2
                  refine leaves_marks Ds _ hM fun W' hW' => ?_
                  have hNe := hN'.out.shut hW'
                  exact ⟨.tuple #[.pointer (some ⟨go, 0, none⟩), .int .i64 0], by simp [results, Tryz.results139, go_sem], hNe.bl, .inr (.inr ⟨hg.out, hncy.out, go, gp, gs, prP S k, S, rfl, ⟨hNe.ge.1, hNe.ge.2.2.1, hNe.ge.2.2.2⟩, hNe.ord, hO.out⟩)⟩
  · have hbad : Hid (¬ goodP n L) := fun h => hn h.1
    by_cases h0 : n < 0
    · go_wp2
      exact ⟨.tuple #[.pointer none, .int .i64 1], by simp [results, Tryz.results139, go_sem], Below.refl _ _, .inl ⟨hbad.out, rfl⟩⟩
    · have h1 : 64 < n := by omega
      go_wp2
      exact ⟨.tuple #[.pointer none, .int .i64 1], by simp [results, Tryz.results139, go_sem], Below.refl _ _, .inl ⟨hbad.out, rfl⟩⟩
theorem newO (n : Int) (v : Value) (L : List (Int × Int)) (w : World) (hv : PairsAt w v L) (hl : L.length ≤ 9000000000000000000) (ht : Tab w) : Calls Tryz.prog 139 #[.int .i64 n, v] w (NewR w n L) := callsIn_wide.1 (newC n v L w hv hl ht)
end Go.Proofs.YtahfobbiaimoiaaGreatDoor.O
