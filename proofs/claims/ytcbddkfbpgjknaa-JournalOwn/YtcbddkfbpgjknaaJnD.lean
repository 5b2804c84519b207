/- JournalOwn, walked. -/
import Derived.Test.YtcbddkfbpgjknaaJnB
import Derived.Test.YtcbddkfbpgjknaaJnZ
import Derived.Test.YtcbddkfbpgjknaaJnC
namespace Go.Proofs.Ytcbddkfbpgjknaa
open Go.RowKit
theorem Kj.then_below {g gb gj : Nat} {W W1 W2 : World} (h : Kj g gb gj W W1) (hb : Below W.heap.size W1 W2) : Kj g gb gj W W2 :=
  ⟨hb.os.trans h.os, hb.tape.trans h.tape, hb.output.trans h.output, Nat.le_trans h.size hb.size, fun k hk h1 h2 h3 => (hb.block k hk).trans (h.block k hk h1 h2 h3)⟩
/-- What stands between the rounds of the first loop. -/
structure Dz (w : World) (g gb B gj : Nat) (D : Dk) (J : Jn) (i : Nat) (kv : Value) (G : List (Value × List Nat)) (V : World) : Prop where
  kk : Kk w g gb 200 B gj D J (i + 1) kv G V
  fr : Fre D
  dn : J.dn = false
  je : J.e ≤ 1 + 8 * i
  lj : gj < B
theorem blk_own {W : World} {B : Nat} {e : TypeId} {sz g n c : Nat} {xs : List Value} (h : W.ownsRow B e sz (.slice (some ⟨g, 0, none⟩) n c) n xs) : ∃ cur, W.heap[g]? = some (.cells cur e (0, 0)) ∧ n * sz ≤ cur.size ∧ B ≤ g := by
  rcases h.2 with ⟨e, _⟩ | ⟨g', cap, cur, e, hb, hg, hc, _, hs, _⟩
  · cases e
  · cases e
    refine ⟨cur, hg, ?_, hb⟩
    rw [hs]
    exact Nat.mul_le_mul_right _ hc
theorem conv_own {W V : World} {B g n c : Nat} {L : List Nat} (h : W.ownsRow B 5 1 (.slice (some ⟨g, 0, none⟩) n c) n (cellsB L)) (hV : V.heap[g]? = W.heap[g]?) : (convert 34 9 (.slice (some ⟨g, 0, none⟩) n c)).run Try.prog V = .ok (.string (strB L)) V := by
  have hn : n = L.length := by have := h.1; rw [cellsB_len] at this; omega
  subst hn
  refine conv_bytes (RowC.of_owns (B := B) ⟨h.1, ?_⟩)
  rcases h.2 with q | ⟨g', cap, cur, e, h1, hg, h3⟩
  · exact .inl q
  · cases e
    exact .inr ⟨_, _, cur, rfl, h1, hV.trans hg, h3⟩
theorem row_own {W : World} {B g n c : Nat} {L : List Nat} (h : W.ownsRow B 5 1 (.slice (some ⟨g, 0, none⟩) n c) n (cellsB L)) : RowC W (.slice (some ⟨g, 0, none⟩) n c) L := by
  have hn : n = L.length := by have := h.1; rw [cellsB_len] at this; omega
  subst hn
  exact RowC.of_owns h
theorem cap_own {W : World} {B g n c : Nat} {xs : List Value} (h : W.ownsRow B 5 1 (.slice (some ⟨g, 0, none⟩) n c) n xs) : n ≤ c := by
  rcases h.2 with ⟨e, _⟩ | ⟨g', cap, cur, e, _, _, hc, _⟩
  · cases e
  · cases e; exact hc
theorem news_blk {W : World} {g : Nat} {L : List Nat} (h : BkB W g L) : ∀ j u, (cellsB L)[j]? = some u → W.cell? ((⟨g, 0, none⟩ : Addr).add j) = some u := fun j u hu => by
  obtain ⟨z, hz, rfl⟩ := cellsB_at hu
  rw [Addr.add_lit, Nat.zero_add]
  exact h.cell hz
theorem Std.lens {L : List Nat} {n : Nat} : ∀ {rs : List (List Nat)} {q c p : Nat}, Std L n rs q c p → ∀ r ∈ rs, r.length ≤ 131072
  | [], _, _, _, _, r, hr => by cases hr
  | x :: rs, q, c, p, h, r, hr => by
    obtain ⟨h1, _, _, _, h5⟩ := h
    rcases List.mem_cons.1 hr with rfl | h2
    · exact h1
    · exact Std.lens h5 r h2
def l789 : List Nat := [7, 8, 9]
set_option maxRecDepth 100000 in
set_option maxHeartbeats 16000000 in
theorem journalOwn_walk (F : List (List Nat)) (fv : Value) (w : World) (hF : RowR w fv F) (hFb : ∀ r ∈ F, B256 r) : Calls Try.prog 7 #[fv] w fun e w' => e = .returned (.bool true) ∧ Below w.heap.size w w' := by
  have hF' := hide' hF
  have hFb' := hide' hFb
  obtain ⟨of, cf, rfl, _⟩ := hF
  clear hFb
  generalize hm : F.length = m at *
  have hm' := hide' hm
  clear hm
  have K := hide' (newF 200 w (by omega) (by omega))
  unfold NewP at K
  rw [show ((200 : Nat) : Int) = 200 from rfl] at K
  go_enter Try.func7, Try.ntmps7
  go_wp2_with fail
  refine K.out.mono ?_
  rintro e w1 ⟨g, gb, rfl, hd, hge, hb⟩
  have K1 := hide' (wakesJ w1)
  have KO := hide' (fun V (hV : Below w1.heap.size w1 V) => kz_open2 (w := w) (hd.out.below hV (Nat.le_refl _)) (by omega) (by omega) (hb.out.trans (hV.mono hb.out.size)) hge.out.1 hge.out.2)
  unfold KoF at KO
  go_wp2_with (first | (go_at_call 9; refine K1.out.mono ?_; rintro e w2 ⟨rfl, hw2⟩; have hw2' := hide' hw2; clear hw2))
  refine (KO.out w2 hw2'.out).mono ?_
  rintro e w3 ⟨gj, oj, cj, kl, D, J, GG, rfl, hkl, hz, _, _, hJ⟩
  obtain rfl : kl = 0 := hkl.out.1
  have hQ : Hid (Dz w g gb w3.heap.size gj D J 0 (.slice none 0 0) [] w3) := ⟨⟨hz.out, RsO.nil _ _, blk_lt hz.out.dk.1, blk_lt hz.out.dk.2, hz.out.be.size, Nat.le_refl _, by simp⟩, hJ.out.2.2.2 (newD_free 200), hJ.out.1, by have := hJ.out.2.1; omega, blk_lt hz.out.jn⟩
  clear hz hkl KO K1 K hd hge hb hw2' hJ
  generalize w3.heap.size = B at *
  go_upto_block 0 with fail
  go_cut [8, 9, 10, 11, 12] from 44 to 94 (fun kv _ _ _ _ wx => ∃ (i : Nat) (D : Dk) (J : Jn) (G : List (Value × List Nat)) (ok : Option Addr) (gl ck : Nat), kv = .slice ok gl ck ∧ i ≤ 20 ∧ Hid (gl = G.length) ∧ Hid (Dz w g gb B gj D J i (.slice ok gl ck) G wx))
  case first => as_aux_lemma =>
    go_wp2_with fail
    go_loopw [8, 9, 10, 11, 12] (fun kv iv _ _ _ wr => ∃ (i : Nat) (D : Dk) (J : Jn) (G : List (Value × List Nat)) (ok : Option Addr) (gl ck : Nat), kv = .slice ok gl ck ∧ iv = .int .i64 (i : Int) ∧ i ≤ 20 ∧ Hid (gl = G.length) ∧ Hid (Dz w g gb B gj D J i (.slice ok gl ck) G wr)) (fun _ iv _ _ _ _ => ((20 : Int) - intOf iv).toNat)
    case atStart => exact ⟨0, D, J, [], none, 0, 0, rfl, rfl, by omega, rfl, hQ⟩
    case round =>
      clear hQ
      obtain ⟨i, D, J, G, ok, gl, ck, rfl, rfl, hi, hgl, hQ⟩ := hrel
      by_cases hlt : i < m ∧ i < 20
      · have hlt1 : (i : Int) < (m : Int) := by omega
        have hlt2 : (i : Int) < 20 := by omega
        obtain ⟨r, hr⟩ : ∃ r, F[i]? = some r := ⟨_, List.getElem?_eq_getElem (by rw [hm'.out]; omega)⟩
        obtain ⟨g0, o0, u, rfl, hcell, hrow⟩ := hF'.out.at hr
        have c0 := hcell.out wr hQ.out.kk.kz.be
        have KF := hide' (fewS r u wr 100 (by omega) (hrow.out.below hQ.out.kk.kz.be (Nat.le_refl _)))
        rw [show ((100 : Nat) : Int) = 100 from rfl] at KF
        have hXl : Hid ((r.take 100).length ≤ 100) := by unfold Hid; rw [List.length_take]; omega
        have hXb := hide' ((hFb'.out r (List.mem_of_getElem? hr)).take 100)
        generalize r.take 100 = X at *
        clear hr hcell hrow
        go_wp2_with fail
        refine KF.out.mono ?_
        rintro e w4 ⟨g1, n1, c1, rfl, hn1, hx4, hb4⟩
        have hk4 := hide' (hQ.out.kk.up hb4.out)
        have hn100 : n1 ≤ 100 := by rw [hn1.out]; exact hXl.out
        have hrx4 := hide' (row_own hx4.out)
        have hnX : Hid (n1 = X.length) := hn1
        go_upto_region 13 with (first | (at_builtin; refine appL rfl (.tmp 59) (.tmp 60) rfl w4.heap.size (.slice (some ⟨w4.heap.size, 0, none⟩) 0 0) [] 0 rfl rfl (owns_zero w4 _) ⟨g1, 0, none⟩ n1 c1 X rfl hnX.out (fun j u hu => cell_new (cells_row hrx4.out j u hu)) (by simp) (by have := hXl.out; simp; omega) (fun e => by cases e) ?_; intro g5 n5 c5 w5 hn5 hx5 hb5 hg5; have hT5 := hide' (news_blk (L := l789) (show BkB (w5.alloc (.cells #[.int .u8 7, .int .u8 8, .int .u8 9] 5)) w5.heap.size l789 from heap_new _ _)); have hx5' := hide' (show (w5.alloc (.cells #[.int .u8 7, .int .u8 8, .int .u8 9] 5)).ownsRow w4.heap.size 5 1 (.slice (some ⟨g5, 0, none⟩) n5 c5) n5 (cellsB ([] ++ X)) from World.ownsRow.alloc hx5.out _); have hs5 : Hid (w4.heap.size ≤ (w5.alloc (.cells #[.int .u8 7, .int .u8 8, .int .u8 9] 5)).heap.size) := by { have := hb5.out.size; rw [size_alloc] at this; unfold Hid; rw [size_alloc]; omega }) | (at_builtin; refine appL rfl (.tmp 61) (.tmp 62) rfl w4.heap.size (.slice (some ⟨g5, 0, none⟩) n5 c5) ([] ++ X) n5 rfl hn5.out hx5'.out ⟨w5.heap.size, 0, none⟩ 3 3 l789 rfl rfl hT5.out hs5.out (by have := hXl.out; simp [l789]; omega) (fun e => by cases e) ?_; intro g6 n6 c6 w6 hn6 hx6 hb6 hg6))
        have hb45 : Hid (Below w4.heap.size w4 w5) := ((Below.refl _ _).alloc (Nat.le_refl _) _).trans hb5.out
        have hb46 : Hid (Below w4.heap.size w4 w6) := (hb45.out.alloc hb45.out.size _).trans hb6.out
        have hk6 := hide' (hk4.out.up hb46.out)
        have hrx6 := hide' (row_own (own_up hx4.out hb46.out))
        have hlv4 := hide' hk4.out.lv
        obtain ⟨cur6, hcur6, hsz6, hge6⟩ := blk_own hx6.out
        have hcur6' := hide' hcur6
        have hge6' := hide' hge6
        have hsz6' := hide' hsz6
        have hcap6 := cap_own hx6.out
        have hn6e : Hid (n6 = n1 + 3) := by unfold Hid; rw [hn6.out, hnX.out]; simp [l789]
        have hn61 : n1 ≤ n6 := by rw [hn6e.out]; omega
        clear hcur6 hge6 hsz6 hx5' hT5 hs5 hb5 hb6 hg5 hg6 hx5 hn5
        go_cut [81] from 64 to 80 (fun tv wx => tv = .bool false ∧ ∃ (D' : Dk) (J' : Jn), Hid (Kz w g gb 200 gj D' J' (G.map (·.2) ++ [X]) (i + 1 + 1) wx) ∧ Hid (Fre D') ∧ Hid (J'.dn = false ∧ J'.e ≤ 1 + 8 * (i + 1)) ∧ Hid (Kj g gb gj w4 wx) ∧ Hid (wx.heap[g6]? = w6.heap[g6]?))
        case first => as_aux_lemma =>
          have hk6d := hide' (hk6.out.up (Below.refl _ w6).drew)
          have hsX : Hid (spn X.length ≤ 7) := by have := hXl.out; unfold Hid spn; omega
          have hrowA : Hid (RowC w6.drew (.slice (some ⟨g6, 0, none⟩) n1 c6) X) := by
            have h1 := RowC.take (row_own hx6.out) n1 (by rw [← hn6.out]; exact hn61)
            rw [show (([] : List Nat) ++ X ++ l789).take n1 = X by rw [List.nil_append, hnX.out, List.take_append_of_le_length (Nat.le_refl _), List.take_length]] at h1
            exact h1.below (Below.refl _ w6).drew (Nat.le_refl _)
          have KA := hide' (hk6d.out.kz.appF hQ.out.fr hQ.out.dn (by have := hQ.out.je; have := hsX.out; omega) hrowA.out (fun x o n c e => by
            cases e
            have h1 := hQ.out.kk.lg
            have h2 := hQ.out.kk.lb
            have h3 := hlv4.out
            have h4 := hge6'.out
            exact ⟨by omega, by omega⟩) (by have := hXl.out; omega) hXb.out (by omega))
          have hS : Hid (∀ V, V.heap[g6]? = w6.heap[g6]? → (convert 34 9 (.slice (some ⟨g6, 0, none⟩) n6 c6)).run Try.prog V = .ok (.string (strB (([] ++ X) ++ l789))) V) := fun V hV => conv_own hx6.out hV
          have hXX : Hid (([] ++ X).length + l789.length ≤ 1000000) := by have := hXl.out; unfold Hid; simp [l789]; omega
          have hXX0 : Hid (([] : List Nat).length + X.length ≤ 1000000) := by have := hXl.out; unfold Hid; simp; omega
          have hbi1 : (n1 : Int) ≤ (n6 : Int) := by omega
          have hbi2 : (n1 : Int) ≤ (c6 : Int) := by omega
          have hbi3 : (0 : Int) ≤ (n1 : Int) := by omega
          have hbi4 : n1 ≤ c6 := by omega
          generalize hsb : strB (([] ++ X) ++ l789) = sb at *
          have hsb' := hide' hsb
          clear hsb
          go_wp2_with fail
          refine wp_region_noPanic (wp_region_held_drew (S := (fun V => (convert 34 9 (.slice (some ⟨g6, 0, none⟩) n6 c6)).run Try.prog V = .ok (.string sb) V)) (by kernel_rfl) ?_ (fun hHeld => ?_))
          · exact hS.out _ rfl
          refine wpAnyH_take (i := 0) (oi := { dst := some 64, op := Op.move (Operand.tmp 5), type := 29, pos := "law.go:265", after := #[], guard := none }) (v := ?_) rfl (by kernel_rfl) (by kernel_rfl) (by kernel_rfl) (fun _ _ _ h => h) (Or.inl ⟨by rfl, ?_⟩) (by assumption) ?_
          rotate_left
          · intro w hSw; (try dsimp only at hSw); go_simp <;> with_reducible rfl
          simp only [Act.put, List.setIfInBounds_toArray, List.set_cons_zero, List.set_cons_succ]
          refine wpAnyH_take (i := 1) (oi := { dst := some 65, op := Op.move (Operand.tmp 11), type := 34, pos := "law.go:265", after := #[], guard := none }) (v := ?_) rfl (by kernel_rfl) (by kernel_rfl) (by kernel_rfl) (fun _ _ _ h => h) (Or.inl ⟨by rfl, ?_⟩) (by assumption) ?_
          rotate_left
          · intro w hSw; (try dsimp only at hSw); go_simp <;> with_reducible rfl
          simp only [Act.put, List.setIfInBounds_toArray, List.set_cons_zero, List.set_cons_succ]
          refine wpAnyH_take (i := 2) (oi := { dst := some 66, op := Op.move (Operand.tmp 10), type := 34, pos := "law.go:265", after := #[], guard := none }) (v := ?_) rfl (by kernel_rfl) (by kernel_rfl) (by kernel_rfl) (fun _ _ _ h => h) (Or.inl ⟨by rfl, ?_⟩) (by assumption) ?_
          rotate_left
          · intro w hSw; (try dsimp only at hSw); go_simp <;> with_reducible rfl
          simp only [Act.put, List.setIfInBounds_toArray, List.set_cons_zero, List.set_cons_succ]
          refine wpAnyH_take (i := 3) (oi := { dst := some 67, op := Op.call { callee := Callee.builtin Builtin.len, args := #[Operand.tmp 66], argTypes := #[34] }, type := 3, pos := "law.go:265", after := #[{ on := 2, ground := Ground.data }], guard := none }) (v := ?_) rfl (by kernel_rfl) (by kernel_rfl) (by kernel_rfl) (fun _ _ _ h => h) (Or.inl ⟨by rfl, ?_⟩) (by assumption) ?_
          rotate_left
          · intro w hSw; (try dsimp only at hSw); go_simp <;> with_reducible rfl
          simp only [Act.put, List.setIfInBounds_toArray, List.set_cons_zero, List.set_cons_succ]
          refine wpAnyH_take (i := 4) (oi := { dst := some 68, op := Op.slice 34 (Operand.tmp 65) none (some (Operand.tmp 67)) none, type := 34, pos := "law.go:265", after := #[{ on := 1, ground := Ground.data }, { on := 3, ground := Ground.data }], guard := none }) (v := ?_) rfl (by kernel_rfl) (by kernel_rfl) (by kernel_rfl) (fun _ _ _ h => h) (Or.inl ⟨by rfl, ?_⟩) (by assumption) ?_
          rotate_left
          · intro w hSw; (try dsimp only at hSw); go_simp <;> with_reducible rfl
          simp only [Act.put, List.setIfInBounds_toArray, List.set_cons_zero, List.set_cons_succ]
          refine wpAnyH_ready (rs := [5]) (by kernel_rfl) (by simp) ?_
          refine AllReadyH.cons (o := { dst := some 69, op := Op.call { callee := Callee.value (Operand.func 19), args := #[Operand.tmp 64, Operand.tmp 68], argTypes := #[29, 34] }, type := 39, pos := "law.go:265", after := #[{ on := 0, ground := Ground.data }, { on := 4, ground := Ground.data }], guard := none }) rfl (fun K hK => ?_) AllReadyH.nil
          go_simp
          go_at_call 19; refine KA.out.mono ?_; rintro e' w7 ⟨rfl, D7, J7, hz7, hfr7, hJ7, hk7⟩; have hgl7 := hide' (show w7.heap[g6]? = w6.heap[g6]? from hk7.out.block g6 (blk_lt hcur6'.out) (by have := hQ.out.kk.lg; have := hlv4.out; have := hge6'.out; omega) (by have := hQ.out.kk.lb; have := hlv4.out; have := hge6'.out; omega) (by have := hQ.out.lj; have := hlv4.out; have := hge6'.out; omega)); have hSa : Hid (∀ V, Below w7.heap.size w7 V → (convert 34 9 (.slice (some ⟨g6, 0, none⟩) n6 c6)).run Try.prog V = .ok (.string sb) V) := (fun V hV => hS.out V ((hV.block g6 (Nat.lt_of_lt_of_le (blk_lt hcur6'.out) hk7.out.size)).trans hgl7.out)); have hx7 : Hid (w7.ownsRow B 5 1 (.slice (some ⟨g1, 0, none⟩) n1 c1) n1 (cellsB X)) := own_kj (own_lowB (own_up hx4.out hb46.out) hQ.out.kk.lv) ((Kj.of_below (Below.refl _ w6).drew).trans hk7.out) hQ.out.kk.lg hQ.out.kk.lb hk6.out.kz.jn; have hrx7 := hide' (row_own hx7.out); have hb7E := hide' (show Below w7.heap.size w7 (w7.alloc (.cells #[] 5)) from (Below.refl _ w7).alloc (Nat.le_refl _) _); have hb7T := hide' (show Below w7.heap.size w7 (w7.alloc (.cells #[.int .u8 7, .int .u8 8, .int .u8 9] 5)) from (Below.refl _ w7).alloc (Nat.le_refl _) _); (try dsimp only)
          refine hK.out _ _ ?_ (fun hHeld => ?_)
          · exact hSa.out _ (Below.refl _ _)
          clear hK K
          try simp only [Act.put, List.setIfInBounds_toArray, List.set_cons_zero, List.set_cons_succ]
          refine wpAnyH_take (i := 6) (oi := { dst := some 70, op := Op.binOp BinOp.neq 39 (Operand.tmp 69) (Operand.const (Value.int IntKind.i64 0)) 39, type := 4, pos := "law.go:265", after := #[{ on := 5, ground := Ground.data }], guard := none }) (v := ?_) rfl (by kernel_rfl) (by kernel_rfl) (by kernel_rfl) (fun _ _ _ h => h) (Or.inl ⟨by rfl, ?_⟩) (by assumption) ?_
          rotate_left
          · intro w hSw; (try dsimp only at hSw); go_simp <;> with_reducible rfl
          simp only [Act.put, List.setIfInBounds_toArray, List.set_cons_zero, List.set_cons_succ]
          refine wpAnyH_take (i := 7) (oi := { dst := some 71, op := Op.move (Operand.tmp 70), type := 4, pos := "law.go:265", after := #[{ on := 6, ground := Ground.data }, { on := 5, ground := Ground.chain }], guard := none }) (v := ?_) rfl (by kernel_rfl) (by kernel_rfl) (by kernel_rfl) (fun _ _ _ h => h) (Or.inl ⟨by rfl, ?_⟩) (by assumption) ?_
          rotate_left
          · intro w hSw; (try dsimp only at hSw); go_simp <;> with_reducible rfl
          simp only [Act.put, List.setIfInBounds_toArray, List.set_cons_zero, List.set_cons_succ]
          refine wpAnyH_take (i := 8) (oi := { dst := some 72, op := Op.move (Operand.tmp 11), type := 34, pos := "law.go:265", after := #[{ on := 7, ground := Ground.guard }], guard := some (7, false) }) (v := ?_) rfl (by kernel_rfl) (by kernel_rfl) (by kernel_rfl) (fun _ _ _ h => h) (Or.inl ⟨by rfl, ?_⟩) (by assumption) ?_
          rotate_left
          · intro w hSw; (try dsimp only at hSw); go_simp <;> with_reducible rfl
          simp only [Act.put, List.setIfInBounds_toArray, List.set_cons_zero, List.set_cons_succ]
          refine wpAnyH_take (i := 9) (oi := { dst := some 73, op := Op.convert 34 9 (Operand.tmp 72), type := 9, pos := "law.go:265", after := #[{ on := 8, ground := Ground.data }, { on := 7, ground := Ground.guard }], guard := some (7, false) }) (v := ?_) rfl (by kernel_rfl) (by kernel_rfl) (by kernel_rfl) (fun _ _ _ h => h) (Or.inl ⟨by rfl, ?_⟩) (by assumption) ?_
          rotate_left
          · intro w hSw; (try dsimp only at hSw); go_simp <;> with_reducible rfl
          simp only [Act.put, List.setIfInBounds_toArray, List.set_cons_zero, List.set_cons_succ]
          refine wpAnyH_take (i := 11) (oi := { dst := some 75, op := Op.move (Operand.tmp 10), type := 34, pos := "law.go:265", after := #[{ on := 7, ground := Ground.guard }], guard := some (7, false) }) (v := ?_) rfl (by kernel_rfl) (by kernel_rfl) (by kernel_rfl) (fun _ _ _ h => h) (Or.inl ⟨by rfl, ?_⟩) (by assumption) ?_
          rotate_left
          · intro w hSw; (try dsimp only at hSw); go_simp <;> with_reducible rfl
          simp only [Act.put, List.setIfInBounds_toArray, List.set_cons_zero, List.set_cons_succ]
          refine wpAnyH_ready (rs := [10, 13]) (by kernel_rfl) (by simp) ?_
          refine AllReadyH.cons (o := { dst := some 74, op := Op.buildSlice 34 0 #[], type := 34, pos := "law.go:265", after := #[{ on := 7, ground := Ground.guard }], guard := some (7, false) }) rfl (fun K hK => ?_) ?_
          · skip
            go_simp
            refine hK.out _ _ ?_ (fun hHeld => ?_)
            · exact hSa.out _ hb7E.out
            clear hK K
            try simp only [Act.put, List.setIfInBounds_toArray, List.set_cons_zero, List.set_cons_succ]
            refine wpAnyH_ready (rs := [12, 13]) (by kernel_rfl) (by simp) ?_
            refine AllReadyH.cons (o := { dst := some 76, op := Op.call { callee := Callee.builtin Builtin.append, args := #[Operand.tmp 74, Operand.tmp 75], argTypes := #[34, 34] }, type := 34, pos := "law.go:265", after := #[{ on := 10, ground := Ground.data }, { on := 11, ground := Ground.data }, { on := 7, ground := Ground.chain }, { on := 7, ground := Ground.guard }], guard := some (7, false) }) rfl (fun K hK => ?_) ?_
            · skip
              rw [if_pos (by rfl)]
              refine appW (.tmp 74) (.tmp 75) rfl w7.heap.size (.slice (some ⟨w7.heap.size, 0, none⟩) 0 0) [] 0 rfl rfl (owns_zero w7 _) ⟨g1, 0, none⟩ n1 c1 X rfl hnX.out (fun j u hu => cell_new (cells_row hrx7.out j u hu)) (by simp) hXX0.out (fun e => by cases e) ?_; intro g8 n8 c8 w8 hn8 hx8 hb8 hg8; have hb78 : Hid (Below w7.heap.size w7 w8) := hb7E.out.trans hb8.out; have hT8 := hide' (news_blk (L := l789) (show BkB (w8.alloc (.cells #[.int .u8 7, .int .u8 8, .int .u8 9] 5)) w8.heap.size l789 from heap_new _ _)); have hx8' := hide' (show (w8.alloc (.cells #[.int .u8 7, .int .u8 8, .int .u8 9] 5)).ownsRow w7.heap.size 5 1 (.slice (some ⟨g8, 0, none⟩) n8 c8) n8 (cellsB ([] ++ X)) from World.ownsRow.alloc hx8.out _); have hs8 : Hid (w7.heap.size ≤ (w8.alloc (.cells #[.int .u8 7, .int .u8 8, .int .u8 9] 5)).heap.size) := (by have := hb78.out.size; unfold Hid; rw [size_alloc]; omega); (try dsimp only)
              refine hK.out _ _ ?_ (fun hHeld => ?_)
              · exact hSa.out _ hb78.out
              clear hK K
              try simp only [Act.put, List.setIfInBounds_toArray, List.set_cons_zero, List.set_cons_succ]
              refine wpAnyH_ready (rs := [13]) (by kernel_rfl) (by simp) ?_
              refine AllReadyH.cons (o := { dst := some 77, op := Op.buildSlice 34 3 #[(0, Operand.const (Value.int IntKind.u8 7)), (1, Operand.const (Value.int IntKind.u8 8)), (2, Operand.const (Value.int IntKind.u8 9))], type := 34, pos := "law.go:265", after := #[{ on := 7, ground := Ground.guard }], guard := some (7, false) }) rfl (fun K hK => ?_) AllReadyH.nil
              go_simp
              refine hK.out _ _ ?_ (fun hHeld => ?_)
              · exact hSa.out _ (hb78.out.alloc hb78.out.size _)
              clear hK K
              try simp only [Act.put, List.setIfInBounds_toArray, List.set_cons_zero, List.set_cons_succ]
              refine wpAnyH_ready (rs := [14]) (by kernel_rfl) (by simp) ?_
              refine AllReadyH.cons (o := { dst := some 78, op := Op.call { callee := Callee.builtin Builtin.append, args := #[Operand.tmp 76, Operand.tmp 77], argTypes := #[34, 34] }, type := 34, pos := "law.go:265", after := #[{ on := 12, ground := Ground.data }, { on := 13, ground := Ground.data }, { on := 12, ground := Ground.chain }, { on := 7, ground := Ground.guard }], guard := some (7, false) }) rfl (fun K hK => ?_) AllReadyH.nil
              rw [if_pos (by rfl)]
              refine appW (.tmp 76) (.tmp 77) rfl w7.heap.size (.slice (some ⟨g8, 0, none⟩) n8 c8) ([] ++ X) n8 rfl hn8.out hx8'.out ⟨w8.heap.size, 0, none⟩ 3 3 l789 rfl rfl hT8.out hs8.out hXX.out (fun e => by cases e) ?_; intro g9 n9 c9 w9 hn9 hx9 hb9 hg9; have hb79 : Hid (Below w7.heap.size w7 w9) := (hb78.out.alloc hb78.out.size _).trans hb9.out; have hcv9 := conv_own hx9.out (rfl : w9.heap[g9]? = w9.heap[g9]?); rw [hsb'.out] at hcv9; (try dsimp only)
              refine hK.out _ _ ?_ (fun hHeld => ?_)
              · exact hSa.out _ hb79.out
              clear hK K
              try simp only [Act.put, List.setIfInBounds_toArray, List.set_cons_zero, List.set_cons_succ]
              refine wpAnyH_ready (rs := [15]) (by kernel_rfl) (by simp) ?_
              refine AllReadyH.cons (o := { dst := some 79, op := Op.convert 34 9 (Operand.tmp 78), type := 9, pos := "law.go:265", after := #[{ on := 14, ground := Ground.data }, { on := 7, ground := Ground.guard }], guard := some (7, false) }) rfl (fun K hK => ?_) AllReadyH.nil
              go_simp
              refine hK.out _ _ ?_ (fun hHeld => ?_)
              · exact hSa.out _ hb79.out
              clear hK K
              try simp only [Act.put, List.setIfInBounds_toArray, List.set_cons_zero, List.set_cons_succ]
              refine wpAnyH_take (i := 16) (oi := { dst := some 80, op := Op.binOp BinOp.neq 9 (Operand.tmp 73) (Operand.tmp 79) 9, type := 4, pos := "law.go:265", after := #[{ on := 9, ground := Ground.data }, { on := 15, ground := Ground.data }, { on := 7, ground := Ground.guard }], guard := some (7, false) }) (v := ?_) rfl (by kernel_rfl) (by kernel_rfl) (by kernel_rfl) (fun _ _ _ h => h) (Or.inl ⟨by rfl, ?_⟩) (by assumption) ?_
              rotate_left
              · intro w hSw; (try dsimp only at hSw); go_simp <;> with_reducible rfl
              simp only [Act.put, List.setIfInBounds_toArray, List.set_cons_zero, List.set_cons_succ]
              refine wpAnyH_take (i := 17) (oi := { dst := some 81, op := Op.pick (Operand.tmp 71) (Operand.const (Value.bool true)) (Operand.tmp 80), type := 4, pos := "law.go:265", after := #[{ on := 7, ground := Ground.data }, { on := 16, ground := Ground.data }], guard := none }) (v := ?_) rfl (by kernel_rfl) (by kernel_rfl) (by kernel_rfl) (fun _ _ _ h => h) (Or.inl ⟨by rfl, ?_⟩) (by assumption) ?_
              rotate_left
              · intro w hSw; (try dsimp only at hSw); go_simp <;> with_reducible rfl
              simp only [Act.put, List.setIfInBounds_toArray, List.set_cons_zero, List.set_cons_succ]
              refine wpAnyH_done (by kernel_rfl) ?_ _
              refine NoPanic.normal ?_
              go_wp2_with fail
              go_meet
              case rel =>
                refine ⟨rfl, D7, J7, hz7.out.up hb79.out, hfr7, ⟨hJ7.out.1, by have := hJ7.out.2; have := hQ.out.je; have := hsX.out; omega⟩, ?_, ?_⟩
                · exact ((Kj.of_below hb46.out).trans ((Kj.of_below (Below.refl _ w6).drew).trans hk7.out)).then_below (hb79.out.mono (Nat.le_trans hb46.out.size hk7.out.size))
                · exact (hb79.out.block g6 (Nat.lt_of_lt_of_le (blk_lt hcur6'.out) hk7.out.size)).trans hgl7.out
            refine AllReadyH.cons (o := { dst := some 77, op := Op.buildSlice 34 3 #[(0, Operand.const (Value.int IntKind.u8 7)), (1, Operand.const (Value.int IntKind.u8 8)), (2, Operand.const (Value.int IntKind.u8 9))], type := 34, pos := "law.go:265", after := #[{ on := 7, ground := Ground.guard }], guard := some (7, false) }) rfl (fun K hK => ?_) AllReadyH.nil
            go_simp
            refine hK.out _ _ ?_ (fun hHeld => ?_)
            · exact hSa.out _ (hb7E.out.alloc hb7E.out.size _)
            clear hK K
            try simp only [Act.put, List.setIfInBounds_toArray, List.set_cons_zero, List.set_cons_succ]
            refine wpAnyH_ready (rs := [12]) (by kernel_rfl) (by simp) ?_
            refine AllReadyH.cons (o := { dst := some 76, op := Op.call { callee := Callee.builtin Builtin.append, args := #[Operand.tmp 74, Operand.tmp 75], argTypes := #[34, 34] }, type := 34, pos := "law.go:265", after := #[{ on := 10, ground := Ground.data }, { on := 11, ground := Ground.data }, { on := 7, ground := Ground.chain }, { on := 7, ground := Ground.guard }], guard := some (7, false) }) rfl (fun K hK => ?_) AllReadyH.nil
            rw [if_pos (by rfl)]
            refine appW (.tmp 74) (.tmp 75) rfl w7.heap.size (.slice (some ⟨w7.heap.size, 0, none⟩) 0 0) [] 0 rfl rfl (World.ownsRow.alloc (owns_zero w7 _) _) ⟨g1, 0, none⟩ n1 c1 X rfl hnX.out (fun j u hu => cell_new (cell_new (cells_row hrx7.out j u hu))) (by simp; omega) hXX0.out (fun e => by cases e) ?_; intro g8 n8 c8 w8 hn8 hx8 hb8 hg8; have hb78 : Hid (Below w7.heap.size w7 w8) := (hb7E.out.alloc hb7E.out.size _).trans hb8.out; have hT8 := hide' (news_blk (L := l789) (show BkB w8 (w7.heap.size + 1) l789 from (hg8.out.block (w7.heap.size + 1) (by simp) (by simp [Value.ownBlock])).trans (by have h1 := heap_new (w7.alloc (.cells #[] 5)) (.cells #[.int .u8 7, .int .u8 8, .int .u8 9] 5); rw [size_alloc] at h1; exact h1))); (try dsimp only)
            refine hK.out _ _ ?_ (fun hHeld => ?_)
            · exact hSa.out _ hb78.out
            clear hK K
            try simp only [Act.put, List.setIfInBounds_toArray, List.set_cons_zero, List.set_cons_succ]
            refine wpAnyH_ready (rs := [14]) (by kernel_rfl) (by simp) ?_
            refine AllReadyH.cons (o := { dst := some 78, op := Op.call { callee := Callee.builtin Builtin.append, args := #[Operand.tmp 76, Operand.tmp 77], argTypes := #[34, 34] }, type := 34, pos := "law.go:265", after := #[{ on := 12, ground := Ground.data }, { on := 13, ground := Ground.data }, { on := 12, ground := Ground.chain }, { on := 7, ground := Ground.guard }], guard := some (7, false) }) rfl (fun K hK => ?_) AllReadyH.nil
            rw [if_pos (by rfl)]
            refine appW (.tmp 76) (.tmp 77) rfl w7.heap.size (.slice (some ⟨g8, 0, none⟩) n8 c8) ([] ++ X) n8 rfl hn8.out hx8.out ⟨(w7.heap.size + 1), 0, none⟩ 3 3 l789 rfl rfl hT8.out hb78.out.size hXX.out (fun e => by cases e) ?_; intro g9 n9 c9 w9 hn9 hx9 hb9 hg9; have hb79 : Hid (Below w7.heap.size w7 w9) := hb78.out.trans hb9.out; have hcv9 := conv_own hx9.out (rfl : w9.heap[g9]? = w9.heap[g9]?); rw [hsb'.out] at hcv9; (try dsimp only)
            refine hK.out _ _ ?_ (fun hHeld => ?_)
            · exact hSa.out _ hb79.out
            clear hK K
            try simp only [Act.put, List.setIfInBounds_toArray, List.set_cons_zero, List.set_cons_succ]
            refine wpAnyH_ready (rs := [15]) (by kernel_rfl) (by simp) ?_
            refine AllReadyH.cons (o := { dst := some 79, op := Op.convert 34 9 (Operand.tmp 78), type := 9, pos := "law.go:265", after := #[{ on := 14, ground := Ground.data }, { on := 7, ground := Ground.guard }], guard := some (7, false) }) rfl (fun K hK => ?_) AllReadyH.nil
            go_simp
            refine hK.out _ _ ?_ (fun hHeld => ?_)
            · exact hSa.out _ hb79.out
            clear hK K
            try simp only [Act.put, List.setIfInBounds_toArray, List.set_cons_zero, List.set_cons_succ]
            refine wpAnyH_take (i := 16) (oi := { dst := some 80, op := Op.binOp BinOp.neq 9 (Operand.tmp 73) (Operand.tmp 79) 9, type := 4, pos := "law.go:265", after := #[{ on := 9, ground := Ground.data }, { on := 15, ground := Ground.data }, { on := 7, ground := Ground.guard }], guard := some (7, false) }) (v := ?_) rfl (by kernel_rfl) (by kernel_rfl) (by kernel_rfl) (fun _ _ _ h => h) (Or.inl ⟨by rfl, ?_⟩) (by assumption) ?_
            rotate_left
            · intro w hSw; (try dsimp only at hSw); go_simp <;> with_reducible rfl
            simp only [Act.put, List.setIfInBounds_toArray, List.set_cons_zero, List.set_cons_succ]
            refine wpAnyH_take (i := 17) (oi := { dst := some 81, op := Op.pick (Operand.tmp 71) (Operand.const (Value.bool true)) (Operand.tmp 80), type := 4, pos := "law.go:265", after := #[{ on := 7, ground := Ground.data }, { on := 16, ground := Ground.data }], guard := none }) (v := ?_) rfl (by kernel_rfl) (by kernel_rfl) (by kernel_rfl) (fun _ _ _ h => h) (Or.inl ⟨by rfl, ?_⟩) (by assumption) ?_
            rotate_left
            · intro w hSw; (try dsimp only at hSw); go_simp <;> with_reducible rfl
            simp only [Act.put, List.setIfInBounds_toArray, List.set_cons_zero, List.set_cons_succ]
            refine wpAnyH_done (by kernel_rfl) ?_ _
            refine NoPanic.normal ?_
            go_wp2_with fail
            go_meet
            case rel =>
              refine ⟨rfl, D7, J7, hz7.out.up hb79.out, hfr7, ⟨hJ7.out.1, by have := hJ7.out.2; have := hQ.out.je; have := hsX.out; omega⟩, ?_, ?_⟩
              · exact ((Kj.of_below hb46.out).trans ((Kj.of_below (Below.refl _ w6).drew).trans hk7.out)).then_below (hb79.out.mono (Nat.le_trans hb46.out.size hk7.out.size))
              · exact (hb79.out.block g6 (Nat.lt_of_lt_of_le (blk_lt hcur6'.out) hk7.out.size)).trans hgl7.out
          refine AllReadyH.cons (o := { dst := some 77, op := Op.buildSlice 34 3 #[(0, Operand.const (Value.int IntKind.u8 7)), (1, Operand.const (Value.int IntKind.u8 8)), (2, Operand.const (Value.int IntKind.u8 9))], type := 34, pos := "law.go:265", after := #[{ on := 7, ground := Ground.guard }], guard := some (7, false) }) rfl (fun K hK => ?_) AllReadyH.nil
          go_simp
          refine hK.out _ _ ?_ (fun hHeld => ?_)
          · exact hSa.out _ hb7T.out
          clear hK K
          try simp only [Act.put, List.setIfInBounds_toArray, List.set_cons_zero, List.set_cons_succ]
          refine wpAnyH_ready (rs := [10]) (by kernel_rfl) (by simp) ?_
          refine AllReadyH.cons (o := { dst := some 74, op := Op.buildSlice 34 0 #[], type := 34, pos := "law.go:265", after := #[{ on := 7, ground := Ground.guard }], guard := some (7, false) }) rfl (fun K hK => ?_) AllReadyH.nil
          go_simp
          refine hK.out _ _ ?_ (fun hHeld => ?_)
          · exact hSa.out _ (hb7T.out.alloc hb7T.out.size _)
          clear hK K
          try simp only [Act.put, List.setIfInBounds_toArray, List.set_cons_zero, List.set_cons_succ]
          refine wpAnyH_ready (rs := [12]) (by kernel_rfl) (by simp) ?_
          refine AllReadyH.cons (o := { dst := some 76, op := Op.call { callee := Callee.builtin Builtin.append, args := #[Operand.tmp 74, Operand.tmp 75], argTypes := #[34, 34] }, type := 34, pos := "law.go:265", after := #[{ on := 10, ground := Ground.data }, { on := 11, ground := Ground.data }, { on := 7, ground := Ground.chain }, { on := 7, ground := Ground.guard }], guard := some (7, false) }) rfl (fun K hK => ?_) AllReadyH.nil
          rw [if_pos (by rfl)]
          have hzC : Hid (((w7.alloc (.cells #[.int .u8 7, .int .u8 8, .int .u8 9] 5)).alloc (.cells #[] 5)).ownsRow w7.heap.size 5 1 (.slice (some ⟨w7.heap.size + 1, 0, none⟩) 0 0) 0 (cellsB [])) := (by have h1 := owns_zero (w7.alloc (.cells #[.int .u8 7, .int .u8 8, .int .u8 9] 5)) 5; rw [size_alloc] at h1; exact own_lowB h1 (Nat.le_succ _)); refine appW (.tmp 74) (.tmp 75) rfl w7.heap.size (.slice (some ⟨(w7.heap.size + 1), 0, none⟩) 0 0) [] 0 rfl rfl hzC.out ⟨g1, 0, none⟩ n1 c1 X rfl hnX.out (fun j u hu => cell_new (cell_new (cells_row hrx7.out j u hu))) (by simp; omega) hXX0.out (fun e => by cases e) ?_; intro g8 n8 c8 w8 hn8 hx8 hb8 hg8; have hb78 : Hid (Below w7.heap.size w7 w8) := (hb7T.out.alloc hb7T.out.size _).trans hb8.out; have hT8 := hide' (news_blk (L := l789) (show BkB w8 w7.heap.size l789 from (hg8.out.block w7.heap.size (by simp; omega) (by simp [Value.ownBlock])).trans ((((Below.refl _ (w7.alloc (.cells #[.int .u8 7, .int .u8 8, .int .u8 9] 5))).alloc (Nat.le_refl _) _).block w7.heap.size (by rw [size_alloc]; omega)).trans (heap_new w7 (.cells #[.int .u8 7, .int .u8 8, .int .u8 9] 5))))); (try dsimp only)
          refine hK.out _ _ ?_ (fun hHeld => ?_)
          · exact hSa.out _ hb78.out
          clear hK K
          try simp only [Act.put, List.setIfInBounds_toArray, List.set_cons_zero, List.set_cons_succ]
          refine wpAnyH_ready (rs := [14]) (by kernel_rfl) (by simp) ?_
          refine AllReadyH.cons (o := { dst := some 78, op := Op.call { callee := Callee.builtin Builtin.append, args := #[Operand.tmp 76, Operand.tmp 77], argTypes := #[34, 34] }, type := 34, pos := "law.go:265", after := #[{ on := 12, ground := Ground.data }, { on := 13, ground := Ground.data }, { on := 12, ground := Ground.chain }, { on := 7, ground := Ground.guard }], guard := some (7, false) }) rfl (fun K hK => ?_) AllReadyH.nil
          rw [if_pos (by rfl)]
          refine appW (.tmp 76) (.tmp 77) rfl w7.heap.size (.slice (some ⟨g8, 0, none⟩) n8 c8) ([] ++ X) n8 rfl hn8.out hx8.out ⟨w7.heap.size, 0, none⟩ 3 3 l789 rfl rfl hT8.out hb78.out.size hXX.out (fun e => by cases e) ?_; intro g9 n9 c9 w9 hn9 hx9 hb9 hg9; have hb79 : Hid (Below w7.heap.size w7 w9) := hb78.out.trans hb9.out; have hcv9 := conv_own hx9.out (rfl : w9.heap[g9]? = w9.heap[g9]?); rw [hsb'.out] at hcv9; (try dsimp only)
          refine hK.out _ _ ?_ (fun hHeld => ?_)
          · exact hSa.out _ hb79.out
          clear hK K
          try simp only [Act.put, List.setIfInBounds_toArray, List.set_cons_zero, List.set_cons_succ]
          refine wpAnyH_ready (rs := [15]) (by kernel_rfl) (by simp) ?_
          refine AllReadyH.cons (o := { dst := some 79, op := Op.convert 34 9 (Operand.tmp 78), type := 9, pos := "law.go:265", after := #[{ on := 14, ground := Ground.data }, { on := 7, ground := Ground.guard }], guard := some (7, false) }) rfl (fun K hK => ?_) AllReadyH.nil
          go_simp
          refine hK.out _ _ ?_ (fun hHeld => ?_)
          · exact hSa.out _ hb79.out
          clear hK K
          try simp only [Act.put, List.setIfInBounds_toArray, List.set_cons_zero, List.set_cons_succ]
          refine wpAnyH_take (i := 16) (oi := { dst := some 80, op := Op.binOp BinOp.neq 9 (Operand.tmp 73) (Operand.tmp 79) 9, type := 4, pos := "law.go:265", after := #[{ on := 9, ground := Ground.data }, { on := 15, ground := Ground.data }, { on := 7, ground := Ground.guard }], guard := some (7, false) }) (v := ?_) rfl (by kernel_rfl) (by kernel_rfl) (by kernel_rfl) (fun _ _ _ h => h) (Or.inl ⟨by rfl, ?_⟩) (by assumption) ?_
          rotate_left
          · intro w hSw; (try dsimp only at hSw); go_simp <;> with_reducible rfl
          simp only [Act.put, List.setIfInBounds_toArray, List.set_cons_zero, List.set_cons_succ]
          refine wpAnyH_take (i := 17) (oi := { dst := some 81, op := Op.pick (Operand.tmp 71) (Operand.const (Value.bool true)) (Operand.tmp 80), type := 4, pos := "law.go:265", after := #[{ on := 7, ground := Ground.data }, { on := 16, ground := Ground.data }], guard := none }) (v := ?_) rfl (by kernel_rfl) (by kernel_rfl) (by kernel_rfl) (fun _ _ _ h => h) (Or.inl ⟨by rfl, ?_⟩) (by assumption) ?_
          rotate_left
          · intro w hSw; (try dsimp only at hSw); go_simp <;> with_reducible rfl
          simp only [Act.put, List.setIfInBounds_toArray, List.set_cons_zero, List.set_cons_succ]
          refine wpAnyH_done (by kernel_rfl) ?_ _
          refine NoPanic.normal ?_
          go_wp2_with fail
          go_meet
          case rel =>
            refine ⟨rfl, D7, J7, hz7.out.up hb79.out, hfr7, ⟨hJ7.out.1, by have := hJ7.out.2; have := hQ.out.je; have := hsX.out; omega⟩, ?_, ?_⟩
            · exact ((Kj.of_below hb46.out).trans ((Kj.of_below (Below.refl _ w6).drew).trans hk7.out)).then_below (hb79.out.mono (Nat.le_trans hb46.out.size hk7.out.size))
            · exact (hb79.out.block g6 (Nat.lt_of_lt_of_le (blk_lt hcur6'.out) hk7.out.size)).trans hgl7.out
        case rest => as_aux_lemma =>
          obtain ⟨rfl, D7, J7, hz7, hfr7, hJ7, hkj7, hgl7⟩ := hcut
          have hlow4 : Hid (g < w4.heap.size ∧ gb < w4.heap.size ∧ gj < w4.heap.size ∧ w.heap.size ≤ w4.heap.size) := ⟨blk_lt hk4.out.kz.dk.1, blk_lt hk4.out.kz.dk.2, blk_lt hk4.out.kz.jn, hk4.out.kz.be.size⟩
          have hcur7 : Hid (∃ cur, wc.heap[g6]? = some (.cells cur 5 (0, 0)) ∧ n6 ≤ cur.size) := ⟨cur6, hgl7.out.trans hcur6'.out, by have := hsz6'.out; omega⟩
          have hxB : Hid (w4.ownsRow B 5 1 (.slice (some ⟨g1, 0, none⟩) n1 c1) X.length (cellsB X)) := by
            have h1 := own_lowB hx4.out hQ.out.kk.lv
            rw [hnX.out] at h1 ⊢
            exact h1
          clear hgl7 hcur6' hsz6' hrx6 hk6 hx6 hb46 hb45 hrx4
          go_wp2_with fail
          go_loopw [12] (fun kv wx => ∃ k : Nat, kv = .int .i64 (k : Int) ∧ k ≤ n6 ∧ Hid (Below w4.heap.size wc wx) ∧ Hid (∃ cur, wx.heap[g6]? = some (.cells cur 5 (0, 0)) ∧ n6 ≤ cur.size)) (fun kv _ => ((n6 : Int) - intOf kv).toNat)
          case atStart => exact ⟨0, rfl, by omega, Below.refl _ _, hcur7⟩
          case round =>
            clear hcur7
            obtain ⟨k, rfl, hk, hbx, hcx⟩ := hrel
            have hn6b : n6 ≤ 103 := by rw [hn6e.out]; omega
            by_cases hlt : k < n6
            · have hlt' : (k : Int) < (n6 : Int) := by omega
              obtain ⟨cur, hc1, hc2⟩ := hcx.out
              have hcell : wr.cell? ⟨g6, k, none⟩ = some cur[k] := by
                simp only [World.cell?]
                rw [hc1]
                simp [show k < cur.size by omega]
              have hfz : wr.frozen? ⟨g6, k, none⟩ = false := by simp [World.frozen?, hc1]
              have hcx2 : Hid (∃ cur, (wr.setCell ⟨g6, k, none⟩ (.int .u8 99)).heap[g6]? = some (.cells cur 5 (0, 0)) ∧ n6 ≤ cur.size) := ⟨_, set_heap hc1 k _, by simpa using hc2⟩
              have hbx2 : Hid (Below w4.heap.size wc (wr.setCell ⟨g6, k, none⟩ (.int .u8 99))) := hbx.out.trans (((Kp.refl g6 g6 wr).set k (.int .u8 99)).below hge6'.out hge6'.out (Nat.le_trans hkj7.out.size hbx.out.size))
              generalize cur[k] = cv at *
              clear hcx hbx hc1 hc2
              go_wp2
              exact ⟨⟨k + 1, by go_num, by omega, hbx2, hcx2⟩, by simp [intOf]; omega⟩
            · have hlt' : ¬ (k : Int) < (n6 : Int) := by omega
              have hkjx := hide' (hkj7.out.then_below hbx.out)
              have hrsx := hide' (hk4.out.rs.kj hkjx.out hQ.out.kk.lg hQ.out.kk.lb hk4.out.kz.jn)
              have hxx := hide' (own_kj hxB.out hkjx.out hQ.out.kk.lg hQ.out.kk.lb hk4.out.kz.jn)
              have hzx := hide' (hz7.out.upB hbx.out hlow4.out.1 hlow4.out.2.1 hlow4.out.2.2.1 hlow4.out.2.2.2)
              have hlvx := hide' (Nat.le_trans hk4.out.lv hkjx.out.size)
              have hgl1 : Hid (G.length ≤ 1000000) := by have := hQ.out.kk.gl; unfold Hid; omega
              go_wp2_with (at_builtin; refine hrsx.out.app rfl (.tmp 91) (.tmp 93) rfl rfl rfl hlvx.out hgl1.out (some ⟨g1, 0, none⟩) n1 c1 X hxx.out ?_; intro o8 n8 c8 w8 G8 hG8 hn8 hrs8 hb8 hs8)
              have hK8 := hide' (Kk.keep hrsx.out hzx.out hG8.out hrs8.out hb8.out hs8.out hQ.out.kk.lg hQ.out.kk.lb hQ.out.kk.lw hlvx.out hQ.out.kk.gl)
              exact ⟨⟨i + 1, D7, J7, G8, o8, n8, c8, rfl, by go_num, by omega, hn8, ⟨hK8.out, hfr7.out, hJ7.out.1, hJ7.out.2, hQ.out.lj⟩⟩, by simp [intOf]; omega⟩
      · by_cases h4 : (i : Int) < (m : Int)
        · have h2 : ¬ (i : Int) < 20 := by omega
          go_wp2_with fail
          go_meet
          case rel => exact ⟨i, D, J, G, ok, gl, ck, rfl, hi, hgl, hQ⟩
        · go_wp2_with fail
          go_meet
          case rel => exact ⟨i, D, J, G, ok, gl, ck, rfl, hi, hgl, hQ⟩
  case rest => as_aux_lemma =>
    clear hQ
    obtain ⟨i, D, J, G, ok, gl, ck, rfl, hi, hgl, hQ⟩ := hcut
    have hbs := hide' (kb_start wc)
    have hBk : Hid (Bk w g gb 200 J.e D (i + 1) wc.heap.size B (fun x => if x = wc.heap.size then 1 else 0) (.slice ok gl ck) G (wc.alloc (.cells #[.slice none 0 0, .slice none 0 0, .slice none 0 0, .slice none 0 0, .slice none 0 0, .slice none 0 0, .slice none 0 0, .slice none 0 0, .slice none 0 0, .slice none 0 0, .slice none 0 0, .slice none 0 0, .int .i64 0] 61))) := by
      have hal : Below wc.heap.size wc (wc.alloc (.cells #[.slice none 0 0, .slice none 0 0, .slice none 0 0, .slice none 0 0, .slice none 0 0, .slice none 0 0, .slice none 0 0, .slice none 0 0, .slice none 0 0, .slice none 0 0, .slice none 0 0, .slice none 0 0, .int .i64 0] 61)) := (Below.refl _ _).alloc (Nat.le_refl _) _
      exact ⟨(hQ.out.kk.kz.up hal).kd hQ.out.fr, fun W' hw => hQ.out.kk.rs.move fun k h1 h2 _ => (hw k h2 h1).trans (hal.block k h1), hbs.out, fun k hk => if_neg (by omega), hQ.out.kk.lg, hQ.out.kk.lb, hQ.out.kk.lv, hQ.out.kk.lw⟩
    have hgl1 : Hid (G.length ≤ 1000000) := by have := hQ.out.kk.gl; unfold Hid; omega
    have hrl := hide' hQ.out.kk.kz.std.lens
    have hgle : gl ≤ 1000 := by rw [hgl.out]; have := hQ.out.kk.gl; omega
    generalize J.e = pe at *
    clear hbs hQ
    go_upto_block 4 with fail
    generalize wc.heap.size = b at *
    obtain ⟨tag, htag⟩ : ∃ t : Nat → Nat, t = (fun x => if x = b then 1 else 0) := ⟨_, rfl⟩
    rw [← htag] at hBk
    clear htag
    go_cut [14, 15, 16, 17, 18] from 97 to 126 (fun _ _ _ _ _ wx => ∃ (j : Nat) (D : Dk) (tag : Nat → Nat), j ≤ 100 ∧ Hid (Bk w g gb 200 pe D j b B tag (.slice ok gl ck) G wx))
    case first => as_aux_lemma =>
      go_wp2_with fail
      go_loopw [14, 15, 16, 17, 18] (fun kv _ _ _ _ wx => ∃ (k : Nat) (D : Dk) (tag : Nat → Nat), kv = .int .i64 (k : Int) ∧ k ≤ 2 ∧ Hid (Bk w g gb 200 pe D (i + 1 + k) b B tag (.slice ok gl ck) G wx)) (fun kv _ _ _ _ _ => ((2 : Int) - intOf kv).toNat)
      case atStart => exact ⟨0, D, tag, rfl, by omega, hBk⟩
      case round =>
        clear hBk
        obtain ⟨k, D, tag, rfl, hk, hBk⟩ := hrel
        by_cases hk2 : k < 2
        · have hk2' : (k : Int) < 2 := by omega
          have KO := hide' (hBk.out.kd.open (by omega))
          unfold KdP at KO
          go_wp2_with fail
          refine KO.out.mono ?_
          rintro e w5 ⟨gj5, o5, c5, kl, D5, Q5, rfl, hkl, hd5, hrs5, hk5⟩
          have hB5 := hide' (hBk.out.open hd5.out hk5.out)
          have hL5 := hide' (Lr.start hrs5.out hBk.out.bk)
          have hrw5 := hrs5.out.row
          rw [hkl.out.2] at hrw5
          have KRw := hide' (rowsF hrw5 hB5.out.rs.row (by rw [List.length_map]; exact hgl1.out))
          have hkl1 := hide' hkl.out.1
          have hql : Hid (∀ q ∈ Q5, q.2.length ≤ 131072) := fun q hq => hrl.out q.2 (by rw [← hkl.out.2]; exact List.mem_map_of_mem hq)
          have hkle : kl ≤ 1000 := by rw [hkl.out.1, ← List.length_map, hkl.out.2, List.length_map, ← hgl.out]; exact hgle
          clear hrw5 hrs5 hd5 hk5 hkl KO hBk
          go_wp2_with (first | (go_at_call 22; refine KRw.out.mono ?_; rintro e' w6 ⟨rfl, hb6⟩; have hb6' := hide' hb6; clear hb6))
          have hB6 := hide' (hB5.out.up hb6'.out)
          have hL6 := hide' (hL5.out.up hb6'.out)
          clear hB5 hL5 hb6' KRw
          go_loopw [18] (fun tv wx => ∃ (t : Nat) (tag : Nat → Nat), tv = .int .i64 (t : Int) ∧ t ≤ kl ∧ Hid (Bk w g gb 200 pe D5 (i + 1 + k + 1) b B tag (.slice ok gl ck) G wx) ∧ Hid (Lr b tag o5 kl c5 Q5 t wx)) (fun tv _ => ((kl : Int) - intOf tv).toNat)
          case atStart => exact ⟨0, tag, rfl, by omega, hB6, hL6⟩
          case round =>
            clear hB6 hL6
            obtain ⟨t, tag, rfl, ht, hB6, hL6⟩ := hrel
            by_cases htk : t < kl
            · have htk' : (t : Int) < (kl : Int) := by omega
              obtain ⟨q, hq⟩ : ∃ q, Q5[t]? = some q := ⟨_, List.getElem?_eq_getElem (by rw [← hkl1.out]; exact htk)⟩
              obtain ⟨g9, hg9, hc9⟩ := hL6.out.cell hq
              have hqi := hide' (hL6.out.inn t q hq (Nat.le_refl _))
              have hqq := hide' hq
              have hqm := hide' (hql.out q (List.mem_of_getElem? hq))
              have hc9' := hc9
              rw [Nat.zero_add] at hc9'
              have KBy := hide' (KB.bookBytes b tag (.slice (some ⟨q.1, 0, none⟩) q.2.length q.2.length) (q.2.map fun z : Nat => (z : Int)) wr hB6.out.bk (by rw [cells_kb, List.length_map]; exact own_of_bk hqi.out.1 (by have := hqm.out; omega)) (by rw [List.length_map]; have := hqm.out; omega) (fun x hx => by cases hx; exact hqi.out.2.1))
              clear hq
              subst hg9
              go_wp2_with fail
              refine KBy.out.mono ?_
              rintro e w7 ⟨rfl, tag', hbk', hfr'⟩
              have hB7 := hide' (hB6.out.fr (x := q.1) rfl hqi.out.2.2 hbk' hfr')
              have hL7 := hide' (hL6.out.next hqq.out hfr')
              clear KBy hbk' hfr' hB6 hL6 hc9 hc9'
              go_wp2
              exact ⟨⟨t + 1, tag', by go_num, by omega, hB7, hL7⟩, by simp [intOf]; omega⟩
            · have htk' : ¬ (t : Int) < (kl : Int) := by omega
              go_wp2
              exact ⟨⟨k + 1, D5, tag, by go_num, by omega, hB6⟩, by simp [intOf]; omega⟩
        · have hk2' : ¬ (k : Int) < 2 := by omega
          go_wp2_with fail
          go_meet
          case rel => exact ⟨i + 1 + k, D, tag, by omega, hBk⟩
    case rest => as_aux_lemma =>
      clear hBk
      obtain ⟨j, D, tag, hj, hBk⟩ := hcut
      have KC := hide' (KB.bookClose b tag wc hBk.out.bk)
      go_wp2_with fail
      refine KC.out.mono ?_
      rintro e w5 ⟨rfl, hs5⟩
      obtain ⟨hd5, hr5, hz5⟩ := hBk.out.closed hs5
      have hd5' := hide' hd5
      have hr5' := hide' hr5
      have hlw := hide' (And.intro hBk.out.lg hBk.out.lb)
      have KO := hide' (hd5.open (by omega))
      unfold KdP at KO
      clear hd5 hr5 hz5 hs5 KC
      go_wp2_with fail
      refine KO.out.mono ?_
      rintro e w6 ⟨gj6, o6, c6, kl, D6, Q6, rfl, hkl, hd6, hrs6, hk6⟩
      have hrw6 := hrs6.out.row
      rw [hkl.out.2] at hrw6
      have KRw := hide' (rowsF hrw6 (hr5'.out.kp hk6.out hlw.out.1 hlw.out.2).row (by rw [List.length_map]; exact hgl1.out))
      have hbe6 := hide' hd6.out.be
      clear hrw6 KO hrs6 hkl hd6 hk6
      go_wp2_with (first | (go_at_call 22; refine KRw.out.mono ?_; rintro e' w7 ⟨rfl, hb7⟩; have hb7' := hide' hb7; clear hb7))
      go_ret
      exact ⟨rfl, hbe6.out.trans (hb7'.out.mono hbe6.out.size)⟩
end Go.Proofs.Ytcbddkfbpgjknaa
