/- The document's Open. -/
import Derived.Test.YtmhbidnpfefjpaaJrJ
import Derived.Test.YtmhbidnpfefjpaaJnC0
namespace Go.Proofs.Ytmhbidnpfefjpaa
open Go.RowKit
/-- What the document's Open answers. -/
def OdP (W : World) (r rb cap n : Nat) (D : Dk) (e : Ending) (w' : World) : Prop :=
  (e = .returned (.tuple #[.pointer none, .slice none 0 0, .int .i64 52]) ∧ Hid (lookR D.bytes n = none) ∧ Hid (Below W.heap.size W w')) ∨
  ∃ (q : Nat) (oa : Option Addr) (kl c2 : Nat) (G : List (Value × List Nat)) (p b : Nat), e = .returned (.tuple #[.pointer (some ⟨q, 0, none⟩), .slice oa kl c2, .int .i64 0]) ∧ Hid (lookR D.bytes n = some (G.map (·.2), p, b)) ∧ Hid (kl = G.length ∧ p < n ∧ b < 4294967296) ∧ Hid (RjA w' q r ⟨p, G.length, bt1 b, false⟩) ∧ Hid (RkA w' r rb cap (wrD D 0 (headB (bt1 b)))) ∧ Hid (RsO w' W.heap.size (.slice oa kl c2) G) ∧ Hid (W.heap.size ≤ q) ∧ Hid (Kp r rb W w')
set_option maxRecDepth 100000 in
set_option maxHeartbeats 1000000 in
theorem openDFew {W : World} {r rb cap n : Nat} {D : Dk} (hd : RkA W r rb cap D) (hk : D.bytes.length = 16 * n) (hn : n < 2) : Calls Try.prog 30 #[.pointer (some ⟨r, 0, none⟩)] W fun e w' => e = .returned (.tuple #[.pointer none, .slice none 0 0, .int .i64 51]) ∧ w' = W := by
  have K := hide' (rBlocksF hd hk (by omega))
  have hn' : (n : Int) < 2 := by omega
  clear hd
  go_enter Try.func30, Try.ntmps30
  go_wp2_with (first | (go_at_call 48; refine K.out.mono ?_; rintro e' w1 ⟨rfl, hw1'⟩; obtain rfl : W = w1 := hw1'.symm))
  exact bodyPost_ret (v := .tuple #[.pointer none, .slice none 0 0, .int .i64 51]) (by simp [results, Try.results30]) rfl ⟨rfl, rfl⟩
set_option maxRecDepth 100000 in
set_option maxHeartbeats 1000000 in
theorem openDDown {W : World} {r rb cap n : Nat} {D : Dk} (hd : RkA W r rb cap D) (hk : DkO D n) (hn : 2 ≤ n) (hp : D.power = false) : Calls Try.prog 30 #[.pointer (some ⟨r, 0, none⟩)] W fun e w' => e = .returned (.tuple #[.pointer none, .slice none 0 0, .int .i64 50]) ∧ w' = W := by
  have K := hide' (rBlocksF hd hk.len hk.most)
  have KP := hide' (rPowerF hd hk)
  rw [hp] at KP
  have hn' : ¬ (n : Int) < 2 := by omega
  clear hd hk
  go_enter Try.func30, Try.ntmps30
  go_wp2_with (first | (go_at_call 48; refine K.out.mono ?_; rintro e' w1 ⟨rfl, hw1'⟩; obtain rfl : W = w1 := hw1'.symm) | (go_at_call 36; refine KP.out.mono ?_; rintro e' w1 ⟨rfl, hw1'⟩; obtain rfl : W = w1 := hw1'.symm))
  exact bodyPost_ret (v := .tuple #[.pointer none, .slice none 0 0, .int .i64 50]) (by simp [results, Try.results30]) rfl ⟨rfl, rfl⟩
def joinQ (A : List (List Nat)) (o : Option (List (List Nat) × Nat)) : Option (List (List Nat) × Nat) := match o with
  | none => none
  | some (l, p) => some (A ++ l, p)
theorem prs_someQ {L : List Nat} {n f q c : Nat} {r : List Nat} (A : List (List Nat)) (h : blkB L q ≠ z16) (h1 : oneR L n q c = some r) : joinQ A (prs L n (f + 1) q c) = joinQ (A ++ [r]) (prs L n f (q + 1 + spn r.length) (c + 1)) := by
  rw [prs, if_neg h, h1]
  show joinQ A (match prs L n f (q + 1 + spn r.length) (c + 1) with | none => none | some (l, p) => some (r :: l, p)) = _
  cases prs L n f (q + 1 + spn r.length) (c + 1) with
  | none => rfl
  | some x => obtain ⟨l, p⟩ := x; simp [joinQ]
/-- What stands while the document reads. -/
structure Od (W : World) (r rb cap : Nat) (D : Dk) (lv : Value) (G : List (Value × List Nat)) (V : World) : Prop where
  rk : RkA V r rb cap D
  rs : RsO V W.heap.size lv G
  be : Below W.heap.size W V
theorem Od.up {W : World} {r rb cap : Nat} {D : Dk} {lv : Value} {G : List (Value × List Nat)} {V V' : World} (h : Od W r rb cap D lv G V) (hb : Below V.heap.size V V') : Od W r rb cap D lv G V' := ⟨h.rk.up hb, h.rs.below hb, h.be.trans (hb.mono h.be.size)⟩
theorem Od.conv {W : World} {r rb cap n b : Nat} {D : Dk} {lv : Value} {G : List (Value × List Nat)} {V : World} (h : Od W r rb cap D lv G V) (hk : D.bytes.length = 16 * n) (hb : b < n) : (convert 34 9 (.slice (some ⟨rb, b * 16, none⟩) 16 (cap - b * 16))).run Try.prog V = .ok (.string (strB (blkB D.bytes b))) V := conv_bytes (h.rk.blkRow hk hb)
theorem conv_ownR {W V : World} {B g n c : Nat} {L : List Nat} (h : W.ownsRow B 5 1 (.slice (some ⟨g, 0, none⟩) n c) n (cellsB L)) (hV : V.heap[g]? = W.heap[g]?) : (convert 34 9 (.slice (some ⟨g, 0, none⟩) n c)).run Try.prog V = .ok (.string (strB L)) V := by
  have hn : n = L.length := by have := h.1; rw [cellsB_len] at this; omega
  subst hn
  refine conv_bytes (RowC.of_owns (B := B) ⟨h.1, ?_⟩)
  rcases h.2 with q | ⟨g', cap, cur, e, h1, hg, h3⟩
  · exact .inl q
  · cases e
    exact .inr ⟨_, _, cur, rfl, h1, hV.trans hg, h3⟩
theorem HdP.conv {w' : World} {B g n c : Nat} {L : List Nat} (h : w'.ownsRow B 5 1 (.slice (some ⟨g, 0, none⟩) n c) n (cellsB L)) : (convert 34 9 (.slice (some ⟨g, 0, none⟩) n c)).run Try.prog w' = .ok (.string (strB L)) w' := conv_ownR h rfl
theorem RkA.sub {V : World} {r rb cap : Nat} {D : Dk} (h : RkA V r rb cap D) {M : List Nat} {o m c : Nat} (hM : ∀ i z, M[i]? = some z → D.bytes[o + i]? = some z) (hm : m = M.length) (hc : m ≤ c) : RowC V (.slice (some ⟨rb, o, none⟩) m c) M := by
  obtain ⟨oa, c', e, _, hcc⟩ := h.rowC
  subst hm
  refine ⟨_, c, rfl, ⟨hc, fun e => by cases e⟩, fun i z hz => ⟨rb, o, rfl, ?_⟩⟩
  obtain ⟨g, o', e1, e2⟩ := hcc _ z (hM i z hz)
  injection e with e3
  rw [← e3] at e1
  cases e1
  rw [Nat.zero_add] at e2
  exact e2
theorem rec_sub {L : List Nat} {q m i z : Nat} (h : (recOf L q m)[i]? = some z) : L[16 * (q + 1) + i]? = some z := by
  unfold recOf at h
  rw [List.getElem?_take] at h
  split at h
  · rw [List.getElem?_drop] at h; exact h
  · cases h
theorem tail_sub {L : List Nat} {q m i z : Nat} (h : (tailB L q m)[i]? = some z) : L[16 * (q + 1) + m + i]? = some z := by
  rw [tail_get] at h
  split at h
  · rw [Nat.add_assoc]; exact h
  · cases h
theorem tail_len {L : List Nat} {n q m : Nat} (hL : L.length = 16 * n) (h : q + 1 + spn m < n) : (tailB L q m).length = 16 * spn m - m := by
  unfold tailB
  rw [List.length_drop, List.length_take, List.length_drop]
  omega
theorem RkA.low {V V' : World} {r rb cap B : Nat} {D : Dk} (h : RkA V r rb cap D) (hb : Below B V V') (h1 : r < B) (h2 : rb < B) : RkA V' r rb cap D := ⟨(hb.block r h1).trans h.bx, own_same h.row (hb.block rb h2)⟩
theorem HdP.row {w' : World} {B g n c r rb : Nat} {L : List Nat} (hn : n = L.length) (h : w'.ownsRow B 5 1 (.slice (some ⟨g, 0, none⟩) n c) n (cellsB L)) (h1 : r < B) (h2 : rb < B) : ∀ X, Kp r rb w' X → RowC X (.slice (some ⟨g, 0, none⟩) n c) L := by
  subst hn
  exact fun X k => (RowC.of_owns h).kp k (own_ne h h1 h2)
theorem kp_wrap {W V1 V2 V3 : World} {r rb : Nat} (h1 : Below W.heap.size W V1) (h2 : Kp r rb V1 V2) (h3 : Below V2.heap.size V2 V3) : Kp r rb W V3 :=
  ⟨h3.os.trans (h2.os.trans h1.os), h3.tape.trans (h2.tape.trans h1.tape), h3.output.trans (h2.output.trans h1.output), Nat.le_trans h1.size (Nat.le_trans h2.size h3.size), fun k hk a b => (h3.block k (Nat.lt_of_lt_of_le hk (Nat.le_trans h1.size h2.size))).trans ((h2.block k (Nat.lt_of_lt_of_le hk h1.size) a b).trans (h1.block k hk))⟩
theorem lkJ_z {L : List Nat} {n : Nat} (h0 : blkB L 0 = z16) (h1 : blkB L 1 = z16) (hn : 0 < n) : lookR L n = lkJ (prs L n n 1 0) (n48 (blkB L 0)) := by
  obtain ⟨f, rfl⟩ : ∃ f, n = f + 1 := ⟨n - 1, by omega⟩
  rw [look_z1 h0 h1, prs_zero h1, h0]
  rfl
set_option maxRecDepth 100000 in
set_option maxHeartbeats 16000000 in
theorem openD {W : World} {r rb cap n : Nat} {D : Dk} (hd : RkA W r rb cap D) (hk : DkO D n) (hn : 2 ≤ n) (hp : D.power = true) (hb : B256 D.bytes) (hw : D.writes < 1000000000000) : Calls Try.prog 30 #[.pointer (some ⟨r, 0, none⟩)] W (OdP W r rb cap n D) := by
  have hk' := hide' hk
  have hlen := hk.len
  have hmost := hk.most
  have hO0 : Hid (Od W r rb cap D (.slice none 0 0) [] W) := ⟨hd, RsO.nil _ _, Below.refl _ _⟩
  have hcap : 16 * n ≤ cap := by rw [← hlen]; exact rk_cap hd
  have hlow : Hid (r < W.heap.size ∧ rb < W.heap.size) := by
    obtain ⟨cs, h1⟩ := hd.blk
    exact ⟨blk_lt hd.bx, blk_lt h1⟩
  have K := hide' (rBlocksF hd hlen hmost)
  have KP := hide' (rPowerF hd hk)
  rw [hp] at KP
  have hn' : ¬ (n : Int) < 2 := by omega
  have KB0 := hide' (blockD hd hlen hmost 0 (by omega))
  rw [Nat.zero_mul, Nat.sub_zero, show ((0 : Nat) : Int) = 0 from rfl] at KB0
  have hHb : Hid (∀ b, B256 (blkB D.bytes b)) := fun b z hz => hb z (List.mem_of_mem_drop (List.mem_of_mem_take hz))
  have hHl : Hid (∀ b, b < n → (blkB D.bytes b).length = 16) := fun b h => blkB_len hlen h
  have hrow0 := hide' (RkA.blkRow (b := 0) hd hlen (by omega))
  rw [Nat.zero_mul, Nat.sub_zero] at hrow0
  have hv48 : Hid (∀ V b, b < n → RkA V r rb cap D → Calls Try.prog 50 #[.slice (some ⟨rb, b * 16 + 4, none⟩) 4 (cap - b * 16 - 4)] V fun e w' => e = .returned (.int .u64 (n48 (blkB D.bytes b) : Int)) ∧ w' = V) := fun V b hbn hV => by
    obtain ⟨oa, c, e, hc1, hc2⟩ := hV.blkRow hlen hbn
    have hl := blkB_len hlen hbn
    refine valueD ⟨_, cap - b * 16 - 4, by rw [List.length_take, List.length_drop, hl]; rfl, ⟨by rw [List.length_take, List.length_drop, hl]; omega, fun e => by cases e⟩, fun i z hz => ⟨rb, b * 16 + 4, rfl, ?_⟩⟩ (fun z hz => hHb.out b z (List.mem_of_mem_drop (List.mem_of_mem_take hz))) (by rw [List.length_take]; omega)
    rw [List.getElem?_take] at hz
    split at hz
    · rw [List.getElem?_drop] at hz
      obtain ⟨g, o, e1, e2⟩ := hc2 _ z hz
      injection e with e3
      rw [← e3] at e1
      cases e1
      rw [show b * 16 + 4 + i = b * 16 + (4 + i) by omega]
      exact e2
    · cases hz
  have KV0 := hide' (hv48.out W 0 (by omega) hd)
  rw [Nat.zero_mul, Nat.zero_add, Nat.sub_zero] at KV0
  have hm32 : Hid (∀ b, b < n → n48 (blkB D.bytes b) < 4294967296) := fun b h => n48_lt (hHb.out b) (blkB_len hlen h)
  clear hd hk
  have hp' := hide' hp
  clear hp
  unfold OdP
  generalize hLK : lookR D.bytes n = O at *
  have hLK' := hide' hLK
  clear hLK
  go_enter Try.func30, Try.ntmps30
  go_upto_region 9 with (first | (go_at_call 48; refine K.out.mono ?_; rintro e' w1 ⟨rfl, hw1'⟩; obtain rfl : W = w1 := hw1'.symm) | (go_at_call 36; refine KP.out.mono ?_; rintro e' w1 ⟨rfl, hw1'⟩; obtain rfl : W = w1 := hw1'.symm) | (go_at_call 49; refine KB0.out.mono ?_; rintro e' w1 ⟨rfl, hw1'⟩; obtain rfl : W = w1 := hw1'.symm) | (go_at_call 50; refine KV0.out.mono ?_; rintro e' w1 ⟨rfl, hw1'⟩; obtain rfl : W = w1 := hw1'.symm))
  go_cut [40] from 25 to 39 (fun tv wx => Hid (Below W.heap.size W wx) ∧ ((tv = .bool true ∧ Hid (O = none)) ∨ (tv = .bool false ∧ Hid (O = lkJ (prs D.bytes n n 1 0) (n48 (blkB D.bytes 0))))))
  case first => as_aux_lemma =>
    have hx1 := hide' (look_h1 (L := D.bytes) (n := n))
    have hx2 := hide' (look_z2 (L := D.bytes) (n := n))
    have hx3 := hide' (look_h2 (L := D.bytes) (n := n))
    have hx4 := hide' (fun a b => lkJ_z (L := D.bytes) (n := n) a b (by omega))
    rw [hLK'.out] at hx1 hx2 hx3 hx4
    have hOd := hide' (hO0.out.up (Below.refl _ W).drew)
    have hSv : Hid (∀ V, Od W r rb cap D (.slice none 0 0) [] V → (convert 34 9 (.slice (some ⟨rb, 0, none⟩) 16 cap)).run Try.prog V = .ok (.string (strB (blkB D.bytes 0))) V) := fun V hV => by
      have := hV.conv (b := 0) hlen (by omega)
      rw [Nat.zero_mul, Nat.sub_zero] at this
      exact this
    have hm0 := hm32.out 0 (by omega)
    have KH := hide' (headD (n48 (blkB D.bytes 0)) W.drew (by omega))
    unfold HdP at KH
    have KZ := hide' (fun V (hV : Od W r rb cap D (.slice none 0 0) [] V) => zerosD (W := V) (v := .slice (some ⟨rb, 0, none⟩) 16 cap) (L := blkB D.bytes 0) (by have := hV.rk.blkRow (b := 0) hlen (by omega); rw [Nat.zero_mul, Nat.sub_zero] at this; exact this) (by rw [hHl.out 0 (by omega)]; omega))
    have KB1 := hide' (fun V (hV : Od W r rb cap D (.slice none 0 0) [] V) => blockD hV.rk hlen hmost 1 (by omega))
    rw [Nat.one_mul, show ((1 : Nat) : Int) = 1 from rfl] at KB1
    have KZ1 := hide' (fun V (hV : Od W r rb cap D (.slice none 0 0) [] V) => zerosD (W := V) (v := .slice (some ⟨rb, 16, none⟩) 16 (cap - 16)) (L := blkB D.bytes 1) (by have := hV.rk.blkRow (b := 1) hlen (by omega); rw [Nat.one_mul] at this; exact this) (by rw [hHl.out 1 (by omega)]; omega))
    have hz0 := allZ_16 (hHl.out 0 (by omega))
    have hz1 := allZ_16 (hHl.out 1 (by omega))
    have hne0 := hide' (strB_ne (hHb.out 0) (head_256 (n48 (blkB D.bytes 0))))
    have hz0' := hide' hz0
    have hz1' := hide' hz1
    clear hz0 hz1
    go_wp2_with fail
    by_cases hI : blkB D.bytes 0 = headB (n48 (blkB D.bytes 0))
    · have hOI : Hid (O = lkJ (prs D.bytes n n 1 0) (n48 (blkB D.bytes 0))) := hx3.out (by rw [hI]; exact head_ne _) hI
      have hsI : Hid (strB (headB (n48 (blkB D.bytes 0))) = strB (blkB D.bytes 0)) := by unfold Hid; rw [← hI]
      clear hI hne0
      generalize strB (blkB D.bytes 0) = sH at *
      generalize n48 (blkB D.bytes 0) = m0 at *
      refine wp_region_noPanic (wp_region_held_drew (S := (fun V => (convert 34 9 (.slice (some ⟨rb, 0, none⟩) 16 cap)).run Try.prog V = .ok (.string sH) V)) (by kernel_rfl) ?_ (fun hHeld => ?_))
      · exact hSv.out _ hOd.out
      refine wpAnyH_take (i := 0) (oi := { dst := some 25, op := Op.move (Operand.tmp 5), type := 34, pos := "ref.go:82", after := #[], guard := none }) (v := ?_) rfl (by kernel_rfl) (by kernel_rfl) (by kernel_rfl) (fun _ _ _ h => h) (Or.inl ⟨by rfl, ?_⟩) (by assumption) ?_
      rotate_left
      · intro w hSw; (try dsimp only at hSw); go_simp <;> with_reducible rfl
      simp only [Act.put, List.setIfInBounds_toArray, List.set_cons_zero, List.set_cons_succ]
      refine wpAnyH_take (i := 1) (oi := { dst := some 26, op := Op.convert 34 9 (Operand.tmp 25), type := 9, pos := "ref.go:82", after := #[{ on := 0, ground := Ground.data }], guard := none }) (v := ?_) rfl (by kernel_rfl) (by kernel_rfl) (by kernel_rfl) (fun _ _ _ h => h) (Or.inl ⟨by rfl, ?_⟩) (by assumption) ?_
      rotate_left
      · intro w hSw; (try dsimp only at hSw); go_simp <;> with_reducible rfl
      simp only [Act.put, List.setIfInBounds_toArray, List.set_cons_zero, List.set_cons_succ]
      refine wpAnyH_take (i := 2) (oi := { dst := some 27, op := Op.move (Operand.tmp 6), type := 83, pos := "ref.go:82", after := #[], guard := none }) (v := ?_) rfl (by kernel_rfl) (by kernel_rfl) (by kernel_rfl) (fun _ _ _ h => h) (Or.inl ⟨by rfl, ?_⟩) (by assumption) ?_
      rotate_left
      · intro w hSw; (try dsimp only at hSw); go_simp <;> with_reducible rfl
      simp only [Act.put, List.setIfInBounds_toArray, List.set_cons_zero, List.set_cons_succ]
      refine wpAnyH_ready (rs := [3]) (by kernel_rfl) (by simp) ?_
      refine AllReadyH.cons (o := { dst := some 28, op := Op.call { callee := Callee.value (Operand.func 51), args := #[Operand.tmp 27], argTypes := #[83] }, type := 34, pos := "ref.go:82", after := #[{ on := 2, ground := Ground.data }], guard := none }) rfl (fun K hK => ?_) AllReadyH.nil
      go_simp
      go_at_call 51; refine KH.out.mono ?_; rintro e' w2 ⟨g2, n2, c2, rfl, hn2, hx2, hb2⟩; have hO2 := hide' (hOd.out.up hb2.out); have hcv2 := HdP.conv hx2.out; rw [hsI.out] at hcv2; (try dsimp only)
      refine hK.out _ _ ?_ (fun hHeld => ?_)
      · exact hSv.out _ hO2.out
      clear hK K
      try simp only [Act.put, List.setIfInBounds_toArray, List.set_cons_zero, List.set_cons_succ]
      refine wpAnyH_ready (rs := [4]) (by kernel_rfl) (by simp) ?_
      refine AllReadyH.cons (o := { dst := some 29, op := Op.convert 34 9 (Operand.tmp 28), type := 9, pos := "ref.go:82", after := #[{ on := 3, ground := Ground.data }], guard := none }) rfl (fun K hK => ?_) AllReadyH.nil
      go_simp
      refine hK.out _ _ ?_ (fun hHeld => ?_)
      · exact hSv.out _ hO2.out
      clear hK K
      try simp only [Act.put, List.setIfInBounds_toArray, List.set_cons_zero, List.set_cons_succ]
      refine wpAnyH_take (i := 5) (oi := { dst := some 30, op := Op.binOp BinOp.neq 9 (Operand.tmp 26) (Operand.tmp 29) 9, type := 4, pos := "ref.go:82", after := #[{ on := 1, ground := Ground.data }, { on := 4, ground := Ground.data }], guard := none }) (v := ?_) rfl (by kernel_rfl) (by kernel_rfl) (by kernel_rfl) (fun _ _ _ h => h) (Or.inl ⟨by rfl, ?_⟩) (by assumption) ?_
      rotate_left
      · intro w hSw; (try dsimp only at hSw); go_simp <;> with_reducible rfl
      simp only [Act.put, List.setIfInBounds_toArray, List.set_cons_zero, List.set_cons_succ]
      refine wpAnyH_take (i := 6) (oi := { dst := some 31, op := Op.move (Operand.tmp 30), type := 4, pos := "ref.go:82", after := #[{ on := 5, ground := Ground.data }, { on := 3, ground := Ground.chain }], guard := none }) (v := ?_) rfl (by kernel_rfl) (by kernel_rfl) (by kernel_rfl) (fun _ _ _ h => h) (Or.inl ⟨by rfl, ?_⟩) (by assumption) ?_
      rotate_left
      · intro w hSw; (try dsimp only at hSw); go_simp <;> with_reducible rfl
      simp only [Act.put, List.setIfInBounds_toArray, List.set_cons_zero, List.set_cons_succ]
      refine wpAnyH_take (i := 7) (oi := { dst := some 32, op := Op.move (Operand.tmp 5), type := 34, pos := "ref.go:82", after := #[{ on := 6, ground := Ground.guard }], guard := some (6, true) }) (v := undef) rfl (by kernel_rfl) (by kernel_rfl) (by kernel_rfl) (fun _ _ _ h => h) (Or.inr ⟨by rfl, rfl⟩) (by assumption) ?_
      simp only [Act.put, List.setIfInBounds_toArray, List.set_cons_zero, List.set_cons_succ]
      refine wpAnyH_take (i := 8) (oi := { dst := some 33, op := Op.call { callee := Callee.value (Operand.func 52), args := #[Operand.tmp 32], argTypes := #[34] }, type := 4, pos := "ref.go:82", after := #[{ on := 7, ground := Ground.data }, { on := 6, ground := Ground.chain }, { on := 6, ground := Ground.guard }], guard := some (6, true) }) (v := undef) rfl (by kernel_rfl) (by kernel_rfl) (by kernel_rfl) (fun _ _ _ h => h) (Or.inr ⟨by rfl, rfl⟩) (by assumption) ?_
      simp only [Act.put, List.setIfInBounds_toArray, List.set_cons_zero, List.set_cons_succ]
      refine wpAnyH_take (i := 9) (oi := { dst := some 34, op := Op.move (Operand.tmp 33), type := 4, pos := "ref.go:82", after := #[{ on := 8, ground := Ground.data }, { on := 8, ground := Ground.chain }, { on := 6, ground := Ground.guard }], guard := some (6, true) }) (v := undef) rfl (by kernel_rfl) (by kernel_rfl) (by kernel_rfl) (fun _ _ _ h => h) (Or.inr ⟨by rfl, rfl⟩) (by assumption) ?_
      simp only [Act.put, List.setIfInBounds_toArray, List.set_cons_zero, List.set_cons_succ]
      refine wpAnyH_take (i := 10) (oi := { dst := some 35, op := Op.move (Operand.tmp 0), type := 24, pos := "ref.go:82", after := #[{ on := 9, ground := Ground.guard }], guard := some (9, true) }) (v := undef) rfl (by kernel_rfl) (by kernel_rfl) (by kernel_rfl) (fun _ _ _ h => h) (Or.inr ⟨by rfl, rfl⟩) (by assumption) ?_
      simp only [Act.put, List.setIfInBounds_toArray, List.set_cons_zero, List.set_cons_succ]
      refine wpAnyH_take (i := 11) (oi := { dst := some 36, op := Op.call { callee := Callee.value (Operand.func 49), args := #[Operand.tmp 35, Operand.const (Value.int IntKind.i64 1)], argTypes := #[24, 3] }, type := 34, pos := "ref.go:82", after := #[{ on := 10, ground := Ground.data }, { on := 9, ground := Ground.chain }, { on := 9, ground := Ground.guard }], guard := some (9, true) }) (v := undef) rfl (by kernel_rfl) (by kernel_rfl) (by kernel_rfl) (fun _ _ _ h => h) (Or.inr ⟨by rfl, rfl⟩) (by assumption) ?_
      simp only [Act.put, List.setIfInBounds_toArray, List.set_cons_zero, List.set_cons_succ]
      refine wpAnyH_take (i := 12) (oi := { dst := some 37, op := Op.call { callee := Callee.value (Operand.func 52), args := #[Operand.tmp 36], argTypes := #[34] }, type := 4, pos := "ref.go:82", after := #[{ on := 11, ground := Ground.data }, { on := 11, ground := Ground.chain }, { on := 9, ground := Ground.guard }], guard := some (9, true) }) (v := undef) rfl (by kernel_rfl) (by kernel_rfl) (by kernel_rfl) (fun _ _ _ h => h) (Or.inr ⟨by rfl, rfl⟩) (by assumption) ?_
      simp only [Act.put, List.setIfInBounds_toArray, List.set_cons_zero, List.set_cons_succ]
      refine wpAnyH_take (i := 13) (oi := { dst := some 38, op := Op.pick (Operand.tmp 34) (Operand.tmp 37) (Operand.const (Value.bool false)), type := 4, pos := "ref.go:82", after := #[{ on := 9, ground := Ground.data }, { on := 12, ground := Ground.data }, { on := 6, ground := Ground.guard }], guard := some (6, true) }) (v := undef) rfl (by kernel_rfl) (by kernel_rfl) (by kernel_rfl) (fun _ _ _ h => h) (Or.inr ⟨by rfl, rfl⟩) (by assumption) ?_
      simp only [Act.put, List.setIfInBounds_toArray, List.set_cons_zero, List.set_cons_succ]
      refine wpAnyH_take (i := 14) (oi := { dst := some 39, op := Op.unOp UnOp.not 4 (Operand.tmp 38), type := 4, pos := "ref.go:82", after := #[{ on := 13, ground := Ground.data }, { on := 6, ground := Ground.guard }], guard := some (6, true) }) (v := undef) rfl (by kernel_rfl) (by kernel_rfl) (by kernel_rfl) (fun _ _ _ h => h) (Or.inr ⟨by rfl, rfl⟩) (by assumption) ?_
      simp only [Act.put, List.setIfInBounds_toArray, List.set_cons_zero, List.set_cons_succ]
      refine wpAnyH_take (i := 15) (oi := { dst := some 40, op := Op.pick (Operand.tmp 31) (Operand.tmp 39) (Operand.const (Value.bool false)), type := 4, pos := "ref.go:82", after := #[{ on := 6, ground := Ground.data }, { on := 14, ground := Ground.data }], guard := none }) (v := ?_) rfl (by kernel_rfl) (by kernel_rfl) (by kernel_rfl) (fun _ _ _ h => h) (Or.inl ⟨by rfl, ?_⟩) (by assumption) ?_
      rotate_left
      · intro w hSw; (try dsimp only at hSw); go_simp <;> with_reducible rfl
      simp only [Act.put, List.setIfInBounds_toArray, List.set_cons_zero, List.set_cons_succ]
      refine wpAnyH_done (by kernel_rfl) ?_ _
      refine NoPanic.normal ?_
      go_wp2_with fail
      go_meet
      case rel => exact ⟨hO2.out.be, .inr ⟨rfl, hOI⟩⟩
    · have hne := hide' (hne0.out hI)
      have hI' := hide' hI
      obtain ⟨hn1, hn2, hn3⟩ := hne.out
      by_cases hZ : allZ (blkB D.bytes 0) = true
      · have hH0 : Hid (blkB D.bytes 0 = z16) := by rw [hz0'.out] at hZ; exact hZ
        rw [hZ] at KZ
        by_cases hZ1 : allZ (blkB D.bytes 1) = true
        · rw [hZ1] at KZ1
          have hOI := hide' (hx4.out hH0.out (by rw [hz1'.out] at hZ1; exact hZ1))
          clear hI hne hne0
          generalize strB (blkB D.bytes 0) = sH at *
          generalize n48 (blkB D.bytes 0) = m0 at *
          generalize hsK0 : strB (headB m0) = sK at *
          have hsK := hide' hsK0
          clear hsK0
          refine wp_region_noPanic (wp_region_held_drew (S := (fun V => (convert 34 9 (.slice (some ⟨rb, 0, none⟩) 16 cap)).run Try.prog V = .ok (.string sH) V)) (by kernel_rfl) ?_ (fun hHeld => ?_))
          · exact hSv.out _ hOd.out
          refine wpAnyH_take (i := 0) (oi := { dst := some 25, op := Op.move (Operand.tmp 5), type := 34, pos := "ref.go:82", after := #[], guard := none }) (v := ?_) rfl (by kernel_rfl) (by kernel_rfl) (by kernel_rfl) (fun _ _ _ h => h) (Or.inl ⟨by rfl, ?_⟩) (by assumption) ?_
          rotate_left
          · intro w hSw; (try dsimp only at hSw); go_simp <;> with_reducible rfl
          simp only [Act.put, List.setIfInBounds_toArray, List.set_cons_zero, List.set_cons_succ]
          refine wpAnyH_take (i := 1) (oi := { dst := some 26, op := Op.convert 34 9 (Operand.tmp 25), type := 9, pos := "ref.go:82", after := #[{ on := 0, ground := Ground.data }], guard := none }) (v := ?_) rfl (by kernel_rfl) (by kernel_rfl) (by kernel_rfl) (fun _ _ _ h => h) (Or.inl ⟨by rfl, ?_⟩) (by assumption) ?_
          rotate_left
          · intro w hSw; (try dsimp only at hSw); go_simp <;> with_reducible rfl
          simp only [Act.put, List.setIfInBounds_toArray, List.set_cons_zero, List.set_cons_succ]
          refine wpAnyH_take (i := 2) (oi := { dst := some 27, op := Op.move (Operand.tmp 6), type := 83, pos := "ref.go:82", after := #[], guard := none }) (v := ?_) rfl (by kernel_rfl) (by kernel_rfl) (by kernel_rfl) (fun _ _ _ h => h) (Or.inl ⟨by rfl, ?_⟩) (by assumption) ?_
          rotate_left
          · intro w hSw; (try dsimp only at hSw); go_simp <;> with_reducible rfl
          simp only [Act.put, List.setIfInBounds_toArray, List.set_cons_zero, List.set_cons_succ]
          refine wpAnyH_ready (rs := [3]) (by kernel_rfl) (by simp) ?_
          refine AllReadyH.cons (o := { dst := some 28, op := Op.call { callee := Callee.value (Operand.func 51), args := #[Operand.tmp 27], argTypes := #[83] }, type := 34, pos := "ref.go:82", after := #[{ on := 2, ground := Ground.data }], guard := none }) rfl (fun K hK => ?_) AllReadyH.nil
          go_simp
          go_at_call 51; refine KH.out.mono ?_; rintro e' w2 ⟨g2, n2, c2, rfl, hn2, hx2, hb2⟩; have hO2 := hide' (hOd.out.up hb2.out); have hcv2 := HdP.conv hx2.out; rw [hsK.out] at hcv2; (try dsimp only)
          refine hK.out _ _ ?_ (fun hHeld => ?_)
          · exact hSv.out _ hO2.out
          clear hK K
          try simp only [Act.put, List.setIfInBounds_toArray, List.set_cons_zero, List.set_cons_succ]
          refine wpAnyH_ready (rs := [4]) (by kernel_rfl) (by simp) ?_
          refine AllReadyH.cons (o := { dst := some 29, op := Op.convert 34 9 (Operand.tmp 28), type := 9, pos := "ref.go:82", after := #[{ on := 3, ground := Ground.data }], guard := none }) rfl (fun K hK => ?_) AllReadyH.nil
          go_simp
          refine hK.out _ _ ?_ (fun hHeld => ?_)
          · exact hSv.out _ hO2.out
          clear hK K
          try simp only [Act.put, List.setIfInBounds_toArray, List.set_cons_zero, List.set_cons_succ]
          refine wpAnyH_take (i := 5) (oi := { dst := some 30, op := Op.binOp BinOp.neq 9 (Operand.tmp 26) (Operand.tmp 29) 9, type := 4, pos := "ref.go:82", after := #[{ on := 1, ground := Ground.data }, { on := 4, ground := Ground.data }], guard := none }) (v := ?_) rfl (by kernel_rfl) (by kernel_rfl) (by kernel_rfl) (fun _ _ _ h => h) (Or.inl ⟨by rfl, ?_⟩) (by assumption) ?_
          rotate_left
          · intro w hSw; (try dsimp only at hSw); go_simp <;> with_reducible rfl
          simp only [Act.put, List.setIfInBounds_toArray, List.set_cons_zero, List.set_cons_succ]
          refine wpAnyH_take (i := 6) (oi := { dst := some 31, op := Op.move (Operand.tmp 30), type := 4, pos := "ref.go:82", after := #[{ on := 5, ground := Ground.data }, { on := 3, ground := Ground.chain }], guard := none }) (v := ?_) rfl (by kernel_rfl) (by kernel_rfl) (by kernel_rfl) (fun _ _ _ h => h) (Or.inl ⟨by rfl, ?_⟩) (by assumption) ?_
          rotate_left
          · intro w hSw; (try dsimp only at hSw); go_simp <;> with_reducible rfl
          simp only [Act.put, List.setIfInBounds_toArray, List.set_cons_zero, List.set_cons_succ]
          refine wpAnyH_take (i := 7) (oi := { dst := some 32, op := Op.move (Operand.tmp 5), type := 34, pos := "ref.go:82", after := #[{ on := 6, ground := Ground.guard }], guard := some (6, true) }) (v := ?_) rfl (by kernel_rfl) (by kernel_rfl) (by kernel_rfl) (fun _ _ _ h => h) (Or.inl ⟨by rfl, ?_⟩) (by assumption) ?_
          rotate_left
          · intro w hSw; (try dsimp only at hSw); go_simp <;> with_reducible rfl
          simp only [Act.put, List.setIfInBounds_toArray, List.set_cons_zero, List.set_cons_succ]
          refine wpAnyH_ready (rs := [8]) (by kernel_rfl) (by simp) ?_
          refine AllReadyH.cons (o := { dst := some 33, op := Op.call { callee := Callee.value (Operand.func 52), args := #[Operand.tmp 32], argTypes := #[34] }, type := 4, pos := "ref.go:82", after := #[{ on := 7, ground := Ground.data }, { on := 6, ground := Ground.chain }, { on := 6, ground := Ground.guard }], guard := some (6, true) }) rfl (fun K hK => ?_) AllReadyH.nil
          go_simp
          go_at_call 52; refine (KZ.out w2 hO2.out).mono ?_; rintro e' w3 ⟨rfl, hw3⟩; obtain rfl : w2 = w3 := hw3.symm; (try dsimp only)
          refine hK.out _ _ ?_ (fun hHeld => ?_)
          · exact hSv.out _ hO2.out
          clear hK K
          try simp only [Act.put, List.setIfInBounds_toArray, List.set_cons_zero, List.set_cons_succ]
          refine wpAnyH_take (i := 9) (oi := { dst := some 34, op := Op.move (Operand.tmp 33), type := 4, pos := "ref.go:82", after := #[{ on := 8, ground := Ground.data }, { on := 8, ground := Ground.chain }, { on := 6, ground := Ground.guard }], guard := some (6, true) }) (v := ?_) rfl (by kernel_rfl) (by kernel_rfl) (by kernel_rfl) (fun _ _ _ h => h) (Or.inl ⟨by rfl, ?_⟩) (by assumption) ?_
          rotate_left
          · intro w hSw; (try dsimp only at hSw); go_simp <;> with_reducible rfl
          simp only [Act.put, List.setIfInBounds_toArray, List.set_cons_zero, List.set_cons_succ]
          refine wpAnyH_take (i := 10) (oi := { dst := some 35, op := Op.move (Operand.tmp 0), type := 24, pos := "ref.go:82", after := #[{ on := 9, ground := Ground.guard }], guard := some (9, true) }) (v := ?_) rfl (by kernel_rfl) (by kernel_rfl) (by kernel_rfl) (fun _ _ _ h => h) (Or.inl ⟨by rfl, ?_⟩) (by assumption) ?_
          rotate_left
          · intro w hSw; (try dsimp only at hSw); go_simp <;> with_reducible rfl
          simp only [Act.put, List.setIfInBounds_toArray, List.set_cons_zero, List.set_cons_succ]
          refine wpAnyH_ready (rs := [11]) (by kernel_rfl) (by simp) ?_
          refine AllReadyH.cons (o := { dst := some 36, op := Op.call { callee := Callee.value (Operand.func 49), args := #[Operand.tmp 35, Operand.const (Value.int IntKind.i64 1)], argTypes := #[24, 3] }, type := 34, pos := "ref.go:82", after := #[{ on := 10, ground := Ground.data }, { on := 9, ground := Ground.chain }, { on := 9, ground := Ground.guard }], guard := some (9, true) }) rfl (fun K hK => ?_) AllReadyH.nil
          go_simp
          go_at_call 49; refine (KB1.out w2 hO2.out).mono ?_; rintro e' w3 ⟨rfl, hw3⟩; obtain rfl : w2 = w3 := hw3.symm; (try dsimp only)
          refine hK.out _ _ ?_ (fun hHeld => ?_)
          · exact hSv.out _ hO2.out
          clear hK K
          try simp only [Act.put, List.setIfInBounds_toArray, List.set_cons_zero, List.set_cons_succ]
          refine wpAnyH_ready (rs := [12]) (by kernel_rfl) (by simp) ?_
          refine AllReadyH.cons (o := { dst := some 37, op := Op.call { callee := Callee.value (Operand.func 52), args := #[Operand.tmp 36], argTypes := #[34] }, type := 4, pos := "ref.go:82", after := #[{ on := 11, ground := Ground.data }, { on := 11, ground := Ground.chain }, { on := 9, ground := Ground.guard }], guard := some (9, true) }) rfl (fun K hK => ?_) AllReadyH.nil
          go_simp
          go_at_call 52; refine (KZ1.out w2 hO2.out).mono ?_; rintro e' w3 ⟨rfl, hw3⟩; obtain rfl : w2 = w3 := hw3.symm; (try dsimp only)
          refine hK.out _ _ ?_ (fun hHeld => ?_)
          · exact hSv.out _ hO2.out
          clear hK K
          try simp only [Act.put, List.setIfInBounds_toArray, List.set_cons_zero, List.set_cons_succ]
          refine wpAnyH_take (i := 13) (oi := { dst := some 38, op := Op.pick (Operand.tmp 34) (Operand.tmp 37) (Operand.const (Value.bool false)), type := 4, pos := "ref.go:82", after := #[{ on := 9, ground := Ground.data }, { on := 12, ground := Ground.data }, { on := 6, ground := Ground.guard }], guard := some (6, true) }) (v := ?_) rfl (by kernel_rfl) (by kernel_rfl) (by kernel_rfl) (fun _ _ _ h => h) (Or.inl ⟨by rfl, ?_⟩) (by assumption) ?_
          rotate_left
          · intro w hSw; (try dsimp only at hSw); go_simp <;> with_reducible rfl
          simp only [Act.put, List.setIfInBounds_toArray, List.set_cons_zero, List.set_cons_succ]
          refine wpAnyH_take (i := 14) (oi := { dst := some 39, op := Op.unOp UnOp.not 4 (Operand.tmp 38), type := 4, pos := "ref.go:82", after := #[{ on := 13, ground := Ground.data }, { on := 6, ground := Ground.guard }], guard := some (6, true) }) (v := ?_) rfl (by kernel_rfl) (by kernel_rfl) (by kernel_rfl) (fun _ _ _ h => h) (Or.inl ⟨by rfl, ?_⟩) (by assumption) ?_
          rotate_left
          · intro w hSw; (try dsimp only at hSw); go_simp <;> with_reducible rfl
          simp only [Act.put, List.setIfInBounds_toArray, List.set_cons_zero, List.set_cons_succ]
          refine wpAnyH_take (i := 15) (oi := { dst := some 40, op := Op.pick (Operand.tmp 31) (Operand.tmp 39) (Operand.const (Value.bool false)), type := 4, pos := "ref.go:82", after := #[{ on := 6, ground := Ground.data }, { on := 14, ground := Ground.data }], guard := none }) (v := ?_) rfl (by kernel_rfl) (by kernel_rfl) (by kernel_rfl) (fun _ _ _ h => h) (Or.inl ⟨by rfl, ?_⟩) (by assumption) ?_
          rotate_left
          · intro w hSw; (try dsimp only at hSw); go_simp <;> with_reducible rfl
          simp only [Act.put, List.setIfInBounds_toArray, List.set_cons_zero, List.set_cons_succ]
          refine wpAnyH_done (by kernel_rfl) ?_ _
          refine NoPanic.normal ?_
          go_wp2_with fail
          go_meet
          case rel => exact ⟨hO2.out.be, .inr ⟨rfl, hOI⟩⟩
        · have hZ1' : allZ (blkB D.bytes 1) = false := by simpa using hZ1
          rw [hZ1'] at KZ1
          have hOI := hide' (hx2.out hH0.out (by rw [hz1'.out] at hZ1; exact hZ1))
          clear hI hne hne0
          generalize strB (blkB D.bytes 0) = sH at *
          generalize n48 (blkB D.bytes 0) = m0 at *
          generalize hsK0 : strB (headB m0) = sK at *
          have hsK := hide' hsK0
          clear hsK0
          refine wp_region_noPanic (wp_region_held_drew (S := (fun V => (convert 34 9 (.slice (some ⟨rb, 0, none⟩) 16 cap)).run Try.prog V = .ok (.string sH) V)) (by kernel_rfl) ?_ (fun hHeld => ?_))
          · exact hSv.out _ hOd.out
          refine wpAnyH_take (i := 0) (oi := { dst := some 25, op := Op.move (Operand.tmp 5), type := 34, pos := "ref.go:82", after := #[], guard := none }) (v := ?_) rfl (by kernel_rfl) (by kernel_rfl) (by kernel_rfl) (fun _ _ _ h => h) (Or.inl ⟨by rfl, ?_⟩) (by assumption) ?_
          rotate_left
          · intro w hSw; (try dsimp only at hSw); go_simp <;> with_reducible rfl
          simp only [Act.put, List.setIfInBounds_toArray, List.set_cons_zero, List.set_cons_succ]
          refine wpAnyH_take (i := 1) (oi := { dst := some 26, op := Op.convert 34 9 (Operand.tmp 25), type := 9, pos := "ref.go:82", after := #[{ on := 0, ground := Ground.data }], guard := none }) (v := ?_) rfl (by kernel_rfl) (by kernel_rfl) (by kernel_rfl) (fun _ _ _ h => h) (Or.inl ⟨by rfl, ?_⟩) (by assumption) ?_
          rotate_left
          · intro w hSw; (try dsimp only at hSw); go_simp <;> with_reducible rfl
          simp only [Act.put, List.setIfInBounds_toArray, List.set_cons_zero, List.set_cons_succ]
          refine wpAnyH_take (i := 2) (oi := { dst := some 27, op := Op.move (Operand.tmp 6), type := 83, pos := "ref.go:82", after := #[], guard := none }) (v := ?_) rfl (by kernel_rfl) (by kernel_rfl) (by kernel_rfl) (fun _ _ _ h => h) (Or.inl ⟨by rfl, ?_⟩) (by assumption) ?_
          rotate_left
          · intro w hSw; (try dsimp only at hSw); go_simp <;> with_reducible rfl
          simp only [Act.put, List.setIfInBounds_toArray, List.set_cons_zero, List.set_cons_succ]
          refine wpAnyH_ready (rs := [3]) (by kernel_rfl) (by simp) ?_
          refine AllReadyH.cons (o := { dst := some 28, op := Op.call { callee := Callee.value (Operand.func 51), args := #[Operand.tmp 27], argTypes := #[83] }, type := 34, pos := "ref.go:82", after := #[{ on := 2, ground := Ground.data }], guard := none }) rfl (fun K hK => ?_) AllReadyH.nil
          go_simp
          go_at_call 51; refine KH.out.mono ?_; rintro e' w2 ⟨g2, n2, c2, rfl, hn2, hx2, hb2⟩; have hO2 := hide' (hOd.out.up hb2.out); have hcv2 := HdP.conv hx2.out; rw [hsK.out] at hcv2; (try dsimp only)
          refine hK.out _ _ ?_ (fun hHeld => ?_)
          · exact hSv.out _ hO2.out
          clear hK K
          try simp only [Act.put, List.setIfInBounds_toArray, List.set_cons_zero, List.set_cons_succ]
          refine wpAnyH_ready (rs := [4]) (by kernel_rfl) (by simp) ?_
          refine AllReadyH.cons (o := { dst := some 29, op := Op.convert 34 9 (Operand.tmp 28), type := 9, pos := "ref.go:82", after := #[{ on := 3, ground := Ground.data }], guard := none }) rfl (fun K hK => ?_) AllReadyH.nil
          go_simp
          refine hK.out _ _ ?_ (fun hHeld => ?_)
          · exact hSv.out _ hO2.out
          clear hK K
          try simp only [Act.put, List.setIfInBounds_toArray, List.set_cons_zero, List.set_cons_succ]
          refine wpAnyH_take (i := 5) (oi := { dst := some 30, op := Op.binOp BinOp.neq 9 (Operand.tmp 26) (Operand.tmp 29) 9, type := 4, pos := "ref.go:82", after := #[{ on := 1, ground := Ground.data }, { on := 4, ground := Ground.data }], guard := none }) (v := ?_) rfl (by kernel_rfl) (by kernel_rfl) (by kernel_rfl) (fun _ _ _ h => h) (Or.inl ⟨by rfl, ?_⟩) (by assumption) ?_
          rotate_left
          · intro w hSw; (try dsimp only at hSw); go_simp <;> with_reducible rfl
          simp only [Act.put, List.setIfInBounds_toArray, List.set_cons_zero, List.set_cons_succ]
          refine wpAnyH_take (i := 6) (oi := { dst := some 31, op := Op.move (Operand.tmp 30), type := 4, pos := "ref.go:82", after := #[{ on := 5, ground := Ground.data }, { on := 3, ground := Ground.chain }], guard := none }) (v := ?_) rfl (by kernel_rfl) (by kernel_rfl) (by kernel_rfl) (fun _ _ _ h => h) (Or.inl ⟨by rfl, ?_⟩) (by assumption) ?_
          rotate_left
          · intro w hSw; (try dsimp only at hSw); go_simp <;> with_reducible rfl
          simp only [Act.put, List.setIfInBounds_toArray, List.set_cons_zero, List.set_cons_succ]
          refine wpAnyH_take (i := 7) (oi := { dst := some 32, op := Op.move (Operand.tmp 5), type := 34, pos := "ref.go:82", after := #[{ on := 6, ground := Ground.guard }], guard := some (6, true) }) (v := ?_) rfl (by kernel_rfl) (by kernel_rfl) (by kernel_rfl) (fun _ _ _ h => h) (Or.inl ⟨by rfl, ?_⟩) (by assumption) ?_
          rotate_left
          · intro w hSw; (try dsimp only at hSw); go_simp <;> with_reducible rfl
          simp only [Act.put, List.setIfInBounds_toArray, List.set_cons_zero, List.set_cons_succ]
          refine wpAnyH_ready (rs := [8]) (by kernel_rfl) (by simp) ?_
          refine AllReadyH.cons (o := { dst := some 33, op := Op.call { callee := Callee.value (Operand.func 52), args := #[Operand.tmp 32], argTypes := #[34] }, type := 4, pos := "ref.go:82", after := #[{ on := 7, ground := Ground.data }, { on := 6, ground := Ground.chain }, { on := 6, ground := Ground.guard }], guard := some (6, true) }) rfl (fun K hK => ?_) AllReadyH.nil
          go_simp
          go_at_call 52; refine (KZ.out w2 hO2.out).mono ?_; rintro e' w3 ⟨rfl, hw3⟩; obtain rfl : w2 = w3 := hw3.symm; (try dsimp only)
          refine hK.out _ _ ?_ (fun hHeld => ?_)
          · exact hSv.out _ hO2.out
          clear hK K
          try simp only [Act.put, List.setIfInBounds_toArray, List.set_cons_zero, List.set_cons_succ]
          refine wpAnyH_take (i := 9) (oi := { dst := some 34, op := Op.move (Operand.tmp 33), type := 4, pos := "ref.go:82", after := #[{ on := 8, ground := Ground.data }, { on := 8, ground := Ground.chain }, { on := 6, ground := Ground.guard }], guard := some (6, true) }) (v := ?_) rfl (by kernel_rfl) (by kernel_rfl) (by kernel_rfl) (fun _ _ _ h => h) (Or.inl ⟨by rfl, ?_⟩) (by assumption) ?_
          rotate_left
          · intro w hSw; (try dsimp only at hSw); go_simp <;> with_reducible rfl
          simp only [Act.put, List.setIfInBounds_toArray, List.set_cons_zero, List.set_cons_succ]
          refine wpAnyH_take (i := 10) (oi := { dst := some 35, op := Op.move (Operand.tmp 0), type := 24, pos := "ref.go:82", after := #[{ on := 9, ground := Ground.guard }], guard := some (9, true) }) (v := ?_) rfl (by kernel_rfl) (by kernel_rfl) (by kernel_rfl) (fun _ _ _ h => h) (Or.inl ⟨by rfl, ?_⟩) (by assumption) ?_
          rotate_left
          · intro w hSw; (try dsimp only at hSw); go_simp <;> with_reducible rfl
          simp only [Act.put, List.setIfInBounds_toArray, List.set_cons_zero, List.set_cons_succ]
          refine wpAnyH_ready (rs := [11]) (by kernel_rfl) (by simp) ?_
          refine AllReadyH.cons (o := { dst := some 36, op := Op.call { callee := Callee.value (Operand.func 49), args := #[Operand.tmp 35, Operand.const (Value.int IntKind.i64 1)], argTypes := #[24, 3] }, type := 34, pos := "ref.go:82", after := #[{ on := 10, ground := Ground.data }, { on := 9, ground := Ground.chain }, { on := 9, ground := Ground.guard }], guard := some (9, true) }) rfl (fun K hK => ?_) AllReadyH.nil
          go_simp
          go_at_call 49; refine (KB1.out w2 hO2.out).mono ?_; rintro e' w3 ⟨rfl, hw3⟩; obtain rfl : w2 = w3 := hw3.symm; (try dsimp only)
          refine hK.out _ _ ?_ (fun hHeld => ?_)
          · exact hSv.out _ hO2.out
          clear hK K
          try simp only [Act.put, List.setIfInBounds_toArray, List.set_cons_zero, List.set_cons_succ]
          refine wpAnyH_ready (rs := [12]) (by kernel_rfl) (by simp) ?_
          refine AllReadyH.cons (o := { dst := some 37, op := Op.call { callee := Callee.value (Operand.func 52), args := #[Operand.tmp 36], argTypes := #[34] }, type := 4, pos := "ref.go:82", after := #[{ on := 11, ground := Ground.data }, { on := 11, ground := Ground.chain }, { on := 9, ground := Ground.guard }], guard := some (9, true) }) rfl (fun K hK => ?_) AllReadyH.nil
          go_simp
          go_at_call 52; refine (KZ1.out w2 hO2.out).mono ?_; rintro e' w3 ⟨rfl, hw3⟩; obtain rfl : w2 = w3 := hw3.symm; (try dsimp only)
          refine hK.out _ _ ?_ (fun hHeld => ?_)
          · exact hSv.out _ hO2.out
          clear hK K
          try simp only [Act.put, List.setIfInBounds_toArray, List.set_cons_zero, List.set_cons_succ]
          refine wpAnyH_take (i := 13) (oi := { dst := some 38, op := Op.pick (Operand.tmp 34) (Operand.tmp 37) (Operand.const (Value.bool false)), type := 4, pos := "ref.go:82", after := #[{ on := 9, ground := Ground.data }, { on := 12, ground := Ground.data }, { on := 6, ground := Ground.guard }], guard := some (6, true) }) (v := ?_) rfl (by kernel_rfl) (by kernel_rfl) (by kernel_rfl) (fun _ _ _ h => h) (Or.inl ⟨by rfl, ?_⟩) (by assumption) ?_
          rotate_left
          · intro w hSw; (try dsimp only at hSw); go_simp <;> with_reducible rfl
          simp only [Act.put, List.setIfInBounds_toArray, List.set_cons_zero, List.set_cons_succ]
          refine wpAnyH_take (i := 14) (oi := { dst := some 39, op := Op.unOp UnOp.not 4 (Operand.tmp 38), type := 4, pos := "ref.go:82", after := #[{ on := 13, ground := Ground.data }, { on := 6, ground := Ground.guard }], guard := some (6, true) }) (v := ?_) rfl (by kernel_rfl) (by kernel_rfl) (by kernel_rfl) (fun _ _ _ h => h) (Or.inl ⟨by rfl, ?_⟩) (by assumption) ?_
          rotate_left
          · intro w hSw; (try dsimp only at hSw); go_simp <;> with_reducible rfl
          simp only [Act.put, List.setIfInBounds_toArray, List.set_cons_zero, List.set_cons_succ]
          refine wpAnyH_take (i := 15) (oi := { dst := some 40, op := Op.pick (Operand.tmp 31) (Operand.tmp 39) (Operand.const (Value.bool false)), type := 4, pos := "ref.go:82", after := #[{ on := 6, ground := Ground.data }, { on := 14, ground := Ground.data }], guard := none }) (v := ?_) rfl (by kernel_rfl) (by kernel_rfl) (by kernel_rfl) (fun _ _ _ h => h) (Or.inl ⟨by rfl, ?_⟩) (by assumption) ?_
          rotate_left
          · intro w hSw; (try dsimp only at hSw); go_simp <;> with_reducible rfl
          simp only [Act.put, List.setIfInBounds_toArray, List.set_cons_zero, List.set_cons_succ]
          refine wpAnyH_done (by kernel_rfl) ?_ _
          refine NoPanic.normal ?_
          go_wp2_with fail
          go_meet
          case rel => exact ⟨hO2.out.be, .inl ⟨rfl, hOI⟩⟩
      · have hZ' : allZ (blkB D.bytes 0) = false := by simpa using hZ
        rw [hZ'] at KZ
        have hOI := hide' (hx1.out (by rw [hz0'.out] at hZ; exact hZ) hI)
        clear hI hne hne0
        generalize strB (blkB D.bytes 0) = sH at *
        generalize n48 (blkB D.bytes 0) = m0 at *
        generalize hsK0 : strB (headB m0) = sK at *
        have hsK := hide' hsK0
        clear hsK0
        refine wp_region_noPanic (wp_region_held_drew (S := (fun V => (convert 34 9 (.slice (some ⟨rb, 0, none⟩) 16 cap)).run Try.prog V = .ok (.string sH) V)) (by kernel_rfl) ?_ (fun hHeld => ?_))
        · exact hSv.out _ hOd.out
        refine wpAnyH_take (i := 0) (oi := { dst := some 25, op := Op.move (Operand.tmp 5), type := 34, pos := "ref.go:82", after := #[], guard := none }) (v := ?_) rfl (by kernel_rfl) (by kernel_rfl) (by kernel_rfl) (fun _ _ _ h => h) (Or.inl ⟨by rfl, ?_⟩) (by assumption) ?_
        rotate_left
        · intro w hSw; (try dsimp only at hSw); go_simp <;> with_reducible rfl
        simp only [Act.put, List.setIfInBounds_toArray, List.set_cons_zero, List.set_cons_succ]
        refine wpAnyH_take (i := 1) (oi := { dst := some 26, op := Op.convert 34 9 (Operand.tmp 25), type := 9, pos := "ref.go:82", after := #[{ on := 0, ground := Ground.data }], guard := none }) (v := ?_) rfl (by kernel_rfl) (by kernel_rfl) (by kernel_rfl) (fun _ _ _ h => h) (Or.inl ⟨by rfl, ?_⟩) (by assumption) ?_
        rotate_left
        · intro w hSw; (try dsimp only at hSw); go_simp <;> with_reducible rfl
        simp only [Act.put, List.setIfInBounds_toArray, List.set_cons_zero, List.set_cons_succ]
        refine wpAnyH_take (i := 2) (oi := { dst := some 27, op := Op.move (Operand.tmp 6), type := 83, pos := "ref.go:82", after := #[], guard := none }) (v := ?_) rfl (by kernel_rfl) (by kernel_rfl) (by kernel_rfl) (fun _ _ _ h => h) (Or.inl ⟨by rfl, ?_⟩) (by assumption) ?_
        rotate_left
        · intro w hSw; (try dsimp only at hSw); go_simp <;> with_reducible rfl
        simp only [Act.put, List.setIfInBounds_toArray, List.set_cons_zero, List.set_cons_succ]
        refine wpAnyH_ready (rs := [3]) (by kernel_rfl) (by simp) ?_
        refine AllReadyH.cons (o := { dst := some 28, op := Op.call { callee := Callee.value (Operand.func 51), args := #[Operand.tmp 27], argTypes := #[83] }, type := 34, pos := "ref.go:82", after := #[{ on := 2, ground := Ground.data }], guard := none }) rfl (fun K hK => ?_) AllReadyH.nil
        go_simp
        go_at_call 51; refine KH.out.mono ?_; rintro e' w2 ⟨g2, n2, c2, rfl, hn2, hx2, hb2⟩; have hO2 := hide' (hOd.out.up hb2.out); have hcv2 := HdP.conv hx2.out; rw [hsK.out] at hcv2; (try dsimp only)
        refine hK.out _ _ ?_ (fun hHeld => ?_)
        · exact hSv.out _ hO2.out
        clear hK K
        try simp only [Act.put, List.setIfInBounds_toArray, List.set_cons_zero, List.set_cons_succ]
        refine wpAnyH_ready (rs := [4]) (by kernel_rfl) (by simp) ?_
        refine AllReadyH.cons (o := { dst := some 29, op := Op.convert 34 9 (Operand.tmp 28), type := 9, pos := "ref.go:82", after := #[{ on := 3, ground := Ground.data }], guard := none }) rfl (fun K hK => ?_) AllReadyH.nil
        go_simp
        refine hK.out _ _ ?_ (fun hHeld => ?_)
        · exact hSv.out _ hO2.out
        clear hK K
        try simp only [Act.put, List.setIfInBounds_toArray, List.set_cons_zero, List.set_cons_succ]
        refine wpAnyH_take (i := 5) (oi := { dst := some 30, op := Op.binOp BinOp.neq 9 (Operand.tmp 26) (Operand.tmp 29) 9, type := 4, pos := "ref.go:82", after := #[{ on := 1, ground := Ground.data }, { on := 4, ground := Ground.data }], guard := none }) (v := ?_) rfl (by kernel_rfl) (by kernel_rfl) (by kernel_rfl) (fun _ _ _ h => h) (Or.inl ⟨by rfl, ?_⟩) (by assumption) ?_
        rotate_left
        · intro w hSw; (try dsimp only at hSw); go_simp <;> with_reducible rfl
        simp only [Act.put, List.setIfInBounds_toArray, List.set_cons_zero, List.set_cons_succ]
        refine wpAnyH_take (i := 6) (oi := { dst := some 31, op := Op.move (Operand.tmp 30), type := 4, pos := "ref.go:82", after := #[{ on := 5, ground := Ground.data }, { on := 3, ground := Ground.chain }], guard := none }) (v := ?_) rfl (by kernel_rfl) (by kernel_rfl) (by kernel_rfl) (fun _ _ _ h => h) (Or.inl ⟨by rfl, ?_⟩) (by assumption) ?_
        rotate_left
        · intro w hSw; (try dsimp only at hSw); go_simp <;> with_reducible rfl
        simp only [Act.put, List.setIfInBounds_toArray, List.set_cons_zero, List.set_cons_succ]
        refine wpAnyH_take (i := 7) (oi := { dst := some 32, op := Op.move (Operand.tmp 5), type := 34, pos := "ref.go:82", after := #[{ on := 6, ground := Ground.guard }], guard := some (6, true) }) (v := ?_) rfl (by kernel_rfl) (by kernel_rfl) (by kernel_rfl) (fun _ _ _ h => h) (Or.inl ⟨by rfl, ?_⟩) (by assumption) ?_
        rotate_left
        · intro w hSw; (try dsimp only at hSw); go_simp <;> with_reducible rfl
        simp only [Act.put, List.setIfInBounds_toArray, List.set_cons_zero, List.set_cons_succ]
        refine wpAnyH_ready (rs := [8]) (by kernel_rfl) (by simp) ?_
        refine AllReadyH.cons (o := { dst := some 33, op := Op.call { callee := Callee.value (Operand.func 52), args := #[Operand.tmp 32], argTypes := #[34] }, type := 4, pos := "ref.go:82", after := #[{ on := 7, ground := Ground.data }, { on := 6, ground := Ground.chain }, { on := 6, ground := Ground.guard }], guard := some (6, true) }) rfl (fun K hK => ?_) AllReadyH.nil
        go_simp
        go_at_call 52; refine (KZ.out w2 hO2.out).mono ?_; rintro e' w3 ⟨rfl, hw3⟩; obtain rfl : w2 = w3 := hw3.symm; (try dsimp only)
        refine hK.out _ _ ?_ (fun hHeld => ?_)
        · exact hSv.out _ hO2.out
        clear hK K
        try simp only [Act.put, List.setIfInBounds_toArray, List.set_cons_zero, List.set_cons_succ]
        refine wpAnyH_take (i := 9) (oi := { dst := some 34, op := Op.move (Operand.tmp 33), type := 4, pos := "ref.go:82", after := #[{ on := 8, ground := Ground.data }, { on := 8, ground := Ground.chain }, { on := 6, ground := Ground.guard }], guard := some (6, true) }) (v := ?_) rfl (by kernel_rfl) (by kernel_rfl) (by kernel_rfl) (fun _ _ _ h => h) (Or.inl ⟨by rfl, ?_⟩) (by assumption) ?_
        rotate_left
        · intro w hSw; (try dsimp only at hSw); go_simp <;> with_reducible rfl
        simp only [Act.put, List.setIfInBounds_toArray, List.set_cons_zero, List.set_cons_succ]
        refine wpAnyH_take (i := 10) (oi := { dst := some 35, op := Op.move (Operand.tmp 0), type := 24, pos := "ref.go:82", after := #[{ on := 9, ground := Ground.guard }], guard := some (9, true) }) (v := undef) rfl (by kernel_rfl) (by kernel_rfl) (by kernel_rfl) (fun _ _ _ h => h) (Or.inr ⟨by rfl, rfl⟩) (by assumption) ?_
        simp only [Act.put, List.setIfInBounds_toArray, List.set_cons_zero, List.set_cons_succ]
        refine wpAnyH_take (i := 11) (oi := { dst := some 36, op := Op.call { callee := Callee.value (Operand.func 49), args := #[Operand.tmp 35, Operand.const (Value.int IntKind.i64 1)], argTypes := #[24, 3] }, type := 34, pos := "ref.go:82", after := #[{ on := 10, ground := Ground.data }, { on := 9, ground := Ground.chain }, { on := 9, ground := Ground.guard }], guard := some (9, true) }) (v := undef) rfl (by kernel_rfl) (by kernel_rfl) (by kernel_rfl) (fun _ _ _ h => h) (Or.inr ⟨by rfl, rfl⟩) (by assumption) ?_
        simp only [Act.put, List.setIfInBounds_toArray, List.set_cons_zero, List.set_cons_succ]
        refine wpAnyH_take (i := 12) (oi := { dst := some 37, op := Op.call { callee := Callee.value (Operand.func 52), args := #[Operand.tmp 36], argTypes := #[34] }, type := 4, pos := "ref.go:82", after := #[{ on := 11, ground := Ground.data }, { on := 11, ground := Ground.chain }, { on := 9, ground := Ground.guard }], guard := some (9, true) }) (v := undef) rfl (by kernel_rfl) (by kernel_rfl) (by kernel_rfl) (fun _ _ _ h => h) (Or.inr ⟨by rfl, rfl⟩) (by assumption) ?_
        simp only [Act.put, List.setIfInBounds_toArray, List.set_cons_zero, List.set_cons_succ]
        refine wpAnyH_take (i := 13) (oi := { dst := some 38, op := Op.pick (Operand.tmp 34) (Operand.tmp 37) (Operand.const (Value.bool false)), type := 4, pos := "ref.go:82", after := #[{ on := 9, ground := Ground.data }, { on := 12, ground := Ground.data }, { on := 6, ground := Ground.guard }], guard := some (6, true) }) (v := ?_) rfl (by kernel_rfl) (by kernel_rfl) (by kernel_rfl) (fun _ _ _ h => h) (Or.inl ⟨by rfl, ?_⟩) (by assumption) ?_
        rotate_left
        · intro w hSw; (try dsimp only at hSw); go_simp <;> with_reducible rfl
        simp only [Act.put, List.setIfInBounds_toArray, List.set_cons_zero, List.set_cons_succ]
        refine wpAnyH_take (i := 14) (oi := { dst := some 39, op := Op.unOp UnOp.not 4 (Operand.tmp 38), type := 4, pos := "ref.go:82", after := #[{ on := 13, ground := Ground.data }, { on := 6, ground := Ground.guard }], guard := some (6, true) }) (v := ?_) rfl (by kernel_rfl) (by kernel_rfl) (by kernel_rfl) (fun _ _ _ h => h) (Or.inl ⟨by rfl, ?_⟩) (by assumption) ?_
        rotate_left
        · intro w hSw; (try dsimp only at hSw); go_simp <;> with_reducible rfl
        simp only [Act.put, List.setIfInBounds_toArray, List.set_cons_zero, List.set_cons_succ]
        refine wpAnyH_take (i := 15) (oi := { dst := some 40, op := Op.pick (Operand.tmp 31) (Operand.tmp 39) (Operand.const (Value.bool false)), type := 4, pos := "ref.go:82", after := #[{ on := 6, ground := Ground.data }, { on := 14, ground := Ground.data }], guard := none }) (v := ?_) rfl (by kernel_rfl) (by kernel_rfl) (by kernel_rfl) (fun _ _ _ h => h) (Or.inl ⟨by rfl, ?_⟩) (by assumption) ?_
        rotate_left
        · intro w hSw; (try dsimp only at hSw); go_simp <;> with_reducible rfl
        simp only [Act.put, List.setIfInBounds_toArray, List.set_cons_zero, List.set_cons_succ]
        refine wpAnyH_done (by kernel_rfl) ?_ _
        refine NoPanic.normal ?_
        go_wp2_with fail
        go_meet
        case rel => exact ⟨hO2.out.be, .inl ⟨rfl, hOI⟩⟩
  case rest => as_aux_lemma =>
    obtain ⟨hbw, ⟨rfl, hOn⟩ | ⟨rfl, hOs⟩⟩ := hcut
    · go_wp2
      exact bodyPost_ret (v := .tuple #[.pointer none, .slice none 0 0, .int .i64 52]) (by simp [results, Try.results30]) rfl (.inl ⟨rfl, hOn, hbw⟩)
    · have hO1 := hide' (hO0.out.up hbw.out)
      have hm0 := hm32.out 0 (by omega)
      have hKBl := hide' (fun V (lv : Value) (G : List (Value × List Nat)) (hV : Od W r rb cap D lv G V) => rBlocksF hV.rk hlen hmost)
      generalize n48 (blkB D.bytes 0) = m0 at *
      clear K KP KB0 KV0 hrow0 hLK'
      go_upto_block 0 with fail
      go_cut [7, 8, 9, 10, 11] from 41 to 109 (fun lv pv _ _ _ wx => ∃ (oa : Option Addr) (kl c2 q : Nat) (G : List (Value × List Nat)), lv = .slice oa kl c2 ∧ pv = .int .i64 (q : Int) ∧ Hid (kl = G.length) ∧ q < n ∧ G.length ≤ q ∧ Hid (prs D.bytes n n 1 0 = some (G.map (·.2), q)) ∧ Hid (Od W r rb cap D (.slice oa kl c2) G wx))
      case first => as_aux_lemma =>
        generalize hT0 : prs D.bytes n n 1 0 = T at *
        have hT : Hid (T = joinQ [] (prs D.bytes n n 1 0)) := by
          rw [hT0]
          unfold Hid joinQ
          cases T with
          | none => rfl
          | some x => obtain ⟨l, p⟩ := x; simp
        clear hT0
        go_wp2_with fail
        go_loopw [7, 8, 9, 10, 11] (fun lv pv _ _ _ wx => ∃ (oa : Option Addr) (kl c2 f q : Nat) (G : List (Value × List Nat)), lv = .slice oa kl c2 ∧ pv = .int .i64 (q : Int) ∧ Hid (kl = G.length) ∧ n ≤ q + f ∧ q < n ∧ G.length ≤ q ∧ Hid (T = joinQ (G.map (·.2)) (prs D.bytes n f q G.length)) ∧ Hid (Od W r rb cap D (.slice oa kl c2) G wx)) (fun _ pv _ _ _ _ => ((n : Int) - intOf pv).toNat)
        case atStart => exact ⟨none, 0, 0, n, 1, [], rfl, rfl, rfl, by omega, by omega, by simp, hT, hO1⟩
        case round =>
          clear hT hO1
          obtain ⟨oa, kl, c2, f, q, G, rfl, rfl, hkl, hf, hq, hGq, hT, hO⟩ := hrel
          obtain ⟨f, rfl⟩ : ∃ f', f = f' + 1 := ⟨f - 1, by omega⟩
          have hqI : ¬ (n : Int) ≤ (q : Int) := by omega
          have KBl := hide' (hKBl.out wr _ _ hO.out)
          have KBk := hide' (blockD hO.out.rk hlen hmost q hq)
          have KZ := hide' (zerosD (hO.out.rk.blkRow hlen hq) (by rw [hHl.out q hq]; omega))
          have hz := hide' (allZ_16 (hHl.out q hq))
          by_cases hZ : allZ (blkB D.bytes q) = true
          · rw [hZ] at KZ
            have hT2 : Hid (T = some (G.map (·.2), q)) := by
              rw [hz.out] at hZ
              have h1 := hT.out
              rw [prs_zero hZ] at h1
              unfold Hid
              rw [h1]
              unfold joinQ
              simp
            clear hZ
            go_wp2_with (first | (go_at_call 48; refine KBl.out.mono ?_; rintro e' w1 ⟨rfl, hw1'⟩; obtain rfl : wr = w1 := hw1'.symm) | (go_at_call 49; refine KBk.out.mono ?_; rintro e' w1 ⟨rfl, hw1'⟩; obtain rfl : wr = w1 := hw1'.symm) | (go_at_call 52; refine KZ.out.mono ?_; rintro e' w1 ⟨rfl, hw1'⟩; obtain rfl : wr = w1 := hw1'.symm))
            go_meet
            case rel => exact ⟨oa, kl, c2, q, G, rfl, rfl, hkl, hq, hGq, hT2, hO⟩
          · have hZ' : allZ (blkB D.bytes q) = false := by simpa using hZ
            rw [hZ'] at KZ
            have hTz : Hid (blkB D.bytes q ≠ z16) := by rw [hz.out] at hZ; exact hZ
            have hmq := hm32.out q hq
            have KV := hide' (hv48.out wr q hq hO.out.rk)
            have hc1 : ¬ cap - q * 16 = 4 := by omega
            have hc2 : 8 ≤ cap - q * 16 := by omega
            have hn1 := hide' (prs_none (L := D.bytes) (n := n) (f := f) (q := q) (c := G.length) hTz.out)
            have hs1 := hide' (fun rr => prs_someQ (L := D.bytes) (n := n) (f := f) (q := q) (c := G.length) (r := rr) (G.map (·.2)) hTz.out)
            have hbig := hide' (oneR_big (L := D.bytes) (n := n) (q := q) (c := G.length))
            have hfar := hide' (oneR_far (L := D.bytes) (n := n) (q := q) (c := G.length))
            have hnot := hide' (oneR_not (L := D.bytes) (n := n) (q := q) (c := G.length))
            have htl := hide' (oneR_tail (n := n) (q := q) (c := G.length) hlen)
            have hnx := hide' (fun rr => oneR_next (n := n) (q := q) (c := G.length) (r := rr) hlen)
            have hcv : Hid (∀ V lv G, Od W r rb cap D lv G V → (convert 34 9 (.slice (some ⟨rb, q * 16, none⟩) 16 (cap - q * 16))).run Try.prog V = .ok (.string (strB (blkB D.bytes q))) V) := fun V lv G hV => hV.conv hlen hq
            have hnes := hide' (strB_ne (hHb.out q) (title_256 (n48 (blkB D.bytes q)) (G.length + 1)))
            have htsub : Hid (∀ V lv G, Od W r rb cap D lv G V → q + 1 + spn (n48 (blkB D.bytes q)) < n → RowC V (.slice (some ⟨rb, 16 * (q + 1) + n48 (blkB D.bytes q), none⟩) (16 * spn (n48 (blkB D.bytes q)) - n48 (blkB D.bytes q)) (cap - 16 * (q + 1) - n48 (blkB D.bytes q))) (tailB D.bytes q (n48 (blkB D.bytes q)))) := fun V lv G hV h => hV.rk.sub (fun i z hz => tail_sub hz) (tail_len hlen h).symm (by have : n48 (blkB D.bytes q) ≤ 16 * spn (n48 (blkB D.bytes q)) := by { unfold spn; omega }; omega)
            have hrsub : Hid (∀ V lv G, Od W r rb cap D lv G V → q + 1 + spn (n48 (blkB D.bytes q)) < n → RowC V (.slice (some ⟨rb, 16 * (q + 1), none⟩) (n48 (blkB D.bytes q)) (cap - 16 * (q + 1))) (recOf D.bytes q (n48 (blkB D.bytes q)))) := fun V lv G hV h => hV.rk.sub (fun i z hz => rec_sub hz) (recOf_len hlen h).symm (by have : n48 (blkB D.bytes q) ≤ 16 * spn (n48 (blkB D.bytes q)) := by { unfold spn; omega }; omega)
            have hrl : Hid (q + 1 + spn (n48 (blkB D.bytes q)) < n → (recOf D.bytes q (n48 (blkB D.bytes q))).length = n48 (blkB D.bytes q)) := fun h => recOf_len hlen h
            clear hZ hZ'
            generalize blkB D.bytes q = P at *
            generalize hmm : n48 P = m at *
            clear hmm
            have hsp : 16 * spn m < m + 16 ∧ m ≤ 16 * spn m := by unfold spn; omega
            go_upto_region 18 with (first | (go_at_call 48; refine KBl.out.mono ?_; rintro e' w1 ⟨rfl, hw1'⟩; obtain rfl : wr = w1 := hw1'.symm) | (go_at_call 49; refine KBk.out.mono ?_; rintro e' w1 ⟨rfl, hw1'⟩; obtain rfl : wr = w1 := hw1'.symm) | (go_at_call 52; refine KZ.out.mono ?_; rintro e' w1 ⟨rfl, hw1'⟩; obtain rfl : wr = w1 := hw1'.symm) | (go_at_call 50; refine KV.out.mono ?_; rintro e' w1 ⟨rfl, hw1'⟩; obtain rfl : wr = w1 := hw1'.symm))
            go_cut [77] from 54 to 76 (fun tv wx => Hid (Od W r rb cap D (.slice oa kl c2) G wx) ∧ ((tv = .bool true ∧ Hid (oneR D.bytes n q G.length = none)) ∨ (tv = .bool false ∧ Hid (m ≤ 131072 ∧ q + 1 + spn m < n ∧ P = titleB m (G.length + 1)))))
            case first =>
              have hOd := hide' (hO.out.up (Below.refl _ wr).drew)
              have hSv : Hid (∀ V, Od W r rb cap D (.slice oa kl c2) G V → (convert 34 9 (.slice (some ⟨rb, q * 16, none⟩) 16 (cap - q * 16))).run Try.prog V = .ok (.string (strB P)) V) := fun V hV => hcv.out V _ _ hV
              have KT := hide' (titleD m (G.length + 1) wr.drew (by omega) (by omega))
              unfold HdP at KT
              rw [← hkl.out, show ((kl + 1 : Nat) : Int) = (kl : Int) + 1 by omega] at KT
              have hkle : kl ≤ 65536 := by rw [hkl.out]; omega
              have hwk : IntKind.i64.wrap ((kl : Int) + 1) = (kl : Int) + 1 := wrap_id (by omega) (by omega)
              have hwu : IntKind.u64.wrap ((kl : Int) + 1) = (kl : Int) + 1 := by
                unfold IntKind.wrap
                simp [IntKind.bits, IntKind.signed]
                omega
              have KS := hide' (fun V => spanD (W := V) m (by omega))
              have hBl2 := hide' (fun V (hV : Od W r rb cap D (.slice oa kl c2) G V) => hKBl.out V _ _ hV)
              go_wp2_with fail
              rw [← hkl.out] at hnes hnot hbig hfar
              by_cases hTT : P = titleB m (kl + 1)
              · have hsT : Hid (strB (titleB m (kl + 1)) = strB P) := by unfold Hid; rw [← hTT]
                have hTT' := hide' hTT
                clear hTT hnes
                by_cases hmb : 131072 < m
                · have hOI := hide' (hbig.out hmb)
                  have hmb1 : decide ((131072 : Int) < (m : Int)) = true := by simp; omega
                  have hmb2 : decide (131072 < m) = true := by simp; omega
                  generalize strB P = sH at *
                  refine wp_region_noPanic (wp_region_held_drew (S := (fun V => (convert 34 9 (.slice (some ⟨rb, q * 16, none⟩) 16 (cap - q * 16))).run Try.prog V = .ok (.string sH) V)) (by kernel_rfl) ?_ (fun hHeld => ?_))
                  · exact hSv.out _ hOd.out
                  refine wpAnyH_take (i := 0) (oi := { dst := some 54, op := Op.move (Operand.tmp 9), type := 34, pos := "ref.go:96", after := #[], guard := none }) (v := ?_) rfl (by kernel_rfl) (by kernel_rfl) (by kernel_rfl) (fun _ _ _ h => h) (Or.inl ⟨by rfl, ?_⟩) (by assumption) ?_
                  rotate_left
                  · intro w hSw; (try dsimp only at hSw); go_simp <;> with_reducible rfl
                  simp only [Act.put, List.setIfInBounds_toArray, List.set_cons_zero, List.set_cons_succ]
                  refine wpAnyH_take (i := 1) (oi := { dst := some 55, op := Op.convert 34 9 (Operand.tmp 54), type := 9, pos := "ref.go:96", after := #[{ on := 0, ground := Ground.data }], guard := none }) (v := ?_) rfl (by kernel_rfl) (by kernel_rfl) (by kernel_rfl) (fun _ _ _ h => h) (Or.inl ⟨by rfl, ?_⟩) (by assumption) ?_
                  rotate_left
                  · intro w hSw; (try dsimp only at hSw); go_simp <;> with_reducible rfl
                  simp only [Act.put, List.setIfInBounds_toArray, List.set_cons_zero, List.set_cons_succ]
                  refine wpAnyH_take (i := 2) (oi := { dst := some 56, op := Op.move (Operand.tmp 10), type := 3, pos := "ref.go:96", after := #[], guard := none }) (v := ?_) rfl (by kernel_rfl) (by kernel_rfl) (by kernel_rfl) (fun _ _ _ h => h) (Or.inl ⟨by rfl, ?_⟩) (by assumption) ?_
                  rotate_left
                  · intro w hSw; (try dsimp only at hSw); go_simp <;> with_reducible rfl
                  simp only [Act.put, List.setIfInBounds_toArray, List.set_cons_zero, List.set_cons_succ]
                  refine wpAnyH_take (i := 3) (oi := { dst := some 57, op := Op.move (Operand.tmp 7), type := 44, pos := "ref.go:96", after := #[], guard := none }) (v := ?_) rfl (by kernel_rfl) (by kernel_rfl) (by kernel_rfl) (fun _ _ _ h => h) (Or.inl ⟨by rfl, ?_⟩) (by assumption) ?_
                  rotate_left
                  · intro w hSw; (try dsimp only at hSw); go_simp <;> with_reducible rfl
                  simp only [Act.put, List.setIfInBounds_toArray, List.set_cons_zero, List.set_cons_succ]
                  refine wpAnyH_take (i := 4) (oi := { dst := some 58, op := Op.call { callee := Callee.builtin Builtin.len, args := #[Operand.tmp 57], argTypes := #[44] }, type := 3, pos := "ref.go:96", after := #[{ on := 3, ground := Ground.data }], guard := none }) (v := ?_) rfl (by kernel_rfl) (by kernel_rfl) (by kernel_rfl) (fun _ _ _ h => h) (Or.inl ⟨by rfl, ?_⟩) (by assumption) ?_
                  rotate_left
                  · intro w hSw; (try dsimp only at hSw); go_simp <;> with_reducible rfl
                  simp only [Act.put, List.setIfInBounds_toArray, List.set_cons_zero, List.set_cons_succ]
                  refine wpAnyH_take (i := 5) (oi := { dst := some 59, op := Op.binOp BinOp.add 3 (Operand.tmp 58) (Operand.const (Value.int IntKind.i64 1)) 3, type := 3, pos := "ref.go:96", after := #[{ on := 4, ground := Ground.data }], guard := none }) (v := ?_) rfl (by kernel_rfl) (by kernel_rfl) (by kernel_rfl) (fun _ _ _ h => h) (Or.inl ⟨by rfl, ?_⟩) (by assumption) ?_
                  rotate_left
                  · intro w hSw; (try dsimp only at hSw); go_simp <;> with_reducible rfl
                  simp only [Act.put, List.setIfInBounds_toArray, List.set_cons_zero, List.set_cons_succ]
                  refine wpAnyH_take (i := 6) (oi := { dst := some 60, op := Op.convert 3 83 (Operand.tmp 59), type := 83, pos := "ref.go:96", after := #[{ on := 5, ground := Ground.data }], guard := none }) (v := ?_) rfl (by kernel_rfl) (by kernel_rfl) (by kernel_rfl) (fun _ _ _ h => h) (Or.inl ⟨by rfl, ?_⟩) (by assumption) ?_
                  rotate_left
                  · intro w hSw; (try dsimp only at hSw); go_simp <;> with_reducible rfl
                  simp only [Act.put, List.setIfInBounds_toArray, List.set_cons_zero, List.set_cons_succ]
                  refine wpAnyH_ready (rs := [7]) (by kernel_rfl) (by simp) ?_
                  refine AllReadyH.cons (o := { dst := some 61, op := Op.call { callee := Callee.value (Operand.func 53), args := #[Operand.tmp 56, Operand.tmp 60], argTypes := #[3, 83] }, type := 34, pos := "ref.go:96", after := #[{ on := 2, ground := Ground.data }, { on := 6, ground := Ground.data }], guard := none }) rfl (fun K hK => ?_) AllReadyH.nil
                  go_simp
                  go_at_call 53; refine KT.out.mono ?_; rintro e' w2 ⟨g2, n2, c3, rfl, hn2, hx2, hb2⟩; have hO2 := hide' (hOd.out.up hb2.out); have hcv2 := HdP.conv hx2.out; rw [hsT.out] at hcv2; (try dsimp only)
                  refine hK.out _ _ ?_ (fun hHeld => ?_)
                  · exact hSv.out _ hO2.out
                  clear hK K
                  try simp only [Act.put, List.setIfInBounds_toArray, List.set_cons_zero, List.set_cons_succ]
                  refine wpAnyH_ready (rs := [8]) (by kernel_rfl) (by simp) ?_
                  refine AllReadyH.cons (o := { dst := some 62, op := Op.convert 34 9 (Operand.tmp 61), type := 9, pos := "ref.go:96", after := #[{ on := 7, ground := Ground.data }], guard := none }) rfl (fun K hK => ?_) AllReadyH.nil
                  go_simp
                  refine hK.out _ _ ?_ (fun hHeld => ?_)
                  · exact hSv.out _ hO2.out
                  clear hK K
                  try simp only [Act.put, List.setIfInBounds_toArray, List.set_cons_zero, List.set_cons_succ]
                  refine wpAnyH_take (i := 9) (oi := { dst := some 63, op := Op.binOp BinOp.neq 9 (Operand.tmp 55) (Operand.tmp 62) 9, type := 4, pos := "ref.go:96", after := #[{ on := 1, ground := Ground.data }, { on := 8, ground := Ground.data }], guard := none }) (v := ?_) rfl (by kernel_rfl) (by kernel_rfl) (by kernel_rfl) (fun _ _ _ h => h) (Or.inl ⟨by rfl, ?_⟩) (by assumption) ?_
                  rotate_left
                  · intro w hSw; (try dsimp only at hSw); go_simp <;> with_reducible rfl
                  simp only [Act.put, List.setIfInBounds_toArray, List.set_cons_zero, List.set_cons_succ]
                  refine wpAnyH_take (i := 10) (oi := { dst := some 64, op := Op.move (Operand.tmp 63), type := 4, pos := "ref.go:96", after := #[{ on := 9, ground := Ground.data }, { on := 7, ground := Ground.chain }], guard := none }) (v := ?_) rfl (by kernel_rfl) (by kernel_rfl) (by kernel_rfl) (fun _ _ _ h => h) (Or.inl ⟨by rfl, ?_⟩) (by assumption) ?_
                  rotate_left
                  · intro w hSw; (try dsimp only at hSw); go_simp <;> with_reducible rfl
                  simp only [Act.put, List.setIfInBounds_toArray, List.set_cons_zero, List.set_cons_succ]
                  refine wpAnyH_take (i := 11) (oi := { dst := some 65, op := Op.move (Operand.tmp 10), type := 3, pos := "ref.go:96", after := #[{ on := 10, ground := Ground.guard }], guard := some (10, false) }) (v := ?_) rfl (by kernel_rfl) (by kernel_rfl) (by kernel_rfl) (fun _ _ _ h => h) (Or.inl ⟨by rfl, ?_⟩) (by assumption) ?_
                  rotate_left
                  · intro w hSw; (try dsimp only at hSw); go_simp <;> with_reducible rfl
                  simp only [Act.put, List.setIfInBounds_toArray, List.set_cons_zero, List.set_cons_succ]
                  refine wpAnyH_take (i := 12) (oi := { dst := some 66, op := Op.binOp BinOp.gtr 3 (Operand.tmp 65) (Operand.const (Value.int IntKind.i64 131072)) 3, type := 4, pos := "ref.go:96", after := #[{ on := 11, ground := Ground.data }, { on := 10, ground := Ground.guard }], guard := some (10, false) }) (v := ?_) rfl (by kernel_rfl) (by kernel_rfl) (by kernel_rfl) (fun _ _ _ h => h) (Or.inl ⟨by rfl, ?_⟩) (by assumption) ?_
                  rotate_left
                  · intro w hSw; (try dsimp only at hSw); go_simp <;> with_reducible rfl
                  simp only [Act.put, List.setIfInBounds_toArray, List.set_cons_zero, List.set_cons_succ]
                  refine wpAnyH_take (i := 13) (oi := { dst := some 67, op := Op.pick (Operand.tmp 64) (Operand.const (Value.bool true)) (Operand.tmp 66), type := 4, pos := "ref.go:96", after := #[{ on := 10, ground := Ground.data }, { on := 12, ground := Ground.data }], guard := none }) (v := ?_) rfl (by kernel_rfl) (by kernel_rfl) (by kernel_rfl) (fun _ _ _ h => h) (Or.inl ⟨by rfl, ?_⟩) (by assumption) ?_
                  rotate_left
                  · intro w hSw; (try dsimp only at hSw); go_simp <;> with_reducible rfl
                  simp only [Act.put, List.setIfInBounds_toArray, List.set_cons_zero, List.set_cons_succ]
                  refine wpAnyH_take (i := 14) (oi := { dst := some 68, op := Op.move (Operand.tmp 67), type := 4, pos := "ref.go:96", after := #[{ on := 13, ground := Ground.data }, { on := 10, ground := Ground.chain }], guard := none }) (v := ?_) rfl (by kernel_rfl) (by kernel_rfl) (by kernel_rfl) (fun _ _ _ h => h) (Or.inl ⟨by rfl, ?_⟩) (by assumption) ?_
                  rotate_left
                  · intro w hSw; (try dsimp only at hSw); go_simp <;> with_reducible rfl
                  simp only [Act.put, List.setIfInBounds_toArray, List.set_cons_zero, List.set_cons_succ]
                  refine wpAnyH_take (i := 15) (oi := { dst := some 69, op := Op.move (Operand.tmp 8), type := 3, pos := "ref.go:96", after := #[{ on := 14, ground := Ground.guard }], guard := some (14, false) }) (v := undef) rfl (by kernel_rfl) (by kernel_rfl) (by kernel_rfl) (fun _ _ _ h => h) (Or.inr ⟨by rfl, rfl⟩) (by assumption) ?_
                  simp only [Act.put, List.setIfInBounds_toArray, List.set_cons_zero, List.set_cons_succ]
                  refine wpAnyH_take (i := 16) (oi := { dst := some 70, op := Op.move (Operand.tmp 10), type := 3, pos := "ref.go:96", after := #[{ on := 14, ground := Ground.guard }], guard := some (14, false) }) (v := undef) rfl (by kernel_rfl) (by kernel_rfl) (by kernel_rfl) (fun _ _ _ h => h) (Or.inr ⟨by rfl, rfl⟩) (by assumption) ?_
                  simp only [Act.put, List.setIfInBounds_toArray, List.set_cons_zero, List.set_cons_succ]
                  refine wpAnyH_take (i := 17) (oi := { dst := some 71, op := Op.call { callee := Callee.value (Operand.func 54), args := #[Operand.tmp 70], argTypes := #[3] }, type := 3, pos := "ref.go:96", after := #[{ on := 16, ground := Ground.data }, { on := 14, ground := Ground.chain }, { on := 14, ground := Ground.guard }], guard := some (14, false) }) (v := undef) rfl (by kernel_rfl) (by kernel_rfl) (by kernel_rfl) (fun _ _ _ h => h) (Or.inr ⟨by rfl, rfl⟩) (by assumption) ?_
                  simp only [Act.put, List.setIfInBounds_toArray, List.set_cons_zero, List.set_cons_succ]
                  refine wpAnyH_take (i := 18) (oi := { dst := some 72, op := Op.binOp BinOp.add 3 (Operand.tmp 69) (Operand.tmp 71) 3, type := 3, pos := "ref.go:96", after := #[{ on := 15, ground := Ground.data }, { on := 17, ground := Ground.data }, { on := 14, ground := Ground.guard }], guard := some (14, false) }) (v := undef) rfl (by kernel_rfl) (by kernel_rfl) (by kernel_rfl) (fun _ _ _ h => h) (Or.inr ⟨by rfl, rfl⟩) (by assumption) ?_
                  simp only [Act.put, List.setIfInBounds_toArray, List.set_cons_zero, List.set_cons_succ]
                  refine wpAnyH_take (i := 19) (oi := { dst := some 73, op := Op.binOp BinOp.add 3 (Operand.tmp 72) (Operand.const (Value.int IntKind.i64 1)) 3, type := 3, pos := "ref.go:96", after := #[{ on := 18, ground := Ground.data }, { on := 14, ground := Ground.guard }], guard := some (14, false) }) (v := undef) rfl (by kernel_rfl) (by kernel_rfl) (by kernel_rfl) (fun _ _ _ h => h) (Or.inr ⟨by rfl, rfl⟩) (by assumption) ?_
                  simp only [Act.put, List.setIfInBounds_toArray, List.set_cons_zero, List.set_cons_succ]
                  refine wpAnyH_take (i := 20) (oi := { dst := some 74, op := Op.move (Operand.tmp 0), type := 24, pos := "ref.go:96", after := #[{ on := 14, ground := Ground.guard }], guard := some (14, false) }) (v := undef) rfl (by kernel_rfl) (by kernel_rfl) (by kernel_rfl) (fun _ _ _ h => h) (Or.inr ⟨by rfl, rfl⟩) (by assumption) ?_
                  simp only [Act.put, List.setIfInBounds_toArray, List.set_cons_zero, List.set_cons_succ]
                  refine wpAnyH_take (i := 21) (oi := { dst := some 75, op := Op.call { callee := Callee.value (Operand.func 48), args := #[Operand.tmp 74], argTypes := #[24] }, type := 3, pos := "ref.go:96", after := #[{ on := 20, ground := Ground.data }, { on := 17, ground := Ground.chain }, { on := 14, ground := Ground.guard }], guard := some (14, false) }) (v := undef) rfl (by kernel_rfl) (by kernel_rfl) (by kernel_rfl) (fun _ _ _ h => h) (Or.inr ⟨by rfl, rfl⟩) (by assumption) ?_
                  simp only [Act.put, List.setIfInBounds_toArray, List.set_cons_zero, List.set_cons_succ]
                  refine wpAnyH_take (i := 22) (oi := { dst := some 76, op := Op.binOp BinOp.geq 3 (Operand.tmp 73) (Operand.tmp 75) 3, type := 4, pos := "ref.go:96", after := #[{ on := 19, ground := Ground.data }, { on := 21, ground := Ground.data }, { on := 14, ground := Ground.guard }], guard := some (14, false) }) (v := undef) rfl (by kernel_rfl) (by kernel_rfl) (by kernel_rfl) (fun _ _ _ h => h) (Or.inr ⟨by rfl, rfl⟩) (by assumption) ?_
                  simp only [Act.put, List.setIfInBounds_toArray, List.set_cons_zero, List.set_cons_succ]
                  refine wpAnyH_take (i := 23) (oi := { dst := some 77, op := Op.pick (Operand.tmp 68) (Operand.const (Value.bool true)) (Operand.tmp 76), type := 4, pos := "ref.go:96", after := #[{ on := 14, ground := Ground.data }, { on := 22, ground := Ground.data }], guard := none }) (v := ?_) rfl (by kernel_rfl) (by kernel_rfl) (by kernel_rfl) (fun _ _ _ h => h) (Or.inl ⟨by rfl, ?_⟩) (by assumption) ?_
                  rotate_left
                  · intro w hSw; (try dsimp only at hSw); go_simp <;> with_reducible rfl
                  simp only [Act.put, List.setIfInBounds_toArray, List.set_cons_zero, List.set_cons_succ]
                  refine wpAnyH_done (by kernel_rfl) ?_ _
                  refine NoPanic.normal ?_
                  go_wp2_with fail
                  go_meet
                  case rel => exact ⟨hO2, .inl ⟨rfl, by rw [← hkl.out]; exact hOI⟩⟩
                · have hmb1 : decide ((131072 : Int) < (m : Int)) = false := by simp; omega
                  have hmb2 : decide (131072 < m) = false := by simp; omega
                  have hw5 : IntKind.i64.wrap ((q : Int) + (spn m : Int)) = (q : Int) + (spn m : Int) := wrap_id (by omega) (by omega)
                  have hw6 : IntKind.i64.wrap ((q : Int) + (spn m : Int) + 1) = (q : Int) + (spn m : Int) + 1 := wrap_id (by omega) (by omega)
                  by_cases hfr : n ≤ q + 1 + spn m
                  · have hOI := hide' (hfar.out hfr)
                    have hfr1 : decide ((n : Int) ≤ (q : Int) + (spn m : Int) + 1) = true := by simp; omega
                    have hfr2 : decide ((q : Int) + (spn m : Int) + 1 ≥ (n : Int)) = true := by simp; omega
                    generalize strB P = sH at *
                    refine wp_region_noPanic (wp_region_held_drew (S := (fun V => (convert 34 9 (.slice (some ⟨rb, q * 16, none⟩) 16 (cap - q * 16))).run Try.prog V = .ok (.string sH) V)) (by kernel_rfl) ?_ (fun hHeld => ?_))
                    · exact hSv.out _ hOd.out
                    refine wpAnyH_take (i := 0) (oi := { dst := some 54, op := Op.move (Operand.tmp 9), type := 34, pos := "ref.go:96", after := #[], guard := none }) (v := ?_) rfl (by kernel_rfl) (by kernel_rfl) (by kernel_rfl) (fun _ _ _ h => h) (Or.inl ⟨by rfl, ?_⟩) (by assumption) ?_
                    rotate_left
                    · intro w hSw; (try dsimp only at hSw); go_simp <;> with_reducible rfl
                    simp only [Act.put, List.setIfInBounds_toArray, List.set_cons_zero, List.set_cons_succ]
                    refine wpAnyH_take (i := 1) (oi := { dst := some 55, op := Op.convert 34 9 (Operand.tmp 54), type := 9, pos := "ref.go:96", after := #[{ on := 0, ground := Ground.data }], guard := none }) (v := ?_) rfl (by kernel_rfl) (by kernel_rfl) (by kernel_rfl) (fun _ _ _ h => h) (Or.inl ⟨by rfl, ?_⟩) (by assumption) ?_
                    rotate_left
                    · intro w hSw; (try dsimp only at hSw); go_simp <;> with_reducible rfl
                    simp only [Act.put, List.setIfInBounds_toArray, List.set_cons_zero, List.set_cons_succ]
                    refine wpAnyH_take (i := 2) (oi := { dst := some 56, op := Op.move (Operand.tmp 10), type := 3, pos := "ref.go:96", after := #[], guard := none }) (v := ?_) rfl (by kernel_rfl) (by kernel_rfl) (by kernel_rfl) (fun _ _ _ h => h) (Or.inl ⟨by rfl, ?_⟩) (by assumption) ?_
                    rotate_left
                    · intro w hSw; (try dsimp only at hSw); go_simp <;> with_reducible rfl
                    simp only [Act.put, List.setIfInBounds_toArray, List.set_cons_zero, List.set_cons_succ]
                    refine wpAnyH_take (i := 3) (oi := { dst := some 57, op := Op.move (Operand.tmp 7), type := 44, pos := "ref.go:96", after := #[], guard := none }) (v := ?_) rfl (by kernel_rfl) (by kernel_rfl) (by kernel_rfl) (fun _ _ _ h => h) (Or.inl ⟨by rfl, ?_⟩) (by assumption) ?_
                    rotate_left
                    · intro w hSw; (try dsimp only at hSw); go_simp <;> with_reducible rfl
                    simp only [Act.put, List.setIfInBounds_toArray, List.set_cons_zero, List.set_cons_succ]
                    refine wpAnyH_take (i := 4) (oi := { dst := some 58, op := Op.call { callee := Callee.builtin Builtin.len, args := #[Operand.tmp 57], argTypes := #[44] }, type := 3, pos := "ref.go:96", after := #[{ on := 3, ground := Ground.data }], guard := none }) (v := ?_) rfl (by kernel_rfl) (by kernel_rfl) (by kernel_rfl) (fun _ _ _ h => h) (Or.inl ⟨by rfl, ?_⟩) (by assumption) ?_
                    rotate_left
                    · intro w hSw; (try dsimp only at hSw); go_simp <;> with_reducible rfl
                    simp only [Act.put, List.setIfInBounds_toArray, List.set_cons_zero, List.set_cons_succ]
                    refine wpAnyH_take (i := 5) (oi := { dst := some 59, op := Op.binOp BinOp.add 3 (Operand.tmp 58) (Operand.const (Value.int IntKind.i64 1)) 3, type := 3, pos := "ref.go:96", after := #[{ on := 4, ground := Ground.data }], guard := none }) (v := ?_) rfl (by kernel_rfl) (by kernel_rfl) (by kernel_rfl) (fun _ _ _ h => h) (Or.inl ⟨by rfl, ?_⟩) (by assumption) ?_
                    rotate_left
                    · intro w hSw; (try dsimp only at hSw); go_simp <;> with_reducible rfl
                    simp only [Act.put, List.setIfInBounds_toArray, List.set_cons_zero, List.set_cons_succ]
                    refine wpAnyH_take (i := 6) (oi := { dst := some 60, op := Op.convert 3 83 (Operand.tmp 59), type := 83, pos := "ref.go:96", after := #[{ on := 5, ground := Ground.data }], guard := none }) (v := ?_) rfl (by kernel_rfl) (by kernel_rfl) (by kernel_rfl) (fun _ _ _ h => h) (Or.inl ⟨by rfl, ?_⟩) (by assumption) ?_
                    rotate_left
                    · intro w hSw; (try dsimp only at hSw); go_simp <;> with_reducible rfl
                    simp only [Act.put, List.setIfInBounds_toArray, List.set_cons_zero, List.set_cons_succ]
                    refine wpAnyH_ready (rs := [7]) (by kernel_rfl) (by simp) ?_
                    refine AllReadyH.cons (o := { dst := some 61, op := Op.call { callee := Callee.value (Operand.func 53), args := #[Operand.tmp 56, Operand.tmp 60], argTypes := #[3, 83] }, type := 34, pos := "ref.go:96", after := #[{ on := 2, ground := Ground.data }, { on := 6, ground := Ground.data }], guard := none }) rfl (fun K hK => ?_) AllReadyH.nil
                    go_simp
                    go_at_call 53; refine KT.out.mono ?_; rintro e' w2 ⟨g2, n2, c3, rfl, hn2, hx2, hb2⟩; have hO2 := hide' (hOd.out.up hb2.out); have hcv2 := HdP.conv hx2.out; rw [hsT.out] at hcv2; (try dsimp only)
                    refine hK.out _ _ ?_ (fun hHeld => ?_)
                    · exact hSv.out _ hO2.out
                    clear hK K
                    try simp only [Act.put, List.setIfInBounds_toArray, List.set_cons_zero, List.set_cons_succ]
                    refine wpAnyH_ready (rs := [8]) (by kernel_rfl) (by simp) ?_
                    refine AllReadyH.cons (o := { dst := some 62, op := Op.convert 34 9 (Operand.tmp 61), type := 9, pos := "ref.go:96", after := #[{ on := 7, ground := Ground.data }], guard := none }) rfl (fun K hK => ?_) AllReadyH.nil
                    go_simp
                    refine hK.out _ _ ?_ (fun hHeld => ?_)
                    · exact hSv.out _ hO2.out
                    clear hK K
                    try simp only [Act.put, List.setIfInBounds_toArray, List.set_cons_zero, List.set_cons_succ]
                    refine wpAnyH_take (i := 9) (oi := { dst := some 63, op := Op.binOp BinOp.neq 9 (Operand.tmp 55) (Operand.tmp 62) 9, type := 4, pos := "ref.go:96", after := #[{ on := 1, ground := Ground.data }, { on := 8, ground := Ground.data }], guard := none }) (v := ?_) rfl (by kernel_rfl) (by kernel_rfl) (by kernel_rfl) (fun _ _ _ h => h) (Or.inl ⟨by rfl, ?_⟩) (by assumption) ?_
                    rotate_left
                    · intro w hSw; (try dsimp only at hSw); go_simp <;> with_reducible rfl
                    simp only [Act.put, List.setIfInBounds_toArray, List.set_cons_zero, List.set_cons_succ]
                    refine wpAnyH_take (i := 10) (oi := { dst := some 64, op := Op.move (Operand.tmp 63), type := 4, pos := "ref.go:96", after := #[{ on := 9, ground := Ground.data }, { on := 7, ground := Ground.chain }], guard := none }) (v := ?_) rfl (by kernel_rfl) (by kernel_rfl) (by kernel_rfl) (fun _ _ _ h => h) (Or.inl ⟨by rfl, ?_⟩) (by assumption) ?_
                    rotate_left
                    · intro w hSw; (try dsimp only at hSw); go_simp <;> with_reducible rfl
                    simp only [Act.put, List.setIfInBounds_toArray, List.set_cons_zero, List.set_cons_succ]
                    refine wpAnyH_take (i := 11) (oi := { dst := some 65, op := Op.move (Operand.tmp 10), type := 3, pos := "ref.go:96", after := #[{ on := 10, ground := Ground.guard }], guard := some (10, false) }) (v := ?_) rfl (by kernel_rfl) (by kernel_rfl) (by kernel_rfl) (fun _ _ _ h => h) (Or.inl ⟨by rfl, ?_⟩) (by assumption) ?_
                    rotate_left
                    · intro w hSw; (try dsimp only at hSw); go_simp <;> with_reducible rfl
                    simp only [Act.put, List.setIfInBounds_toArray, List.set_cons_zero, List.set_cons_succ]
                    refine wpAnyH_take (i := 12) (oi := { dst := some 66, op := Op.binOp BinOp.gtr 3 (Operand.tmp 65) (Operand.const (Value.int IntKind.i64 131072)) 3, type := 4, pos := "ref.go:96", after := #[{ on := 11, ground := Ground.data }, { on := 10, ground := Ground.guard }], guard := some (10, false) }) (v := ?_) rfl (by kernel_rfl) (by kernel_rfl) (by kernel_rfl) (fun _ _ _ h => h) (Or.inl ⟨by rfl, ?_⟩) (by assumption) ?_
                    rotate_left
                    · intro w hSw; (try dsimp only at hSw); go_simp <;> with_reducible rfl
                    simp only [Act.put, List.setIfInBounds_toArray, List.set_cons_zero, List.set_cons_succ]
                    refine wpAnyH_take (i := 13) (oi := { dst := some 67, op := Op.pick (Operand.tmp 64) (Operand.const (Value.bool true)) (Operand.tmp 66), type := 4, pos := "ref.go:96", after := #[{ on := 10, ground := Ground.data }, { on := 12, ground := Ground.data }], guard := none }) (v := ?_) rfl (by kernel_rfl) (by kernel_rfl) (by kernel_rfl) (fun _ _ _ h => h) (Or.inl ⟨by rfl, ?_⟩) (by assumption) ?_
                    rotate_left
                    · intro w hSw; (try dsimp only at hSw); go_simp <;> with_reducible rfl
                    simp only [Act.put, List.setIfInBounds_toArray, List.set_cons_zero, List.set_cons_succ]
                    refine wpAnyH_take (i := 14) (oi := { dst := some 68, op := Op.move (Operand.tmp 67), type := 4, pos := "ref.go:96", after := #[{ on := 13, ground := Ground.data }, { on := 10, ground := Ground.chain }], guard := none }) (v := ?_) rfl (by kernel_rfl) (by kernel_rfl) (by kernel_rfl) (fun _ _ _ h => h) (Or.inl ⟨by rfl, ?_⟩) (by assumption) ?_
                    rotate_left
                    · intro w hSw; (try dsimp only at hSw); go_simp <;> with_reducible rfl
                    simp only [Act.put, List.setIfInBounds_toArray, List.set_cons_zero, List.set_cons_succ]
                    refine wpAnyH_take (i := 15) (oi := { dst := some 69, op := Op.move (Operand.tmp 8), type := 3, pos := "ref.go:96", after := #[{ on := 14, ground := Ground.guard }], guard := some (14, false) }) (v := ?_) rfl (by kernel_rfl) (by kernel_rfl) (by kernel_rfl) (fun _ _ _ h => h) (Or.inl ⟨by rfl, ?_⟩) (by assumption) ?_
                    rotate_left
                    · intro w hSw; (try dsimp only at hSw); go_simp <;> with_reducible rfl
                    simp only [Act.put, List.setIfInBounds_toArray, List.set_cons_zero, List.set_cons_succ]
                    refine wpAnyH_take (i := 16) (oi := { dst := some 70, op := Op.move (Operand.tmp 10), type := 3, pos := "ref.go:96", after := #[{ on := 14, ground := Ground.guard }], guard := some (14, false) }) (v := ?_) rfl (by kernel_rfl) (by kernel_rfl) (by kernel_rfl) (fun _ _ _ h => h) (Or.inl ⟨by rfl, ?_⟩) (by assumption) ?_
                    rotate_left
                    · intro w hSw; (try dsimp only at hSw); go_simp <;> with_reducible rfl
                    simp only [Act.put, List.setIfInBounds_toArray, List.set_cons_zero, List.set_cons_succ]
                    refine wpAnyH_take (i := 20) (oi := { dst := some 74, op := Op.move (Operand.tmp 0), type := 24, pos := "ref.go:96", after := #[{ on := 14, ground := Ground.guard }], guard := some (14, false) }) (v := ?_) rfl (by kernel_rfl) (by kernel_rfl) (by kernel_rfl) (fun _ _ _ h => h) (Or.inl ⟨by rfl, ?_⟩) (by assumption) ?_
                    rotate_left
                    · intro w hSw; (try dsimp only at hSw); go_simp <;> with_reducible rfl
                    simp only [Act.put, List.setIfInBounds_toArray, List.set_cons_zero, List.set_cons_succ]
                    refine wpAnyH_ready (rs := [17]) (by kernel_rfl) (by simp) ?_
                    refine AllReadyH.cons (o := { dst := some 71, op := Op.call { callee := Callee.value (Operand.func 54), args := #[Operand.tmp 70], argTypes := #[3] }, type := 3, pos := "ref.go:96", after := #[{ on := 16, ground := Ground.data }, { on := 14, ground := Ground.chain }, { on := 14, ground := Ground.guard }], guard := some (14, false) }) rfl (fun K hK => ?_) AllReadyH.nil
                    go_simp
                    go_at_call 54; refine (KS.out w2).mono ?_; rintro e' w3 ⟨rfl, hw3⟩; obtain rfl : w2 = w3 := hw3.symm; (try dsimp only)
                    refine hK.out _ _ ?_ (fun hHeld => ?_)
                    · exact hSv.out _ hO2.out
                    clear hK K
                    try simp only [Act.put, List.setIfInBounds_toArray, List.set_cons_zero, List.set_cons_succ]
                    refine wpAnyH_take (i := 18) (oi := { dst := some 72, op := Op.binOp BinOp.add 3 (Operand.tmp 69) (Operand.tmp 71) 3, type := 3, pos := "ref.go:96", after := #[{ on := 15, ground := Ground.data }, { on := 17, ground := Ground.data }, { on := 14, ground := Ground.guard }], guard := some (14, false) }) (v := ?_) rfl (by kernel_rfl) (by kernel_rfl) (by kernel_rfl) (fun _ _ _ h => h) (Or.inl ⟨by rfl, ?_⟩) (by assumption) ?_
                    rotate_left
                    · intro w hSw; (try dsimp only at hSw); go_simp <;> with_reducible rfl
                    simp only [Act.put, List.setIfInBounds_toArray, List.set_cons_zero, List.set_cons_succ]
                    refine wpAnyH_take (i := 19) (oi := { dst := some 73, op := Op.binOp BinOp.add 3 (Operand.tmp 72) (Operand.const (Value.int IntKind.i64 1)) 3, type := 3, pos := "ref.go:96", after := #[{ on := 18, ground := Ground.data }, { on := 14, ground := Ground.guard }], guard := some (14, false) }) (v := ?_) rfl (by kernel_rfl) (by kernel_rfl) (by kernel_rfl) (fun _ _ _ h => h) (Or.inl ⟨by rfl, ?_⟩) (by assumption) ?_
                    rotate_left
                    · intro w hSw; (try dsimp only at hSw); go_simp <;> with_reducible rfl
                    simp only [Act.put, List.setIfInBounds_toArray, List.set_cons_zero, List.set_cons_succ]
                    refine wpAnyH_ready (rs := [21]) (by kernel_rfl) (by simp) ?_
                    refine AllReadyH.cons (o := { dst := some 75, op := Op.call { callee := Callee.value (Operand.func 48), args := #[Operand.tmp 74], argTypes := #[24] }, type := 3, pos := "ref.go:96", after := #[{ on := 20, ground := Ground.data }, { on := 17, ground := Ground.chain }, { on := 14, ground := Ground.guard }], guard := some (14, false) }) rfl (fun K hK => ?_) AllReadyH.nil
                    go_simp
                    go_at_call 48; refine (hBl2.out w2 hO2.out).mono ?_; rintro e' w3 ⟨rfl, hw3⟩; obtain rfl : w2 = w3 := hw3.symm; (try dsimp only)
                    refine hK.out _ _ ?_ (fun hHeld => ?_)
                    · exact hSv.out _ hO2.out
                    clear hK K
                    try simp only [Act.put, List.setIfInBounds_toArray, List.set_cons_zero, List.set_cons_succ]
                    refine wpAnyH_take (i := 22) (oi := { dst := some 76, op := Op.binOp BinOp.geq 3 (Operand.tmp 73) (Operand.tmp 75) 3, type := 4, pos := "ref.go:96", after := #[{ on := 19, ground := Ground.data }, { on := 21, ground := Ground.data }, { on := 14, ground := Ground.guard }], guard := some (14, false) }) (v := ?_) rfl (by kernel_rfl) (by kernel_rfl) (by kernel_rfl) (fun _ _ _ h => h) (Or.inl ⟨by rfl, ?_⟩) (by assumption) ?_
                    rotate_left
                    · intro w hSw; (try dsimp only at hSw); go_simp <;> with_reducible rfl
                    simp only [Act.put, List.setIfInBounds_toArray, List.set_cons_zero, List.set_cons_succ]
                    refine wpAnyH_take (i := 23) (oi := { dst := some 77, op := Op.pick (Operand.tmp 68) (Operand.const (Value.bool true)) (Operand.tmp 76), type := 4, pos := "ref.go:96", after := #[{ on := 14, ground := Ground.data }, { on := 22, ground := Ground.data }], guard := none }) (v := ?_) rfl (by kernel_rfl) (by kernel_rfl) (by kernel_rfl) (fun _ _ _ h => h) (Or.inl ⟨by rfl, ?_⟩) (by assumption) ?_
                    rotate_left
                    · intro w hSw; (try dsimp only at hSw); go_simp <;> with_reducible rfl
                    simp only [Act.put, List.setIfInBounds_toArray, List.set_cons_zero, List.set_cons_succ]
                    refine wpAnyH_done (by kernel_rfl) ?_ _
                    refine NoPanic.normal ?_
                    go_wp2_with fail
                    go_meet
                    case rel => exact ⟨hO2, .inl ⟨rfl, by rw [← hkl.out]; exact hOI⟩⟩
                  · have hfr1 : decide ((n : Int) ≤ (q : Int) + (spn m : Int) + 1) = false := by simp; omega
                    have hfr2 : decide ((q : Int) + (spn m : Int) + 1 ≥ (n : Int)) = false := by simp; omega
                    have hfin : Hid (m ≤ 131072 ∧ q + 1 + spn m < n ∧ P = titleB m (kl + 1)) := ⟨by omega, by omega, hTT'.out⟩
                    rw [hkl.out] at hfin
                    generalize strB P = sH at *
                    refine wp_region_noPanic (wp_region_held_drew (S := (fun V => (convert 34 9 (.slice (some ⟨rb, q * 16, none⟩) 16 (cap - q * 16))).run Try.prog V = .ok (.string sH) V)) (by kernel_rfl) ?_ (fun hHeld => ?_))
                    · exact hSv.out _ hOd.out
                    refine wpAnyH_take (i := 0) (oi := { dst := some 54, op := Op.move (Operand.tmp 9), type := 34, pos := "ref.go:96", after := #[], guard := none }) (v := ?_) rfl (by kernel_rfl) (by kernel_rfl) (by kernel_rfl) (fun _ _ _ h => h) (Or.inl ⟨by rfl, ?_⟩) (by assumption) ?_
                    rotate_left
                    · intro w hSw; (try dsimp only at hSw); go_simp <;> with_reducible rfl
                    simp only [Act.put, List.setIfInBounds_toArray, List.set_cons_zero, List.set_cons_succ]
                    refine wpAnyH_take (i := 1) (oi := { dst := some 55, op := Op.convert 34 9 (Operand.tmp 54), type := 9, pos := "ref.go:96", after := #[{ on := 0, ground := Ground.data }], guard := none }) (v := ?_) rfl (by kernel_rfl) (by kernel_rfl) (by kernel_rfl) (fun _ _ _ h => h) (Or.inl ⟨by rfl, ?_⟩) (by assumption) ?_
                    rotate_left
                    · intro w hSw; (try dsimp only at hSw); go_simp <;> with_reducible rfl
                    simp only [Act.put, List.setIfInBounds_toArray, List.set_cons_zero, List.set_cons_succ]
                    refine wpAnyH_take (i := 2) (oi := { dst := some 56, op := Op.move (Operand.tmp 10), type := 3, pos := "ref.go:96", after := #[], guard := none }) (v := ?_) rfl (by kernel_rfl) (by kernel_rfl) (by kernel_rfl) (fun _ _ _ h => h) (Or.inl ⟨by rfl, ?_⟩) (by assumption) ?_
                    rotate_left
                    · intro w hSw; (try dsimp only at hSw); go_simp <;> with_reducible rfl
                    simp only [Act.put, List.setIfInBounds_toArray, List.set_cons_zero, List.set_cons_succ]
                    refine wpAnyH_take (i := 3) (oi := { dst := some 57, op := Op.move (Operand.tmp 7), type := 44, pos := "ref.go:96", after := #[], guard := none }) (v := ?_) rfl (by kernel_rfl) (by kernel_rfl) (by kernel_rfl) (fun _ _ _ h => h) (Or.inl ⟨by rfl, ?_⟩) (by assumption) ?_
                    rotate_left
                    · intro w hSw; (try dsimp only at hSw); go_simp <;> with_reducible rfl
                    simp only [Act.put, List.setIfInBounds_toArray, List.set_cons_zero, List.set_cons_succ]
                    refine wpAnyH_take (i := 4) (oi := { dst := some 58, op := Op.call { callee := Callee.builtin Builtin.len, args := #[Operand.tmp 57], argTypes := #[44] }, type := 3, pos := "ref.go:96", after := #[{ on := 3, ground := Ground.data }], guard := none }) (v := ?_) rfl (by kernel_rfl) (by kernel_rfl) (by kernel_rfl) (fun _ _ _ h => h) (Or.inl ⟨by rfl, ?_⟩) (by assumption) ?_
                    rotate_left
                    · intro w hSw; (try dsimp only at hSw); go_simp <;> with_reducible rfl
                    simp only [Act.put, List.setIfInBounds_toArray, List.set_cons_zero, List.set_cons_succ]
                    refine wpAnyH_take (i := 5) (oi := { dst := some 59, op := Op.binOp BinOp.add 3 (Operand.tmp 58) (Operand.const (Value.int IntKind.i64 1)) 3, type := 3, pos := "ref.go:96", after := #[{ on := 4, ground := Ground.data }], guard := none }) (v := ?_) rfl (by kernel_rfl) (by kernel_rfl) (by kernel_rfl) (fun _ _ _ h => h) (Or.inl ⟨by rfl, ?_⟩) (by assumption) ?_
                    rotate_left
                    · intro w hSw; (try dsimp only at hSw); go_simp <;> with_reducible rfl
                    simp only [Act.put, List.setIfInBounds_toArray, List.set_cons_zero, List.set_cons_succ]
                    refine wpAnyH_take (i := 6) (oi := { dst := some 60, op := Op.convert 3 83 (Operand.tmp 59), type := 83, pos := "ref.go:96", after := #[{ on := 5, ground := Ground.data }], guard := none }) (v := ?_) rfl (by kernel_rfl) (by kernel_rfl) (by kernel_rfl) (fun _ _ _ h => h) (Or.inl ⟨by rfl, ?_⟩) (by assumption) ?_
                    rotate_left
                    · intro w hSw; (try dsimp only at hSw); go_simp <;> with_reducible rfl
                    simp only [Act.put, List.setIfInBounds_toArray, List.set_cons_zero, List.set_cons_succ]
                    refine wpAnyH_ready (rs := [7]) (by kernel_rfl) (by simp) ?_
                    refine AllReadyH.cons (o := { dst := some 61, op := Op.call { callee := Callee.value (Operand.func 53), args := #[Operand.tmp 56, Operand.tmp 60], argTypes := #[3, 83] }, type := 34, pos := "ref.go:96", after := #[{ on := 2, ground := Ground.data }, { on := 6, ground := Ground.data }], guard := none }) rfl (fun K hK => ?_) AllReadyH.nil
                    go_simp
                    go_at_call 53; refine KT.out.mono ?_; rintro e' w2 ⟨g2, n2, c3, rfl, hn2, hx2, hb2⟩; have hO2 := hide' (hOd.out.up hb2.out); have hcv2 := HdP.conv hx2.out; rw [hsT.out] at hcv2; (try dsimp only)
                    refine hK.out _ _ ?_ (fun hHeld => ?_)
                    · exact hSv.out _ hO2.out
                    clear hK K
                    try simp only [Act.put, List.setIfInBounds_toArray, List.set_cons_zero, List.set_cons_succ]
                    refine wpAnyH_ready (rs := [8]) (by kernel_rfl) (by simp) ?_
                    refine AllReadyH.cons (o := { dst := some 62, op := Op.convert 34 9 (Operand.tmp 61), type := 9, pos := "ref.go:96", after := #[{ on := 7, ground := Ground.data }], guard := none }) rfl (fun K hK => ?_) AllReadyH.nil
                    go_simp
                    refine hK.out _ _ ?_ (fun hHeld => ?_)
                    · exact hSv.out _ hO2.out
                    clear hK K
                    try simp only [Act.put, List.setIfInBounds_toArray, List.set_cons_zero, List.set_cons_succ]
                    refine wpAnyH_take (i := 9) (oi := { dst := some 63, op := Op.binOp BinOp.neq 9 (Operand.tmp 55) (Operand.tmp 62) 9, type := 4, pos := "ref.go:96", after := #[{ on := 1, ground := Ground.data }, { on := 8, ground := Ground.data }], guard := none }) (v := ?_) rfl (by kernel_rfl) (by kernel_rfl) (by kernel_rfl) (fun _ _ _ h => h) (Or.inl ⟨by rfl, ?_⟩) (by assumption) ?_
                    rotate_left
                    · intro w hSw; (try dsimp only at hSw); go_simp <;> with_reducible rfl
                    simp only [Act.put, List.setIfInBounds_toArray, List.set_cons_zero, List.set_cons_succ]
                    refine wpAnyH_take (i := 10) (oi := { dst := some 64, op := Op.move (Operand.tmp 63), type := 4, pos := "ref.go:96", after := #[{ on := 9, ground := Ground.data }, { on := 7, ground := Ground.chain }], guard := none }) (v := ?_) rfl (by kernel_rfl) (by kernel_rfl) (by kernel_rfl) (fun _ _ _ h => h) (Or.inl ⟨by rfl, ?_⟩) (by assumption) ?_
                    rotate_left
                    · intro w hSw; (try dsimp only at hSw); go_simp <;> with_reducible rfl
                    simp only [Act.put, List.setIfInBounds_toArray, List.set_cons_zero, List.set_cons_succ]
                    refine wpAnyH_take (i := 11) (oi := { dst := some 65, op := Op.move (Operand.tmp 10), type := 3, pos := "ref.go:96", after := #[{ on := 10, ground := Ground.guard }], guard := some (10, false) }) (v := ?_) rfl (by kernel_rfl) (by kernel_rfl) (by kernel_rfl) (fun _ _ _ h => h) (Or.inl ⟨by rfl, ?_⟩) (by assumption) ?_
                    rotate_left
                    · intro w hSw; (try dsimp only at hSw); go_simp <;> with_reducible rfl
                    simp only [Act.put, List.setIfInBounds_toArray, List.set_cons_zero, List.set_cons_succ]
                    refine wpAnyH_take (i := 12) (oi := { dst := some 66, op := Op.binOp BinOp.gtr 3 (Operand.tmp 65) (Operand.const (Value.int IntKind.i64 131072)) 3, type := 4, pos := "ref.go:96", after := #[{ on := 11, ground := Ground.data }, { on := 10, ground := Ground.guard }], guard := some (10, false) }) (v := ?_) rfl (by kernel_rfl) (by kernel_rfl) (by kernel_rfl) (fun _ _ _ h => h) (Or.inl ⟨by rfl, ?_⟩) (by assumption) ?_
                    rotate_left
                    · intro w hSw; (try dsimp only at hSw); go_simp <;> with_reducible rfl
                    simp only [Act.put, List.setIfInBounds_toArray, List.set_cons_zero, List.set_cons_succ]
                    refine wpAnyH_take (i := 13) (oi := { dst := some 67, op := Op.pick (Operand.tmp 64) (Operand.const (Value.bool true)) (Operand.tmp 66), type := 4, pos := "ref.go:96", after := #[{ on := 10, ground := Ground.data }, { on := 12, ground := Ground.data }], guard := none }) (v := ?_) rfl (by kernel_rfl) (by kernel_rfl) (by kernel_rfl) (fun _ _ _ h => h) (Or.inl ⟨by rfl, ?_⟩) (by assumption) ?_
                    rotate_left
                    · intro w hSw; (try dsimp only at hSw); go_simp <;> with_reducible rfl
                    simp only [Act.put, List.setIfInBounds_toArray, List.set_cons_zero, List.set_cons_succ]
                    refine wpAnyH_take (i := 14) (oi := { dst := some 68, op := Op.move (Operand.tmp 67), type := 4, pos := "ref.go:96", after := #[{ on := 13, ground := Ground.data }, { on := 10, ground := Ground.chain }], guard := none }) (v := ?_) rfl (by kernel_rfl) (by kernel_rfl) (by kernel_rfl) (fun _ _ _ h => h) (Or.inl ⟨by rfl, ?_⟩) (by assumption) ?_
                    rotate_left
                    · intro w hSw; (try dsimp only at hSw); go_simp <;> with_reducible rfl
                    simp only [Act.put, List.setIfInBounds_toArray, List.set_cons_zero, List.set_cons_succ]
                    refine wpAnyH_take (i := 15) (oi := { dst := some 69, op := Op.move (Operand.tmp 8), type := 3, pos := "ref.go:96", after := #[{ on := 14, ground := Ground.guard }], guard := some (14, false) }) (v := ?_) rfl (by kernel_rfl) (by kernel_rfl) (by kernel_rfl) (fun _ _ _ h => h) (Or.inl ⟨by rfl, ?_⟩) (by assumption) ?_
                    rotate_left
                    · intro w hSw; (try dsimp only at hSw); go_simp <;> with_reducible rfl
                    simp only [Act.put, List.setIfInBounds_toArray, List.set_cons_zero, List.set_cons_succ]
                    refine wpAnyH_take (i := 16) (oi := { dst := some 70, op := Op.move (Operand.tmp 10), type := 3, pos := "ref.go:96", after := #[{ on := 14, ground := Ground.guard }], guard := some (14, false) }) (v := ?_) rfl (by kernel_rfl) (by kernel_rfl) (by kernel_rfl) (fun _ _ _ h => h) (Or.inl ⟨by rfl, ?_⟩) (by assumption) ?_
                    rotate_left
                    · intro w hSw; (try dsimp only at hSw); go_simp <;> with_reducible rfl
                    simp only [Act.put, List.setIfInBounds_toArray, List.set_cons_zero, List.set_cons_succ]
                    refine wpAnyH_take (i := 20) (oi := { dst := some 74, op := Op.move (Operand.tmp 0), type := 24, pos := "ref.go:96", after := #[{ on := 14, ground := Ground.guard }], guard := some (14, false) }) (v := ?_) rfl (by kernel_rfl) (by kernel_rfl) (by kernel_rfl) (fun _ _ _ h => h) (Or.inl ⟨by rfl, ?_⟩) (by assumption) ?_
                    rotate_left
                    · intro w hSw; (try dsimp only at hSw); go_simp <;> with_reducible rfl
                    simp only [Act.put, List.setIfInBounds_toArray, List.set_cons_zero, List.set_cons_succ]
                    refine wpAnyH_ready (rs := [17]) (by kernel_rfl) (by simp) ?_
                    refine AllReadyH.cons (o := { dst := some 71, op := Op.call { callee := Callee.value (Operand.func 54), args := #[Operand.tmp 70], argTypes := #[3] }, type := 3, pos := "ref.go:96", after := #[{ on := 16, ground := Ground.data }, { on := 14, ground := Ground.chain }, { on := 14, ground := Ground.guard }], guard := some (14, false) }) rfl (fun K hK => ?_) AllReadyH.nil
                    go_simp
                    go_at_call 54; refine (KS.out w2).mono ?_; rintro e' w3 ⟨rfl, hw3⟩; obtain rfl : w2 = w3 := hw3.symm; (try dsimp only)
                    refine hK.out _ _ ?_ (fun hHeld => ?_)
                    · exact hSv.out _ hO2.out
                    clear hK K
                    try simp only [Act.put, List.setIfInBounds_toArray, List.set_cons_zero, List.set_cons_succ]
                    refine wpAnyH_take (i := 18) (oi := { dst := some 72, op := Op.binOp BinOp.add 3 (Operand.tmp 69) (Operand.tmp 71) 3, type := 3, pos := "ref.go:96", after := #[{ on := 15, ground := Ground.data }, { on := 17, ground := Ground.data }, { on := 14, ground := Ground.guard }], guard := some (14, false) }) (v := ?_) rfl (by kernel_rfl) (by kernel_rfl) (by kernel_rfl) (fun _ _ _ h => h) (Or.inl ⟨by rfl, ?_⟩) (by assumption) ?_
                    rotate_left
                    · intro w hSw; (try dsimp only at hSw); go_simp <;> with_reducible rfl
                    simp only [Act.put, List.setIfInBounds_toArray, List.set_cons_zero, List.set_cons_succ]
                    refine wpAnyH_take (i := 19) (oi := { dst := some 73, op := Op.binOp BinOp.add 3 (Operand.tmp 72) (Operand.const (Value.int IntKind.i64 1)) 3, type := 3, pos := "ref.go:96", after := #[{ on := 18, ground := Ground.data }, { on := 14, ground := Ground.guard }], guard := some (14, false) }) (v := ?_) rfl (by kernel_rfl) (by kernel_rfl) (by kernel_rfl) (fun _ _ _ h => h) (Or.inl ⟨by rfl, ?_⟩) (by assumption) ?_
                    rotate_left
                    · intro w hSw; (try dsimp only at hSw); go_simp <;> with_reducible rfl
                    simp only [Act.put, List.setIfInBounds_toArray, List.set_cons_zero, List.set_cons_succ]
                    refine wpAnyH_ready (rs := [21]) (by kernel_rfl) (by simp) ?_
                    refine AllReadyH.cons (o := { dst := some 75, op := Op.call { callee := Callee.value (Operand.func 48), args := #[Operand.tmp 74], argTypes := #[24] }, type := 3, pos := "ref.go:96", after := #[{ on := 20, ground := Ground.data }, { on := 17, ground := Ground.chain }, { on := 14, ground := Ground.guard }], guard := some (14, false) }) rfl (fun K hK => ?_) AllReadyH.nil
                    go_simp
                    go_at_call 48; refine (hBl2.out w2 hO2.out).mono ?_; rintro e' w3 ⟨rfl, hw3⟩; obtain rfl : w2 = w3 := hw3.symm; (try dsimp only)
                    refine hK.out _ _ ?_ (fun hHeld => ?_)
                    · exact hSv.out _ hO2.out
                    clear hK K
                    try simp only [Act.put, List.setIfInBounds_toArray, List.set_cons_zero, List.set_cons_succ]
                    refine wpAnyH_take (i := 22) (oi := { dst := some 76, op := Op.binOp BinOp.geq 3 (Operand.tmp 73) (Operand.tmp 75) 3, type := 4, pos := "ref.go:96", after := #[{ on := 19, ground := Ground.data }, { on := 21, ground := Ground.data }, { on := 14, ground := Ground.guard }], guard := some (14, false) }) (v := ?_) rfl (by kernel_rfl) (by kernel_rfl) (by kernel_rfl) (fun _ _ _ h => h) (Or.inl ⟨by rfl, ?_⟩) (by assumption) ?_
                    rotate_left
                    · intro w hSw; (try dsimp only at hSw); go_simp <;> with_reducible rfl
                    simp only [Act.put, List.setIfInBounds_toArray, List.set_cons_zero, List.set_cons_succ]
                    refine wpAnyH_take (i := 23) (oi := { dst := some 77, op := Op.pick (Operand.tmp 68) (Operand.const (Value.bool true)) (Operand.tmp 76), type := 4, pos := "ref.go:96", after := #[{ on := 14, ground := Ground.data }, { on := 22, ground := Ground.data }], guard := none }) (v := ?_) rfl (by kernel_rfl) (by kernel_rfl) (by kernel_rfl) (fun _ _ _ h => h) (Or.inl ⟨by rfl, ?_⟩) (by assumption) ?_
                    rotate_left
                    · intro w hSw; (try dsimp only at hSw); go_simp <;> with_reducible rfl
                    simp only [Act.put, List.setIfInBounds_toArray, List.set_cons_zero, List.set_cons_succ]
                    refine wpAnyH_done (by kernel_rfl) ?_ _
                    refine NoPanic.normal ?_
                    go_wp2_with fail
                    go_meet
                    case rel => exact ⟨hO2, .inr ⟨rfl, hfin⟩⟩
              · have hne := hide' (hnes.out hTT)
                obtain ⟨hne1, hne2, hne3⟩ := hne.out
                have hOI := hide' (hnot.out hTT)
                clear hTT hne hnes
                generalize strB P = sH at *
                generalize hsK0 : strB (titleB m (kl + 1)) = sK at *
                have hsT := hide' hsK0
                clear hsK0
                refine wp_region_noPanic (wp_region_held_drew (S := (fun V => (convert 34 9 (.slice (some ⟨rb, q * 16, none⟩) 16 (cap - q * 16))).run Try.prog V = .ok (.string sH) V)) (by kernel_rfl) ?_ (fun hHeld => ?_))
                · exact hSv.out _ hOd.out
                refine wpAnyH_take (i := 0) (oi := { dst := some 54, op := Op.move (Operand.tmp 9), type := 34, pos := "ref.go:96", after := #[], guard := none }) (v := ?_) rfl (by kernel_rfl) (by kernel_rfl) (by kernel_rfl) (fun _ _ _ h => h) (Or.inl ⟨by rfl, ?_⟩) (by assumption) ?_
                rotate_left
                · intro w hSw; (try dsimp only at hSw); go_simp <;> with_reducible rfl
                simp only [Act.put, List.setIfInBounds_toArray, List.set_cons_zero, List.set_cons_succ]
                refine wpAnyH_take (i := 1) (oi := { dst := some 55, op := Op.convert 34 9 (Operand.tmp 54), type := 9, pos := "ref.go:96", after := #[{ on := 0, ground := Ground.data }], guard := none }) (v := ?_) rfl (by kernel_rfl) (by kernel_rfl) (by kernel_rfl) (fun _ _ _ h => h) (Or.inl ⟨by rfl, ?_⟩) (by assumption) ?_
                rotate_left
                · intro w hSw; (try dsimp only at hSw); go_simp <;> with_reducible rfl
                simp only [Act.put, List.setIfInBounds_toArray, List.set_cons_zero, List.set_cons_succ]
                refine wpAnyH_take (i := 2) (oi := { dst := some 56, op := Op.move (Operand.tmp 10), type := 3, pos := "ref.go:96", after := #[], guard := none }) (v := ?_) rfl (by kernel_rfl) (by kernel_rfl) (by kernel_rfl) (fun _ _ _ h => h) (Or.inl ⟨by rfl, ?_⟩) (by assumption) ?_
                rotate_left
                · intro w hSw; (try dsimp only at hSw); go_simp <;> with_reducible rfl
                simp only [Act.put, List.setIfInBounds_toArray, List.set_cons_zero, List.set_cons_succ]
                refine wpAnyH_take (i := 3) (oi := { dst := some 57, op := Op.move (Operand.tmp 7), type := 44, pos := "ref.go:96", after := #[], guard := none }) (v := ?_) rfl (by kernel_rfl) (by kernel_rfl) (by kernel_rfl) (fun _ _ _ h => h) (Or.inl ⟨by rfl, ?_⟩) (by assumption) ?_
                rotate_left
                · intro w hSw; (try dsimp only at hSw); go_simp <;> with_reducible rfl
                simp only [Act.put, List.setIfInBounds_toArray, List.set_cons_zero, List.set_cons_succ]
                refine wpAnyH_take (i := 4) (oi := { dst := some 58, op := Op.call { callee := Callee.builtin Builtin.len, args := #[Operand.tmp 57], argTypes := #[44] }, type := 3, pos := "ref.go:96", after := #[{ on := 3, ground := Ground.data }], guard := none }) (v := ?_) rfl (by kernel_rfl) (by kernel_rfl) (by kernel_rfl) (fun _ _ _ h => h) (Or.inl ⟨by rfl, ?_⟩) (by assumption) ?_
                rotate_left
                · intro w hSw; (try dsimp only at hSw); go_simp <;> with_reducible rfl
                simp only [Act.put, List.setIfInBounds_toArray, List.set_cons_zero, List.set_cons_succ]
                refine wpAnyH_take (i := 5) (oi := { dst := some 59, op := Op.binOp BinOp.add 3 (Operand.tmp 58) (Operand.const (Value.int IntKind.i64 1)) 3, type := 3, pos := "ref.go:96", after := #[{ on := 4, ground := Ground.data }], guard := none }) (v := ?_) rfl (by kernel_rfl) (by kernel_rfl) (by kernel_rfl) (fun _ _ _ h => h) (Or.inl ⟨by rfl, ?_⟩) (by assumption) ?_
                rotate_left
                · intro w hSw; (try dsimp only at hSw); go_simp <;> with_reducible rfl
                simp only [Act.put, List.setIfInBounds_toArray, List.set_cons_zero, List.set_cons_succ]
                refine wpAnyH_take (i := 6) (oi := { dst := some 60, op := Op.convert 3 83 (Operand.tmp 59), type := 83, pos := "ref.go:96", after := #[{ on := 5, ground := Ground.data }], guard := none }) (v := ?_) rfl (by kernel_rfl) (by kernel_rfl) (by kernel_rfl) (fun _ _ _ h => h) (Or.inl ⟨by rfl, ?_⟩) (by assumption) ?_
                rotate_left
                · intro w hSw; (try dsimp only at hSw); go_simp <;> with_reducible rfl
                simp only [Act.put, List.setIfInBounds_toArray, List.set_cons_zero, List.set_cons_succ]
                refine wpAnyH_ready (rs := [7]) (by kernel_rfl) (by simp) ?_
                refine AllReadyH.cons (o := { dst := some 61, op := Op.call { callee := Callee.value (Operand.func 53), args := #[Operand.tmp 56, Operand.tmp 60], argTypes := #[3, 83] }, type := 34, pos := "ref.go:96", after := #[{ on := 2, ground := Ground.data }, { on := 6, ground := Ground.data }], guard := none }) rfl (fun K hK => ?_) AllReadyH.nil
                go_simp
                go_at_call 53; refine KT.out.mono ?_; rintro e' w2 ⟨g2, n2, c3, rfl, hn2, hx2, hb2⟩; have hO2 := hide' (hOd.out.up hb2.out); have hcv2 := HdP.conv hx2.out; rw [hsT.out] at hcv2; (try dsimp only)
                refine hK.out _ _ ?_ (fun hHeld => ?_)
                · exact hSv.out _ hO2.out
                clear hK K
                try simp only [Act.put, List.setIfInBounds_toArray, List.set_cons_zero, List.set_cons_succ]
                refine wpAnyH_ready (rs := [8]) (by kernel_rfl) (by simp) ?_
                refine AllReadyH.cons (o := { dst := some 62, op := Op.convert 34 9 (Operand.tmp 61), type := 9, pos := "ref.go:96", after := #[{ on := 7, ground := Ground.data }], guard := none }) rfl (fun K hK => ?_) AllReadyH.nil
                go_simp
                refine hK.out _ _ ?_ (fun hHeld => ?_)
                · exact hSv.out _ hO2.out
                clear hK K
                try simp only [Act.put, List.setIfInBounds_toArray, List.set_cons_zero, List.set_cons_succ]
                refine wpAnyH_take (i := 9) (oi := { dst := some 63, op := Op.binOp BinOp.neq 9 (Operand.tmp 55) (Operand.tmp 62) 9, type := 4, pos := "ref.go:96", after := #[{ on := 1, ground := Ground.data }, { on := 8, ground := Ground.data }], guard := none }) (v := ?_) rfl (by kernel_rfl) (by kernel_rfl) (by kernel_rfl) (fun _ _ _ h => h) (Or.inl ⟨by rfl, ?_⟩) (by assumption) ?_
                rotate_left
                · intro w hSw; (try dsimp only at hSw); go_simp <;> with_reducible rfl
                simp only [Act.put, List.setIfInBounds_toArray, List.set_cons_zero, List.set_cons_succ]
                refine wpAnyH_take (i := 10) (oi := { dst := some 64, op := Op.move (Operand.tmp 63), type := 4, pos := "ref.go:96", after := #[{ on := 9, ground := Ground.data }, { on := 7, ground := Ground.chain }], guard := none }) (v := ?_) rfl (by kernel_rfl) (by kernel_rfl) (by kernel_rfl) (fun _ _ _ h => h) (Or.inl ⟨by rfl, ?_⟩) (by assumption) ?_
                rotate_left
                · intro w hSw; (try dsimp only at hSw); go_simp <;> with_reducible rfl
                simp only [Act.put, List.setIfInBounds_toArray, List.set_cons_zero, List.set_cons_succ]
                refine wpAnyH_take (i := 11) (oi := { dst := some 65, op := Op.move (Operand.tmp 10), type := 3, pos := "ref.go:96", after := #[{ on := 10, ground := Ground.guard }], guard := some (10, false) }) (v := undef) rfl (by kernel_rfl) (by kernel_rfl) (by kernel_rfl) (fun _ _ _ h => h) (Or.inr ⟨by rfl, rfl⟩) (by assumption) ?_
                simp only [Act.put, List.setIfInBounds_toArray, List.set_cons_zero, List.set_cons_succ]
                refine wpAnyH_take (i := 12) (oi := { dst := some 66, op := Op.binOp BinOp.gtr 3 (Operand.tmp 65) (Operand.const (Value.int IntKind.i64 131072)) 3, type := 4, pos := "ref.go:96", after := #[{ on := 11, ground := Ground.data }, { on := 10, ground := Ground.guard }], guard := some (10, false) }) (v := undef) rfl (by kernel_rfl) (by kernel_rfl) (by kernel_rfl) (fun _ _ _ h => h) (Or.inr ⟨by rfl, rfl⟩) (by assumption) ?_
                simp only [Act.put, List.setIfInBounds_toArray, List.set_cons_zero, List.set_cons_succ]
                refine wpAnyH_take (i := 13) (oi := { dst := some 67, op := Op.pick (Operand.tmp 64) (Operand.const (Value.bool true)) (Operand.tmp 66), type := 4, pos := "ref.go:96", after := #[{ on := 10, ground := Ground.data }, { on := 12, ground := Ground.data }], guard := none }) (v := ?_) rfl (by kernel_rfl) (by kernel_rfl) (by kernel_rfl) (fun _ _ _ h => h) (Or.inl ⟨by rfl, ?_⟩) (by assumption) ?_
                rotate_left
                · intro w hSw; (try dsimp only at hSw); go_simp <;> with_reducible rfl
                simp only [Act.put, List.setIfInBounds_toArray, List.set_cons_zero, List.set_cons_succ]
                refine wpAnyH_take (i := 14) (oi := { dst := some 68, op := Op.move (Operand.tmp 67), type := 4, pos := "ref.go:96", after := #[{ on := 13, ground := Ground.data }, { on := 10, ground := Ground.chain }], guard := none }) (v := ?_) rfl (by kernel_rfl) (by kernel_rfl) (by kernel_rfl) (fun _ _ _ h => h) (Or.inl ⟨by rfl, ?_⟩) (by assumption) ?_
                rotate_left
                · intro w hSw; (try dsimp only at hSw); go_simp <;> with_reducible rfl
                simp only [Act.put, List.setIfInBounds_toArray, List.set_cons_zero, List.set_cons_succ]
                refine wpAnyH_take (i := 15) (oi := { dst := some 69, op := Op.move (Operand.tmp 8), type := 3, pos := "ref.go:96", after := #[{ on := 14, ground := Ground.guard }], guard := some (14, false) }) (v := undef) rfl (by kernel_rfl) (by kernel_rfl) (by kernel_rfl) (fun _ _ _ h => h) (Or.inr ⟨by rfl, rfl⟩) (by assumption) ?_
                simp only [Act.put, List.setIfInBounds_toArray, List.set_cons_zero, List.set_cons_succ]
                refine wpAnyH_take (i := 16) (oi := { dst := some 70, op := Op.move (Operand.tmp 10), type := 3, pos := "ref.go:96", after := #[{ on := 14, ground := Ground.guard }], guard := some (14, false) }) (v := undef) rfl (by kernel_rfl) (by kernel_rfl) (by kernel_rfl) (fun _ _ _ h => h) (Or.inr ⟨by rfl, rfl⟩) (by assumption) ?_
                simp only [Act.put, List.setIfInBounds_toArray, List.set_cons_zero, List.set_cons_succ]
                refine wpAnyH_take (i := 17) (oi := { dst := some 71, op := Op.call { callee := Callee.value (Operand.func 54), args := #[Operand.tmp 70], argTypes := #[3] }, type := 3, pos := "ref.go:96", after := #[{ on := 16, ground := Ground.data }, { on := 14, ground := Ground.chain }, { on := 14, ground := Ground.guard }], guard := some (14, false) }) (v := undef) rfl (by kernel_rfl) (by kernel_rfl) (by kernel_rfl) (fun _ _ _ h => h) (Or.inr ⟨by rfl, rfl⟩) (by assumption) ?_
                simp only [Act.put, List.setIfInBounds_toArray, List.set_cons_zero, List.set_cons_succ]
                refine wpAnyH_take (i := 18) (oi := { dst := some 72, op := Op.binOp BinOp.add 3 (Operand.tmp 69) (Operand.tmp 71) 3, type := 3, pos := "ref.go:96", after := #[{ on := 15, ground := Ground.data }, { on := 17, ground := Ground.data }, { on := 14, ground := Ground.guard }], guard := some (14, false) }) (v := undef) rfl (by kernel_rfl) (by kernel_rfl) (by kernel_rfl) (fun _ _ _ h => h) (Or.inr ⟨by rfl, rfl⟩) (by assumption) ?_
                simp only [Act.put, List.setIfInBounds_toArray, List.set_cons_zero, List.set_cons_succ]
                refine wpAnyH_take (i := 19) (oi := { dst := some 73, op := Op.binOp BinOp.add 3 (Operand.tmp 72) (Operand.const (Value.int IntKind.i64 1)) 3, type := 3, pos := "ref.go:96", after := #[{ on := 18, ground := Ground.data }, { on := 14, ground := Ground.guard }], guard := some (14, false) }) (v := undef) rfl (by kernel_rfl) (by kernel_rfl) (by kernel_rfl) (fun _ _ _ h => h) (Or.inr ⟨by rfl, rfl⟩) (by assumption) ?_
                simp only [Act.put, List.setIfInBounds_toArray, List.set_cons_zero, List.set_cons_succ]
                refine wpAnyH_take (i := 20) (oi := { dst := some 74, op := Op.move (Operand.tmp 0), type := 24, pos := "ref.go:96", after := #[{ on := 14, ground := Ground.guard }], guard := some (14, false) }) (v := undef) rfl (by kernel_rfl) (by kernel_rfl) (by kernel_rfl) (fun _ _ _ h => h) (Or.inr ⟨by rfl, rfl⟩) (by assumption) ?_
                simp only [Act.put, List.setIfInBounds_toArray, List.set_cons_zero, List.set_cons_succ]
                refine wpAnyH_take (i := 21) (oi := { dst := some 75, op := Op.call { callee := Callee.value (Operand.func 48), args := #[Operand.tmp 74], argTypes := #[24] }, type := 3, pos := "ref.go:96", after := #[{ on := 20, ground := Ground.data }, { on := 17, ground := Ground.chain }, { on := 14, ground := Ground.guard }], guard := some (14, false) }) (v := undef) rfl (by kernel_rfl) (by kernel_rfl) (by kernel_rfl) (fun _ _ _ h => h) (Or.inr ⟨by rfl, rfl⟩) (by assumption) ?_
                simp only [Act.put, List.setIfInBounds_toArray, List.set_cons_zero, List.set_cons_succ]
                refine wpAnyH_take (i := 22) (oi := { dst := some 76, op := Op.binOp BinOp.geq 3 (Operand.tmp 73) (Operand.tmp 75) 3, type := 4, pos := "ref.go:96", after := #[{ on := 19, ground := Ground.data }, { on := 21, ground := Ground.data }, { on := 14, ground := Ground.guard }], guard := some (14, false) }) (v := undef) rfl (by kernel_rfl) (by kernel_rfl) (by kernel_rfl) (fun _ _ _ h => h) (Or.inr ⟨by rfl, rfl⟩) (by assumption) ?_
                simp only [Act.put, List.setIfInBounds_toArray, List.set_cons_zero, List.set_cons_succ]
                refine wpAnyH_take (i := 23) (oi := { dst := some 77, op := Op.pick (Operand.tmp 68) (Operand.const (Value.bool true)) (Operand.tmp 76), type := 4, pos := "ref.go:96", after := #[{ on := 14, ground := Ground.data }, { on := 22, ground := Ground.data }], guard := none }) (v := ?_) rfl (by kernel_rfl) (by kernel_rfl) (by kernel_rfl) (fun _ _ _ h => h) (Or.inl ⟨by rfl, ?_⟩) (by assumption) ?_
                rotate_left
                · intro w hSw; (try dsimp only at hSw); go_simp <;> with_reducible rfl
                simp only [Act.put, List.setIfInBounds_toArray, List.set_cons_zero, List.set_cons_succ]
                refine wpAnyH_done (by kernel_rfl) ?_ _
                refine NoPanic.normal ?_
                go_wp2_with fail
                go_meet
                case rel => exact ⟨hO2, .inl ⟨rfl, by rw [← hkl.out]; exact hOI⟩⟩
            case rest => as_aux_lemma =>
              obtain ⟨hO2, ⟨rfl, hon⟩ | ⟨rfl, h3⟩⟩ := hcut
              · have hON : Hid (O = none) := by
                  have h1 := hT.out
                  rw [hn1.out hon.out] at h1
                  unfold Hid
                  rw [hOs.out, h1]
                  rfl
                go_wp2
                exact bodyPost_ret (v := .tuple #[.pointer none, .slice none 0 0, .int .i64 52]) (by simp [results, Try.results30]) rfl (.inl ⟨rfl, hON, hO2.out.be⟩)
              · obtain ⟨h31, h32, h33⟩ := h3.out
                have h33' := hide' h33
                clear h33
                have c0 : wc.drew.cell? ⟨r, 0, none⟩ = some (.slice (some ⟨rb, 0, none⟩) (16 * n) cap) := by have := hO2.out.rk.cells.1; rw [hlen] at this; exact this
                have KS := hide' (fun V => spanD (W := V) m (by omega))
                have hx1 : IntKind.i64.wrap ((q : Int) + 1) = (q : Int) + 1 := wrap_id (by omega) (by omega)
                have hx2 : IntKind.i64.wrap (16 * ((q : Int) + 1)) = 16 * ((q : Int) + 1) := wrap_id (by omega) (by omega)
                have hx3 : IntKind.i64.wrap ((q : Int) + 1 + (spn m : Int)) = (q : Int) + 1 + (spn m : Int) := wrap_id (by omega) (by omega)
                have hx4 : IntKind.i64.wrap (16 * ((q : Int) + 1 + (spn m : Int))) = 16 * ((q : Int) + 1 + (spn m : Int)) := wrap_id (by omega) (by omega)
                have hx5 : (16 * ((q : Int) + 1)) ≤ 16 * ((q : Int) + 1 + (spn m : Int)) := by omega
                have hx6 : 16 * ((q : Int) + 1 + (spn m : Int)) ≤ (cap : Int) := by omega
                have hOd2 := hide' (hO2.out.up (Below.refl _ wc).drew)
                have hy1 : (0 : Int) ≤ 16 * ((q : Int) + 1) := by omega
                have hy2 : max (16 * ((q : Int) + 1)) 0 = 16 * ((q : Int) + 1) := by omega
                have hy3 : max (16 * ((q : Int) + 1 + (spn m : Int))) 0 = 16 * ((q : Int) + 1 + (spn m : Int)) := by omega
                have hy4 : (16 * ((q : Int) + 1)).toNat = 16 * (q + 1) := by omega
                have hy5 : (16 * ((q : Int) + 1 + (spn m : Int))).toNat = 16 * (q + 1 + spn m) := by omega
                have hy6 : (0 : Int) ≤ 16 * ((q : Int) + 1 + (spn m : Int)) := by omega
                have hy7 : ¬ cap = 16 * (q + 1) := by omega
                have hy8 : (q : Int) + 1 ≤ (q : Int) + 1 + (spn m : Int) := by omega
                go_upto_region 20 with fail
                go_cut [11] from 78 to 91 (fun bv wx => bv = .slice (some ⟨rb, 16 * (q + 1), none⟩) (16 * spn m) (cap - 16 * (q + 1)) ∧ Hid (Od W r rb cap D (.slice oa kl c2) G wx))
                case first =>
                  go_wp2_with fail
                  go_region_held3 (fun V => V.cell? ⟨r, 0, none⟩ = some (.slice (some ⟨rb, 0, none⟩) (16 * n) cap)) (first | (exact c0)) (first | (go_at_call 54; refine (KS.out _).mono ?_; rintro e' w1 ⟨rfl, hw1'⟩; obtain rfl : wc.drew = w1 := hw1'.symm))
                  go_wp2_with fail
                  go_meet
                  case rel => exact ⟨by rw [show 16 * (q + 1 + spn m) - 16 * (q + 1) = 16 * spn m by omega], hOd2⟩
                case rest =>
                  obtain ⟨rfl, hO3⟩ := hcut
                  clear hx1 hx2 hx3 hx4 hx5 hx6 hy1 hy2 hy3 hy4 hy5 hy6 hy7 hy8 c0
                  have hz1 : (m : Int) ≤ 16 * (spn m : Int) := by omega
                  have hz2 : (m : Int) ≤ ((cap - 16 * (q + 1) : Nat) : Int) := by omega
                  have hz3 : ¬ cap - 16 * (q + 1) = m := by omega
                  have hz4 : m ≤ cap - 16 * (q + 1) := by omega
                  have hw5 : IntKind.i64.wrap ((q : Int) + (spn m : Int)) = (q : Int) + (spn m : Int) := wrap_id (by omega) (by omega)
                  have hw6 : IntKind.i64.wrap ((q : Int) + (spn m : Int) + 1) = (q : Int) + (spn m : Int) + 1 := wrap_id (by omega) (by omega)
                  have KZT := hide' (zerosD (htsub.out wc _ _ hO3.out h32) (by rw [tail_len hlen h32]; omega))
                  have htl2 := hide' (htl.out h31 h32 h33'.out)
                  by_cases hA : allZ (tailB D.bytes q m) = true
                  · rw [hA] at KZT
                    have hone := hide' (htl2.out.1 hA)
                    have hrc := hide' (hrsub.out wc _ _ hO3.out h32)
                    have hrl2 : Hid ((recOf D.bytes q m).length = m) := hrl.out h32
                    have hT5 := hide' (hT.out.trans (hs1.out _ hone.out))
                    rw [hrl2.out] at hT5
                    clear hA htl2 hone
                    generalize recOf D.bytes q m = R at *
                    have hGl : Hid (G.length ≤ 1000000) := by unfold Hid; omega
                    go_wp2_with (first | (go_at_call 52; refine KZT.out.mono ?_; rintro e' w1 ⟨rfl, hw1'⟩; obtain rfl : wc = w1 := hw1'.symm) | (at_builtin; refine app_all rfl (.tmp 98) (.tmp 101) rfl rfl _ rfl R hrc.out (by rw [hrl2.out]; omega) ?_; intro o1 n1 c1 w1 hn1 hown1 hbe1) | (at_builtin; refine (hO3.out.up hbe1.out).rs.app rfl (.tmp 97) (.tmp 103) rfl rfl rfl (hO3.out.up hbe1.out).be.size hGl.out o1 n1 c1 R (own_lowB hown1.out hO3.out.be.size) ?_; intro o2 n2 c4 w2 G2 hG2 hn2 hrs2 hb2 hs2) | (go_at_call 54; refine (KS.out _).mono ?_; rintro e' w3 ⟨rfl, hw3⟩; obtain rfl : w2 = w3 := hw3.symm))
                    have hO4 := hide' (hO3.out.up hbe1.out)
                    have hO5 : Hid (Od W r rb cap D (.slice o2 n2 c4) G2 w2) := ⟨hO4.out.rk.low hb2.out hlow.out.1 hlow.out.2, hrs2.out, hO4.out.be.trans hb2.out⟩
                    have hGl5 : G2.length = G.length + 1 := by rw [hG2.out, List.length_append]; rfl
                    have hT6 : Hid (T = joinQ (G2.map (·.2)) (prs D.bytes n f (q + spn m + 1) G2.length)) := by
                      rw [hGl5, hG2.out, List.map_append, show q + spn m + 1 = q + 1 + spn m by omega]
                      exact hT5
                    exact ⟨⟨o2, n2, c4, f, q + spn m + 1, G2, rfl, by go_num, hn2, by omega, by omega, by omega, hT6, hO5⟩, by simp [intOf]; omega⟩
                  · have hA' : allZ (tailB D.bytes q m) = false := by simpa using hA
                    rw [hA'] at KZT
                    have hon := hide' (htl2.out.2 hA')
                    have hON : Hid (O = none) := by
                      have h1 := hT.out
                      rw [hn1.out hon.out] at h1
                      unfold Hid
                      rw [hOs.out, h1]
                      rfl
                    clear hA hA' htl2
                    go_wp2_with (go_at_call 52; refine KZT.out.mono ?_; rintro e' w1 ⟨rfl, hw1'⟩; obtain rfl : wc = w1 := hw1'.symm)
                    exact bodyPost_ret (v := .tuple #[.pointer none, .slice none 0 0, .int .i64 52]) (by simp [results, Try.results30]) rfl (.inl ⟨rfl, hON, hO3.out.be⟩)
      case rest =>
        obtain ⟨oa, kl, c2, q, G, rfl, rfl, hkl, hq, hGq, hP, hO⟩ := hcut
        have hbt : bt1 m0 < 4294967296 := by unfold bt1; omega
        have hOr := hide' (hOs.out.trans (by rw [hP.out]; rfl : lkJ (prs D.bytes n n 1 0) m0 = some (G.map (·.2), q, m0)))
        have hb1 : ((m0 : Int) + 1) % 4294967296 = ((bt1 m0 : Nat) : Int) := by unfold bt1; omega
        have hb1' := hide' hb1
        clear hb1
        have hb2 : IntKind.u64.wrap ((m0 : Int) + 1) = (m0 : Int) + 1 := by
          unfold IntKind.wrap
          simp [IntKind.bits, IntKind.signed]
          omega
        go_upto_region 26 with fail
        rw [hb1'.out]
        clear hb1' hb2
        generalize hbb0 : bt1 m0 = b1 at *
        have hbb := hide' hbb0
        clear hbb0
        have KH := hide' (headD b1 wc (by omega))
        unfold HdP at KH
        have KW := hide' (fun V v (hV : RkA V r rb cap D) (hv : ∀ X, Kp r rb V X → RowC X v (headB b1)) => rWriteF hV hk'.out 0 (by omega) hp'.out (headB b1) v hv (headB_len _) hw)
        unfold RcP at KW
        have hlw := hide' (And.intro (Nat.lt_of_lt_of_le hlow.out.1 hO.out.be.size) (Nat.lt_of_lt_of_le hlow.out.2 hO.out.be.size))
        have hwb : IntKind.i64.wrap (b1 : Int) = (b1 : Int) := wrap_id (by omega) (by omega)
        go_wp2_with (first | (go_at_call 51; refine KH.out.mono ?_; rintro e' w1 ⟨g1, n1, c1, rfl, hn1, hx1, hb1⟩) | (go_at_call 55; refine (KW.out w1 _ (hO.out.rk.up hb1.out) (HdP.row hn1.out hx1.out hlw.out.1 hlw.out.2)).mono ?_; rintro e' w2 ⟨rfl, hr2, hk2⟩))
        have hal : Hid (∀ x, Below w2.heap.size w2 (w2.alloc x)) := fun x => (Below.refl _ w2).alloc (Nat.le_refl _) _
        have hbe := hide' (hO.out.be.trans (hb1.out.mono hO.out.be.size))
        refine bodyPost_ret (v := .tuple #[.pointer (some ⟨w2.heap.size, 0, none⟩), .slice oa kl c2, .int .i64 0]) (by simp [results, Try.results30]) rfl (.inr ⟨w2.heap.size, oa, kl, c2, G, q, m0, rfl, hOr, ⟨hkl.out, hq, hm0⟩, ?_, ?_, ?_, ?_, ?_⟩)
        · rw [hbb.out]
          unfold Hid RjA
          rw [← hkl.out]
          exact heap_new _ _
        · rw [hbb.out]
          exact hr2.out.up (hal.out _)
        · exact ((hO.out.rs.below hb1.out).kp hk2.out hlow.out.1 hlow.out.2).below (hal.out _)
        · exact Nat.le_trans hbe.out.size hk2.out.size
        · exact kp_wrap hbe.out hk2.out (hal.out _)
end Go.Proofs.Ytmhbidnpfefjpaa
