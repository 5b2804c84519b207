/- Rows that are lent; a book beside a journal. -/
import Derived.Test.YtcbddkfbpgjknaaJnC0
import Derived.Test.YtcbddkfbpgjknaaKbStand
import Derived.Test.YtcbddkfbpgjknaaKbInts
namespace Go.Proofs.Ytcbddkfbpgjknaa
open Go.RowKit
/-- Bytes laid behind a row of one's own. -/
theorem appW {W : World} {o : Oper} {a : Act} {K : Act → World → Prop} {Q : Exit → Act → World → Prop} (s x : Operand) (ho : o.op = .call { callee := .builtin .append, args := #[s, x], argTypes := #[34, 34] })
    (B : Nat) (v : Value) (L : List Nat) (n : Nat) (es : a.eval s = v) (hn : n = L.length) (hT : W.ownsRow B 5 1 v n (cellsB L)) (ad : Addr) (m c : Nat) (M : List Nat) (ex : a.eval x = .slice (some ad) m c) (hm : m = M.length) (hM : ∀ j u, (cellsB M)[j]? = some u → W.cell? (ad.add j) = some u) (hB : B ≤ W.heap.size) (hl : L.length + M.length ≤ 1000000) (h0 : v ≠ .slice none 0 0)
    (hK : ∀ g2 n2 c2 w2, Hid (n2 = (L ++ M).length) → Hid (w2.ownsRow B 5 1 (.slice (some ⟨g2, 0, none⟩) n2 c2) n2 (cellsB (L ++ M))) → Hid (Below B W w2) → Hid (W.grownBy w2 v.ownBlock) → K (a.put o.dst (.slice (some ⟨g2, 0, none⟩) n2 c2)) w2) : o.wp Try.prog a W K Q := by
  obtain ⟨i0, hi, hz0, hz1, hz2⟩ := info_parts infoU8
  subst hn hm
  refine wp_append_own W s x 34 ho B 5 i0 (.int .u8 0) 1 1 Try.underlying34 hi hz0 hz1 hz2 rfl (by decide) v L.length (cellsB L) es hT ad M.length c (cellsB M) ex (by simp [cellsB]) hM (oneB _) (by unfold maxLen; omega) (by omega) hB ?_
  intro v2 w2 hown hgrow hnil
  rw [← cellsB_app, ← List.length_append] at hown
  have hown' := hown
  rcases hown.2 with ⟨e, _⟩ | ⟨g, cap, cur, e, _⟩
  · exact absurd (hnil.1 e).1 h0
  · subst e
    exact hK _ _ _ _ rfl hown' ((Below.refl B W).grown hgrow hB (fun j ej => (hT.lt j ej).1)) hgrow
theorem appL {W : World} {ops : Array Oper} {rest : List Oper} {o : Oper} {a : Act} {Q : Exit → Act → World → Prop} (hgd : o.guard = none) (s x : Operand) (ho : o.op = .call { callee := .builtin .append, args := #[s, x], argTypes := #[34, 34] })
    (B : Nat) (v : Value) (L : List Nat) (n : Nat) (es : a.eval s = v) (hn : n = L.length) (hT : W.ownsRow B 5 1 v n (cellsB L)) (ad : Addr) (m c : Nat) (M : List Nat) (ex : a.eval x = .slice (some ad) m c) (hm : m = M.length) (hM : ∀ j u, (cellsB M)[j]? = some u → W.cell? (ad.add j) = some u) (hB : B ≤ W.heap.size) (hl : L.length + M.length ≤ 1000000) (h0 : v ≠ .slice none 0 0)
    (hK : ∀ g2 n2 c2 w2, Hid (n2 = (L ++ M).length) → Hid (w2.ownsRow B 5 1 (.slice (some ⟨g2, 0, none⟩) n2 c2) n2 (cellsB (L ++ M))) → Hid (Below B W w2) → Hid (W.grownBy w2 v.ownBlock) → wpList Try.prog ops Q rest (a.put o.dst (.slice (some ⟨g2, 0, none⟩) n2 c2)) w2) : wpList Try.prog ops Q (o :: rest) a W :=
  wpList_plain hgd fun _ hK2 => appW s x ho B v L n es hn hT ad m c M ex hm hM hB hl h0 fun g2 n2 c2 w2 q1 q2 q3 q4 => hK2 _ _ (hK g2 n2 c2 w2 q1 q2 q3 q4)
theorem cells_row {W : World} {g n c : Nat} {L : List Nat} (h : RowC W (.slice (some ⟨g, 0, none⟩) n c) L) : ∀ j u, (cellsB L)[j]? = some u → W.cell? ((⟨g, 0, none⟩ : Addr).add j) = some u := fun j u hu => by
  obtain ⟨oa, cap, e, _, hc⟩ := h
  obtain ⟨z, hz, rfl⟩ := cellsB_at hu
  obtain ⟨g', o', e1, hcell⟩ := hc j z hz
  injection e with e2
  rw [← e2] at e1
  cases e1
  rw [Addr.add_lit]
  exact hcell
set_option maxRecDepth 100000 in
set_option maxHeartbeats 1000000 in
/-- few: the answer is never nil. -/
theorem fewS (L : List Nat) (v : Value) (W : World) (most : Nat) (hm : most ≤ 10000) (hr : RowC W v L) :
    Calls Try.prog 12 #[v, .int .i64 (most : Int)] W fun e w' => ∃ g1 n1 c1, e = .returned (.slice (some ⟨g1, 0, none⟩) n1 c1) ∧ Hid (n1 = (L.take most).length) ∧ Hid (w'.ownsRow W.heap.size 5 1 (.slice (some ⟨g1, 0, none⟩) n1 c1) n1 (cellsB (L.take most))) ∧ Hid (Below W.heap.size W w') := by
  have hr' := hide' hr
  obtain ⟨oa, cap, rfl, hcap, hc⟩ := hr
  have hcap1 := hcap.1
  have hcap2 := hide' hcap.2
  have hc' := hide' hc
  clear hcap hc
  obtain ⟨i0, hi, hz0, hz1, hz2⟩ := info_parts infoU8
  have hfin : Hid (∀ M : List Nat, M.length ≤ 10000 → ∀ v1 w1, w1.ownsRow W.heap.size 5 1 v1 (0 + M.length) (cellsB [] ++ cellsB M) → (W.alloc (.cells #[] 5)).grownBy w1 (Value.slice (some ⟨W.heap.size, 0, none⟩) 0 0).ownBlock → v1 ≠ .slice none 0 0 → ∃ g1 n1 c1, v1 = .slice (some ⟨g1, 0, none⟩) n1 c1 ∧ Hid (n1 = M.length) ∧ Hid (w1.ownsRow W.heap.size 5 1 (.slice (some ⟨g1, 0, none⟩) n1 c1) n1 (cellsB M)) ∧ Hid (Below W.heap.size W w1)) := by
    intro M _ v1 w1 h1 h2 h3
    rw [Nat.zero_add, show cellsB [] ++ cellsB M = cellsB M from rfl] at h1
    have h1' := h1
    rcases h1.2 with ⟨e, _⟩ | ⟨g, cp, cur, e, _⟩
    · exact absurd e h3
    · subst e
      exact ⟨_, _, _, rfl, rfl, h1', ((Below.refl _ W).alloc (Nat.le_refl _) _).grown h2 (by simp) (fun j ej => by cases ej; exact Nat.le_refl _)⟩
  by_cases hlong : most < L.length
  · have h1 : (most : Int) < (L.length : Int) := by omega
    have hrt := hide' (hr'.out.take most (by omega))
    have hl1 : most ≤ cap := by omega
    have hlt : Hid ((L.take most).length = most) := by unfold Hid; rw [List.length_take]; omega
    obtain ⟨g, o, rfl⟩ : ∃ g o, oa = some ⟨g, o, none⟩ := by
      obtain ⟨g, o, e, _⟩ := hc'.out 0 L[0] (List.getElem?_eq_getElem (by omega))
      exact ⟨g, o, e⟩
    have hnews : Hid (∀ j u, (cellsB (L.take most))[j]? = some u → W.cell? ((⟨g, o, none⟩ : Addr).add j) = some u) := fun j u hu => by
      obtain ⟨z, hz, rfl⟩ := cellsB_at hu
      rw [List.getElem?_take] at hz
      split at hz
      · obtain ⟨g', o', e, hcell⟩ := hc'.out j z hz
        cases e
        rw [Addr.add_lit]; exact hcell
      · cases hz
    generalize L.take most = M at *
    generalize L.length = ln at *
    go_enter Try.func12, Try.ntmps12
    go_wp2_with (at_builtin; refine wpList_append_own _ rfl _ _ 34 rfl W.heap.size 5 i0 (.int .u8 0) 1 1 Try.underlying34 hi hz0 hz1 hz2 rfl (by decide) _ 0 (cellsB []) rfl (owns_zero W _) ⟨g, o, none⟩ most cap (cellsB M) rfl (by rw [cellsB_len, hlt.out]; omega) (fun j u hu => cell_new (hnews.out j u hu)) (oneB _) (by unfold maxLen; omega) (by omega) (by simp) ?_; intro v1 w1 hown1 hgrow1 hnil)
    go_ret
    obtain ⟨g1, n1, c1, rfl, q1, q2, q3⟩ := hfin.out M (by rw [hlt.out]; exact hm) v1 w1 (by rw [hlt.out]; exact hown1) hgrow1 (fun e => by have := (hnil.1 e).1; cases this)
    exact ⟨g1, n1, c1, rfl, q1, q2, q3⟩
  · have h1 : ¬ (most : Int) < (L.length : Int) := by omega
    rw [List.take_of_length_le (by omega)]
    cases oa with
    | none =>
      have hc0 := hcap2.out rfl
      obtain rfl : L = [] := List.eq_nil_of_length_eq_zero (by omega)
      subst hc0
      go_enter Try.func12, Try.ntmps12
      go_wp2_with (at_builtin; refine wpList_append_own_none rfl _ _ 34 rfl W.heap.size 5 i0 1 Try.underlying34 hi _ 0 (cellsB []) rfl (owns_zero W _) rfl ?_)
      go_ret
      exact ⟨_, _, _, rfl, rfl, owns_zero W _, (Below.refl _ W).alloc (Nat.le_refl _) _⟩
    | some ad =>
      have hnews : Hid (∀ j u, (cellsB L)[j]? = some u → W.cell? (ad.add j) = some u) := fun j u hu => by
        obtain ⟨z, hz, rfl⟩ := cellsB_at hu
        obtain ⟨g, o, e, hcell⟩ := hc'.out j z hz
        cases e
        rw [Addr.add_lit]; exact hcell
      have hll : L.length ≤ 10000 := by omega
      go_enter Try.func12, Try.ntmps12
      go_wp2_with (at_builtin; refine wpList_append_own _ rfl _ _ 34 rfl W.heap.size 5 i0 (.int .u8 0) 1 1 Try.underlying34 hi hz0 hz1 hz2 rfl (by decide) _ 0 (cellsB []) rfl (owns_zero W _) ad L.length cap (cellsB L) rfl (by simp [cellsB]) (fun j u hu => cell_new (hnews.out j u hu)) (oneB _) (by unfold maxLen; omega) (by omega) (by simp) ?_; intro v1 w1 hown1 hgrow1 hnil)
      go_ret
      obtain ⟨g1, n1, c1, rfl, q1, q2, q3⟩ := hfin.out L hll v1 w1 hown1 hgrow1 (fun e => by have := (hnil.1 e).1; cases this)
      exact ⟨g1, n1, c1, rfl, q1, q2, q3⟩
/-- A disk with these records on it. -/
structure Kd (w : World) (g gb n : Nat) (D : Dk) (K : List (List Nat)) (p i : Nat) (V : World) : Prop where
  dk : DkA V g gb D
  ok : DkO D n
  n2 : 2 ≤ n
  std : Std D.bytes n K 1 0 p
  hd : ∃ b, b < 4294967296 ∧ blkB D.bytes 0 = headB b
  byt : B256 D.bytes
  be : Below w.heap.size w V
  geg : w.heap.size ≤ g
  geb : w.heap.size ≤ gb
  wr : D.writes ≤ 10000 * ((i : Int) + 1)
  fr : Fre D
theorem Kz.kd {w : World} {g gb n gj : Nat} {D : Dk} {J : Jn} {K : List (List Nat)} {i : Nat} {V : World} (h : Kz w g gb n gj D J K i V) (hf : Fre D) : Kd w g gb n D K J.e i V := ⟨h.dk, h.ok, h.n2, h.std, h.hd, h.byt, h.be, h.geg, h.geb, h.wr, hf⟩
theorem Kd.upB {w : World} {g gb n p : Nat} {D : Dk} {K : List (List Nat)} {i B : Nat} {V V' : World} (h : Kd w g gb n D K p i V) (hb : Below B V V') (h1 : g < B) (h2 : gb < B) (h4 : w.heap.size ≤ B) : Kd w g gb n D K p i V' :=
  ⟨⟨(hb.block g h1).trans h.dk.1, (hb.block gb h2).trans h.dk.2⟩, h.ok, h.n2, h.std, h.hd, h.byt, h.be.trans (hb.mono h4), h.geg, h.geb, h.wr, h.fr⟩
/-- What Open answers. -/
def KdP (w : World) (g gb n : Nat) (K : List (List Nat)) (p i : Nat) (V : World) (e : Ending) (w' : World) : Prop :=
  ∃ (gj : Nat) (oa : Option Addr) (cap kl : Nat) (D' : Dk) (G : List (Nat × List Nat)), e = .returned (.tuple #[.pointer (some ⟨gj, 0, none⟩), .slice oa kl cap, .int .i64 0]) ∧ Hid (kl = G.length ∧ G.map (·.2) = K) ∧ Hid (Kd w g gb n D' K p (i + 1) w') ∧ Hid (RsB w' V.heap.size (.slice oa kl cap) G) ∧ Hid (Kp g gb V w')
theorem Kd.open {w : World} {g gb n p : Nat} {D : Dk} {K : List (List Nat)} {i : Nat} {V : World} (h : Kd w g gb n D K p i V) (hi : i ≤ 1000) : Calls Try.prog 15 #[.pointer (some ⟨g, 0, none⟩)] V (KdP w g gb n K p i V) := by
  have hwr := h.wr
  obtain ⟨b, hb, h0⟩ := h.hd
  have hlk := lookR_std h.ok.len hb h0 h.std
  refine (openJ h.dk h.ok h.n2 h.fr.pw h.byt (by omega)).mono ?_
  rintro e w' (⟨rfl, hn, _⟩ | ⟨gj', oa, cap, G, p', b', rfl, hO, hpn, hj, hd, hr, hgj, hk⟩)
  · have := hn.out
    rw [hlk] at this
    cases this
  · have hO' := hO.out
    rw [hlk] at hO'
    simp only [Option.some.injEq, Prod.mk.injEq] at hO'
    obtain ⟨hG, rfl, rfl⟩ := hO'
    have hn2 := h.n2
    refine ⟨gj', oa, cap, G.length, _, G, rfl, ⟨rfl, hG.symm⟩, ⟨hd.out, wrD_ok h.ok (by omega) (headB_len _) (by omega), h.n2, ?_, ⟨bt1 b, Nat.mod_lt _ (by decide), ?_⟩, B256.splice h.byt (head_256 _), h.be.trans (hk.out.below h.geg h.geb h.be.size), h.geg, h.geb, ?_, ⟨?_, ?_⟩⟩, hr, hk⟩
    · refine h.std.ext fun j h1 _ => ?_
      rw [wrD_blk h.ok.len (by omega) (headB_len _), if_neg (by omega)]
    · rw [wrD_blk h.ok.len (by omega) (headB_len _), if_pos rfl]
    · show D.writes + 1 ≤ _
      omega
    · show max (D.fuse - 1) (-1) = -1
      have := h.fr.fu
      omega
    · show decide (D.fuse - 1 ≠ 0) = true
      rw [h.fr.fu]
      rfl
theorem kb_lt {W : World} {b : Nat} {tag : Nat → Nat} (h : KB.Book W b tag) : b < W.heap.size := by
  obtain ⟨ov, ow, m, vs, us, rows, N, hk⟩ := h
  exact hk.box.lt
theorem kb_tag {W : World} {b : Nat} {tag : Nat → Nat} (h : KB.Book W b tag) : tag b = 1 := by
  obtain ⟨ov, ow, m, vs, us, rows, N, hk⟩ := h
  exact hk.bt
theorem kb_fresh {W : World} {b : Nat} {tag : Nat → Nat} (h : KB.Book W b tag) : ∀ g, W.heap.size ≤ g → tag g = 0 := by
  obtain ⟨ov, ow, m, vs, us, rows, N, hk⟩ := h
  exact hk.fresh
theorem kb_mv {W W' : World} {b : Nat} {tag : Nat → Nat} (h : KB.Book W b tag) (hs : KB.Sm (· = 0) tag W W') : KB.Book W' b tag := by
  obtain ⟨ov, ow, m, vs, us, rows, N, hk⟩ := h
  have hb := hk.bt
  exact ⟨ov, ow, m, vs, us, rows, N, ⟨hk.box.mv hs (by rw [hb]; decide), hk.bt, hk.live.mv hs (by decide) (fun j _ => by omega), hk.want.mv hs (by decide) (fun j _ => by omega), fun g hg => hk.fresh g (Nat.le_trans hs.size hg), hk.hN, hk.hrow⟩⟩
theorem kb_start (w : World) : KB.Book (w.alloc (.cells #[.slice none 0 0, .slice none 0 0, .slice none 0 0, .slice none 0 0, .slice none 0 0, .slice none 0 0, .slice none 0 0, .slice none 0 0, .slice none 0 0, .slice none 0 0, .slice none 0 0, .slice none 0 0, .int .i64 0] 61)) w.heap.size (fun g => if g = w.heap.size then 1 else 0) :=
  ⟨_, _, 0, [], [], fun _ => [], 0, ⟨heap_new w _, if_pos rfl, ⟨World.ownsRow_nil _ _ _ _, fun g e => by simp [Value.ownBlock] at e, fun j v hj => by simp at hj, fun j v g hj => by simp at hj⟩, ⟨World.ownsRow_nil _ _ _ _, fun g e => by simp [Value.ownBlock] at e, fun j v hj => by simp at hj, fun j v g hj => by simp at hj⟩, fun g hg => if_neg (by simp at hg; omega), ⟨Nat.le_refl _, by decide⟩, fun j hj => by omega⟩⟩
/-- The disk, a book behind it, rows that were kept ahead of the book. -/
structure Bk (w : World) (g gb n p : Nat) (D : Dk) (i b B : Nat) (tag : Nat → Nat) (kv : Value) (G : List (Value × List Nat)) (V : World) : Prop where
  kd : Kd w g gb n D (G.map (·.2)) p i V
  rk : ∀ W', (∀ k, B ≤ k → k < b → W'.heap[k]? = V.heap[k]?) → RsO W' B kv G
  bk : KB.Book V b tag
  low : ∀ k, k < b → tag k = 0
  lg : g < B
  lb : gb < B
  lB : B ≤ b
  lw : w.heap.size ≤ B
section
variable {w : World} {g gb n p : Nat} {D D' : Dk} {i b B : Nat} {tag tag' : Nat → Nat} {kv : Value} {G : List (Value × List Nat)} {V V' : World}
theorem Bk.rs (h : Bk w g gb n p D i b B tag kv G V) : RsO V B kv G := h.rk V fun _ _ _ => rfl
theorem Bk.up (h : Bk w g gb n p D i b B tag kv G V) (hb : Below V.heap.size V V') : Bk w g gb n p D i b B tag kv G V' := by
  have h1 := kb_lt h.bk
  have h2 := h.lg
  have h3 := h.lb
  have h4 := h.lB
  have h5 := h.lw
  exact ⟨h.kd.upB hb (by omega) (by omega) h.kd.be.size, fun W' hw => h.rk W' fun k q1 q2 => (hw k q1 q2).trans (hb.block k (by omega)), kb_mv h.bk (KB.Sm.below hb), h.low, h.lg, h.lb, h.lB, h.lw⟩
/-- Open writes the disk. -/
theorem Bk.open (h : Bk w g gb n p D i b B tag kv G V) (hd : Kd w g gb n D' (G.map (·.2)) p (i + 1) V') (k : Kp g gb V V') : Bk w g gb n p D' (i + 1) b B tag kv G V' := by
  have h1 := kb_lt h.bk
  have h2 := h.lg
  have h3 := h.lb
  have h4 := h.lB
  refine ⟨hd, fun W' hw => h.rk W' fun j q1 q2 => (hw j q1 q2).trans (k.block j (by omega) (by omega) (by omega)), kb_mv h.bk ⟨k.os, k.tape, k.output, k.size, fun j hj hx => k.block j hj (fun e => hx (by rw [e]; exact h.low g (by omega))) (fun e => hx (by rw [e]; exact h.low gb (by omega)))⟩, h.low, h.lg, h.lb, h.lB, h.lw⟩
/-- A row is taken into the book. -/
theorem Bk.fr {v : Value} {x : Nat} (h : Bk w g gb n p D i b B tag kv G V) (hx : v.ownBlock = some x) (hb : b ≤ x) (hk : KB.Book V' b tag') (hf : KB.Fr tag v V tag' V') : Bk w g gb n p D i b B tag' kv G V' := by
  have h1 := kb_lt h.bk
  have h2 := h.lg
  have h3 := h.lb
  have h4 := h.lB
  have h5 := h.lw
  have ne : ∀ k, k < b → v.ownBlock ≠ some k := fun k hk e => by rw [hx] at e; cases e; omega
  have hbe : Below b V V' := ⟨hf.os, hf.tape, hf.output, hf.size, fun k hk => hf.block k (by omega) (h.low k hk) (ne k hk)⟩
  exact ⟨h.kd.upB hbe (by omega) (by omega) (by omega), fun W' hw => h.rk W' fun k q1 q2 => (hw k q1 q2).trans (hbe.block k q2), hk, fun k hk => hf.tg k (by omega) (h.low k hk) (ne k hk), h.lg, h.lb, h.lB, h.lw⟩
/-- Behind Close. -/
theorem Bk.closed (h : Bk w g gb n p D i b B tag kv G V) (hs : KB.Sm (· ≠ 0) tag V V') : Kd w g gb n D (G.map (·.2)) p i V' ∧ RsO V' B kv G ∧ V.heap.size ≤ V'.heap.size := by
  have h1 := kb_lt h.bk
  have h2 := h.lg
  have h3 := h.lb
  have h4 := h.lB
  have h5 := h.lw
  have hbe : Below b V V' := ⟨hs.os, hs.tape, hs.output, hs.size, fun k hk => hs.block k (by omega) (fun e => e (h.low k hk))⟩
  exact ⟨h.kd.upB hbe (by omega) (by omega) (by omega), h.rk V' fun k _ q2 => hbe.block k q2, hs.size⟩
end
/-- The rows that are told, from the t-th one on not yet in the book. -/
structure Lr (b : Nat) (tag : Nat → Nat) (ol : Option Addr) (kl cl : Nat) (Q : List (Nat × List Nat)) (t : Nat) (V : World) : Prop where
  out : V.ownsRow 0 34 1 (.slice ol kl cl) Q.length (cellsG Q)
  outt : ∀ x, (Value.slice ol kl cl).ownBlock = some x → tag x = 0
  inn : ∀ j q, Q[j]? = some q → t ≤ j → BkB V q.1 q.2 ∧ tag q.1 = 0 ∧ b ≤ q.1
  nod : (Q.map (·.1)).Nodup
theorem Lr.start {W V : World} {b : Nat} {tag : Nat → Nat} {ol : Option Addr} {kl cl : Nat} {Q : List (Nat × List Nat)} (h : RsB V W.heap.size (.slice ol kl cl) Q) (hb : KB.Book W b tag) : Lr b tag ol kl cl Q 0 V := by
  have hlt := kb_lt hb
  refine ⟨own_lowB h.own (Nat.zero_le _), fun x hx => kb_fresh hb x (h.own.lt x hx).1, fun j q hq _ => ?_, h.nod⟩
  obtain ⟨h1, h2⟩ := h.inn q (List.mem_of_getElem? hq)
  exact ⟨h1, kb_fresh hb _ h2, by omega⟩
theorem Lr.up {V V' : World} {b : Nat} {tag : Nat → Nat} {ol : Option Addr} {kl cl : Nat} {Q : List (Nat × List Nat)} {t : Nat} (h : Lr b tag ol kl cl Q t V) (hb : Below V.heap.size V V') : Lr b tag ol kl cl Q t V' :=
  ⟨own_up h.out hb, h.outt, fun j q hq ht => ⟨(h.inn j q hq ht).1.below hb (blk_lt (h.inn j q hq ht).1), (h.inn j q hq ht).2⟩, h.nod⟩
theorem Lr.cell {V : World} {b : Nat} {tag : Nat → Nat} {ol : Option Addr} {kl cl : Nat} {Q : List (Nat × List Nat)} {t : Nat} (h : Lr b tag ol kl cl Q t V) {q : Nat × List Nat} (hq : Q[t]? = some q) : ∃ gl, ol = some ⟨gl, 0, none⟩ ∧ V.cell? ⟨gl, 0 + t, none⟩ = some (.slice (some ⟨q.1, 0, none⟩) q.2.length q.2.length) := by
  have hi := (List.getElem?_eq_some_iff.1 hq).1
  rcases h.out.2 with ⟨_, h0⟩ | ⟨gl, cap, cur, e, _⟩
  · omega
  · cases e
    have hc := h.out.cellAt t (by omega)
    refine ⟨gl, rfl, ?_⟩
    rw [Nat.zero_add, hc]
    unfold cellsG
    rw [List.getElem?_map, hq]
    rfl
theorem Lr.next {V V' : World} {b : Nat} {tag tag' : Nat → Nat} {ol : Option Addr} {kl cl : Nat} {Q : List (Nat × List Nat)} {t : Nat} {q : Nat × List Nat} (h : Lr b tag ol kl cl Q t V) (hq : Q[t]? = some q) (hf : KB.Fr tag (.slice (some ⟨q.1, 0, none⟩) q.2.length q.2.length) V tag' V') : Lr b tag' ol kl cl Q (t + 1) V' := by
  have hb := (h.inn t q hq (Nat.le_refl _)).1
  have nex : ∀ x, (Value.slice ol kl cl).ownBlock = some x → (Value.slice (some ⟨q.1, 0, none⟩) q.2.length q.2.length).ownBlock ≠ some x := fun x hx e => by
    cases e
    rcases h.out.2 with ⟨e, _⟩ | ⟨gl, cap, cur, e, _, hg, _⟩
    · cases e; cases hx
    · cases e
      cases hx
      unfold BkB at hb
      rw [hg] at hb
      injection hb with hb
      injection hb with _ hb
      exact absurd hb (by decide)
  refine ⟨?_, fun x hx => hf.tg x (h.out.lt x hx).2 (h.outt x hx) (nex x hx), fun j r hr hj => ?_, h.nod⟩
  · refine ⟨h.out.1, ?_⟩
    rcases h.out.2 with q' | ⟨gl, cap, cur, e, h1, hg, h3⟩
    · exact .inl q'
    · have hx : (Value.slice ol kl cl).ownBlock = some gl := by rw [e]; rfl
      exact .inr ⟨gl, cap, cur, e, h1, (hf.block gl (blk_lt hg) (h.outt gl hx) (nex gl hx)).trans hg, h3⟩
  · obtain ⟨h1, h2, h3⟩ := h.inn j r hr (by omega)
    have hne : q.1 ≠ r.1 := by
      have hn := h.nod
      have a1 : (Q.map (·.1))[t]? = some q.1 := by rw [List.getElem?_map, hq]; rfl
      have a2 : (Q.map (·.1))[j]? = some r.1 := by rw [List.getElem?_map, hr]; rfl
      intro e
      rw [e] at a1
      obtain ⟨l1, e1⟩ := List.getElem?_eq_some_iff.1 a1
      obtain ⟨l2, e2⟩ := List.getElem?_eq_some_iff.1 a2
      exact (List.pairwise_iff_getElem.1 hn) t j l1 l2 (by omega) (by rw [e1, e2])
    have nb : (Value.slice (some ⟨q.1, 0, none⟩) q.2.length q.2.length).ownBlock ≠ some r.1 := fun e => hne (Option.some.inj e)
    exact ⟨(hf.block r.1 (blk_lt h1) h2 nb).trans h1, hf.tg r.1 (blk_lt h1) h2 nb, h3⟩
theorem cells_kb (L : List Nat) : KB.cellsI (L.map fun z : Nat => (z : Int)) = cellsB L := by simp [KB.cellsI, cellsB]
end Go.Proofs.Ytcbddkfbpgjknaa
