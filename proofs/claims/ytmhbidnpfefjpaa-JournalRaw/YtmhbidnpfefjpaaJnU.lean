/- What stands between the calls of a journal that is kept: plain facts and calls. -/
import Derived.Test.YtmhbidnpfefjpaaJnX
namespace Go.Proofs.Ytmhbidnpfefjpaa
open Go.RowKit
theorem lookR_std {L : List Nat} {n b p : Nat} {K : List (List Nat)} (hL : L.length = 16 * n) (hb : b < 4294967296) (h0 : blkB L 0 = headB b) (h : Std L n K 1 0 p) : lookR L n = some (K, p, b) := by
  have e : n48 (blkB L 0) = b := by rw [h0]; exact n48_head hb
  rw [look_h2 (by rw [h0]; exact head_ne b) (by rw [e]; exact h0), e, h.prs hL (by omega)]
  rfl
def B256 (L : List Nat) : Prop := ∀ z ∈ L, z < 256
theorem B256.splice {L P : List Nat} {o : Nat} (h : B256 L) (hP : B256 P) : B256 (splice L o P) := fun z hz => by
  unfold Go.splice at hz
  rcases List.mem_append.1 hz with h1 | h1
  · exact h z (List.mem_of_mem_take h1)
  · rcases List.mem_append.1 h1 with h2 | h2
    · exact hP z h2
    · exact h z (List.mem_of_mem_drop h2)
theorem b4_256 (n : Nat) : B256 (b4 n) := fun z hz => by
  simp only [b4, List.mem_cons, List.not_mem_nil, or_false] at hz
  omega
theorem b8_256 (n : Nat) : B256 (b8 n) := fun z hz => by
  simp only [b8, List.mem_cons, List.not_mem_nil, or_false] at hz
  omega
theorem head_256 (b : Nat) : B256 (headB b) := fun z hz => by
  unfold headB at hz
  simp only [List.mem_cons, List.mem_append, List.not_mem_nil, or_false] at hz
  rcases hz with rfl | rfl | rfl | rfl | h | h
  · omega
  · omega
  · omega
  · omega
  · exact b4_256 b z h
  · omega
theorem title_256 (n c : Nat) : B256 (titleB n c) := fun z hz => by
  unfold titleB at hz
  simp only [List.mem_cons, List.mem_append] at hz
  rcases hz with rfl | rfl | rfl | rfl | h | h
  · omega
  · omega
  · omega
  · omega
  · exact b4_256 n z h
  · exact b8_256 c z h
theorem z_256 : B256 z16 := fun z hz => by
  simp only [z16, List.mem_cons, List.not_mem_nil, or_false] at hz
  omega
theorem piece_256 {R : List Nat} (h : B256 R) (i : Nat) : B256 (pieceB R i) := z_256.splice fun z hz => h z (List.mem_of_mem_drop (List.mem_of_mem_take hz))
theorem wrs_256 : ∀ {D : Dk} {ws : List (Nat × List Nat)}, B256 D.bytes → (∀ p ∈ ws, B256 p.2) → B256 (wrs D ws).bytes
  | D, [], h, _ => h
  | D, (b, P) :: t, h, hw => by
    unfold wrs
    split
    · exact wrs_256 (D := wrD D b P) (B256.splice h (hw (b, P) (List.mem_cons_self ..))) fun p hp => hw p (List.mem_cons_of_mem _ hp)
    · exact h
theorem layW_256 {p c : Nat} {R : List Nat} (h : B256 R) : ∀ x ∈ layW p c R, B256 x.2 := fun x hx => by
  unfold layW at hx
  rcases List.mem_append.1 hx with h1 | h1
  · unfold pcW at h1
    obtain ⟨j, _, e⟩ := List.mem_map.1 h1
    subst e
    exact piece_256 h j
  · simp only [List.mem_cons, List.not_mem_nil, or_false] at h1
    rcases h1 with rfl | rfl
    · exact z_256
    · exact title_256 _ _
theorem ap_256 {n : Nat} {D : Dk} {J : Jn} {R : List Nat} (h : B256 D.bytes) (hR : B256 R) : B256 (apD n D J R).bytes := by
  unfold apD
  split
  · exact h
  · exact h
  · exact wrs_256 h (layW_256 hR)
  · exact wrs_256 h (layW_256 hR)
theorem ap_ok {n : Nat} {D : Dk} {J : Jn} {R : List Nat} (h : DkO D n) (hR : R.length ≤ 131072) (hw : D.writes ≤ 900000000000) : DkO (apD n D J R) n ∧ (apD n D J R).writes ≤ D.writes + spn R.length + 2 ∧ D.writes ≤ (apD n D J R).writes := by
  have hs : spn R.length ≤ 8192 := by unfold spn; omega
  unfold apD
  cases hk : apK n D J R with
  | down => exact ⟨h, by show D.writes ≤ _; omega, Int.le_refl _⟩
  | full => exact ⟨h, by show D.writes ≤ _; omega, Int.le_refl _⟩
  | cut =>
    have hlt : J.e + 1 + spn R.length < n := by
      unfold apK at hk
      split at hk
      · cases hk
      · split at hk
        · cases hk
        · omega
    have := wrs_ok (ws := layW J.e J.c R) h (layW_fit hlt) (by rw [layW_len]; omega)
    rw [layW_len] at this
    exact ⟨this.1, by have := this.2.2; show (wrs D (layW J.e J.c R)).writes ≤ _; omega, this.2.1⟩
  | done =>
    have hlt : J.e + 1 + spn R.length < n := by
      unfold apK at hk
      split at hk
      · cases hk
      · split at hk
        · cases hk
        · omega
    have := wrs_ok (ws := layW J.e J.c R) h (layW_fit hlt) (by rw [layW_len]; omega)
    rw [layW_len] at this
    exact ⟨this.1, by have := this.2.2; show (wrs D (layW J.e J.c R)).writes ≤ _; omega, this.2.1⟩
/-- A journal with these records on its disk, opened. -/
structure Kz (w : World) (g gb n gj : Nat) (D : Dk) (J : Jn) (K : List (List Nat)) (i : Nat) (V : World) : Prop where
  dk : DkA V g gb D
  ok : DkO D n
  n2 : 2 ≤ n
  jn : JnA V gj g J
  std : Std D.bytes n K 1 0 J.e
  cnt : J.c = K.length
  hd : ∃ b, b < 4294967296 ∧ blkB D.bytes 0 = headB b
  byt : B256 D.bytes
  be : Below w.heap.size w V
  geg : w.heap.size ≤ g
  geb : w.heap.size ≤ gb
  gej : w.heap.size ≤ gj
  wr : D.writes ≤ 10000 * ((i : Int) + 1)
section
variable {w : World} {g gb n gj : Nat} {D : Dk} {J : Jn} {K : List (List Nat)} {i : Nat} {V V' : World}
theorem Kz.up (h : Kz w g gb n gj D J K i V) (hb : Below V.heap.size V V') : Kz w g gb n gj D J K i V' :=
  ⟨h.dk.below hb (Nat.le_refl _), h.ok, h.n2, h.jn.below hb (blk_lt h.jn), h.std, h.cnt, h.hd, h.byt, h.be.trans (hb.mono h.be.size), h.geg, h.geb, h.gej, h.wr⟩
/-- Blocks of rows that lie above the disk may be written. -/
theorem Kz.upB {B : Nat} (h : Kz w g gb n gj D J K i V) (hb : Below B V V') (h1 : g < B) (h2 : gb < B) (h3 : gj < B) (h4 : w.heap.size ≤ B) : Kz w g gb n gj D J K i V' :=
  ⟨⟨(hb.block g h1).trans h.dk.1, (hb.block gb h2).trans h.dk.2⟩, h.ok, h.n2, h.jn.below hb h3, h.std, h.cnt, h.hd, h.byt, h.be.trans (hb.mono h4), h.geg, h.geb, h.gej, h.wr⟩
theorem Kz.upS {B : Nat} (h : Kz w g gb n gj D J K i V) (hb : Below B V V') (hs : KpS V V') (h4 : w.heap.size ≤ B) : Kz w g gb n gj D J K i V' := by
  have k1 := hs g (blk_lt h.dk.1) (fun cs e => by
    rw [h.dk.1] at e
    injection e with e
    injection e with _ e
    exact absurd e (by decide))
  have k2 := hs gb (blk_lt h.dk.2) (fun cs e => by
    have h2 := h.dk.2
    unfold BkB at h2
    rw [h2] at e
    injection e with e
    injection e with _ e
    exact absurd e (by decide))
  have k3 := hs gj (blk_lt h.jn) (fun cs e => by
    have h2 := h.jn
    unfold JnA at h2
    rw [h2] at e
    injection e with e
    injection e with _ e
    exact absurd e (by decide))
  exact ⟨⟨k1.trans h.dk.1, k2.trans h.dk.2⟩, h.ok, h.n2, k3.trans h.jn, h.std, h.cnt, h.hd, h.byt, h.be.trans (hb.mono h4), h.geg, h.geb, h.gej, h.wr⟩
theorem Kz.next (h : Kz w g gb n gj D J K i V) : Kz w g gb n gj D J K (i + 1) V :=
  ⟨h.dk, h.ok, h.n2, h.jn, h.std, h.cnt, h.hd, h.byt, h.be, h.geg, h.geb, h.gej, by have := h.wr; omega⟩
theorem Kz.le (h : Kz w g gb n gj D J K i V) : J.e < n ∧ n ≤ 65536 ∧ J.c ≤ J.e := by
  have h1 := h.std.le
  have h2 := h.ok.most
  have h3 := h.cnt
  exact ⟨h1.2.1, h2, by omega⟩
/-- What Append answers. -/
def KaP (w : World) (g gb n gj : Nat) (J : Jn) (K : List (List Nat)) (R : List Nat) (i : Nat) (V : World) (e : Ending) (w' : World) : Prop :=
  ∃ (r : Int) (D' : Dk) (J' : Jn), e = .returned (.int .i64 r) ∧ Hid (Kj g gb gj V w') ∧ Hid ((r = 0 ∧ J.dn = false ∧ J'.dn = false ∧ Kz w g gb n gj D' J' (K ++ [R]) (i + 1) w') ∨ (r = 50 ∧ J'.dn = true ∧ Kz w g gb n gj D' J' K (i + 1) w') ∨ (r = 51 ∧ J.dn = false ∧ J'.dn = false ∧ Kz w g gb n gj D' J' K (i + 1) w'))
theorem Kz.app {v : Value} {R : List Nat} (h : Kz w g gb n gj D J K i V) (hv : RowC V v R) (hvn : ∀ x o n c, v = .slice (some ⟨x, o, none⟩) n c → x ≠ g ∧ x ≠ gb) (hR : R.length ≤ 700) (hRb : B256 R) (hi : i ≤ 1000) :
    Calls Try.prog 19 #[.pointer (some ⟨gj, 0, none⟩), v] V (KaP w g gb n gj J K R i V) := by
  have hle := h.le
  have hwr := h.wr
  refine (appendJ h.jn h.dk h.ok hv hvn (by omega) (by omega) (by omega) (by omega)).mono ?_
  rintro e w' ⟨r, rfl, hr, hd, hj, hk⟩
  refine ⟨r, apD n D J R, apJ n D J R, rfl, hk, ?_⟩
  have hst := std_append (R := R) h.ok.len h.std h.cnt (by omega)
  have hok := ap_ok (J := J) (R := R) h.ok (by omega) (by omega)
  have hs : spn R.length ≤ 100 := by unfold spn; omega
  have key : Kz w g gb n gj (apD n D J R) (apJ n D J R) (apL n D J R K) (i + 1) w' := by
    refine ⟨hd.out, hok.1, h.n2, hj.out, hst.1, hst.2.1, ?_, ap_256 h.byt hRb, h.be.trans (hk.out.below h.geg h.geb h.gej h.be.size), h.geg, h.geb, h.gej, by have := hok.2.1; omega⟩
    obtain ⟨b, h1, h2⟩ := h.hd
    exact ⟨b, h1, hst.2.2.trans h2⟩
  have hr' := hr.out
  unfold apE at hr'
  cases hkk : apK n D J R with
  | down =>
    rw [hkk] at hr'
    refine .inr (.inl ⟨hr', ?_, ?_⟩)
    · unfold apJ; rw [hkk]
    · unfold apL at key; rw [hkk] at key; exact key
  | full =>
    rw [hkk] at hr'
    have hdn : J.dn = false := by
      unfold apK at hkk
      split at hkk
      · cases hkk
      · next q => simp at q; simpa using q.1
    refine .inr (.inr ⟨hr', hdn, ?_, ?_⟩)
    · unfold apJ; rw [hkk]; exact hdn
    · unfold apL at key; rw [hkk] at key; exact key
  | cut =>
    rw [hkk] at hr'
    refine .inr (.inl ⟨hr', ?_, ?_⟩)
    · unfold apJ; rw [hkk]
    · unfold apL at key; rw [hkk] at key; exact key
  | done =>
    rw [hkk] at hr'
    have hdn : J.dn = false := by
      unfold apK at hkk
      split at hkk
      · cases hkk
      · next q => simp at q; simpa using q.1
    refine .inl ⟨hr', hdn, ?_, ?_⟩
    · unfold apJ; rw [hkk]; exact hdn
    · unfold apL at key; rw [hkk] at key; exact key
theorem fuD_ok {f : Int} (h : DkO D n) (h1 : f < 9223372036854775808) : DkO (fuD D f) n ∧ (fuD D f).bytes = D.bytes ∧ (fuD D f).writes = D.writes := by
  unfold fuD
  split
  · refine ⟨⟨h.len, h.pos, h.most, h.wr0, h.wr1, by show -1 ≤ max f (-1); omega, by show max f (-1) < _; omega, ?_⟩, rfl, rfl⟩
    show decide (f ≠ 0) = decide (max f (-1) ≠ 0)
    simp only [decide_eq_decide]
    omega
  · exact ⟨h, rfl, rfl⟩
theorem reD_ok (h : DkO D n) : DkO (reD D) n ∧ (reD D).bytes = D.bytes ∧ (reD D).writes = D.writes :=
  ⟨⟨h.len, h.pos, h.most, h.wr0, h.wr1, by simp [reD], by simp [reD], by simp [reD]⟩, rfl, rfl⟩
theorem Kz.disk {D' : Dk} (h : Kz w g gb n gj D J K i V) (hd : DkA V' g gb D') (hk : Kp g gb V V') (ho : DkO D' n) (hb : D'.bytes = D.bytes) (hw : D'.writes = D.writes) : Kz w g gb n gj D' J K i V' := by
  have hn := h.jn.nd h.dk
  refine ⟨hd, ho, h.n2, h.jn.kp hk hn.1 hn.2, by rw [hb]; exact h.std, h.cnt, by rw [hb]; exact h.hd, by rw [hb]; exact h.byt, h.be.trans (hk.below h.geg h.geb h.be.size), h.geg, h.geb, h.gej, by rw [hw]; exact h.wr⟩
theorem Kz.fuse (h : Kz w g gb n gj D J K i V) (f : Int) (h1 : f < 9223372036854775808) : Calls Try.prog 20 #[.pointer (some ⟨g, 0, none⟩), .int .i64 f] V fun e w' => e = .returned (.tuple #[]) ∧ Hid (Kz w g gb n gj (fuD D f) J K i w') ∧ Hid (Kp g gb V w') := by
  refine (fuseF h.dk f).mono ?_
  rintro e w' ⟨rfl, hd, hk⟩
  obtain ⟨a, b, c⟩ := fuD_ok h.ok h1
  exact ⟨rfl, h.disk hd.out hk.out a b c, hk⟩
theorem Kz.restart (h : Kz w g gb n gj D J K i V) : Calls Try.prog 21 #[.pointer (some ⟨g, 0, none⟩)] V fun e w' => e = .returned (.tuple #[]) ∧ Hid (Kz w g gb n gj (reD D) J K i w') ∧ Hid (Kp g gb V w') := by
  refine (restartF h.dk).mono ?_
  rintro e w' ⟨rfl, hd, hk⟩
  obtain ⟨a, b, c⟩ := reD_ok h.ok
  exact ⟨rfl, h.disk hd.out hk.out a b c, hk⟩
/-- What Open answers. -/
def KoP (w : World) (g gb n : Nat) (K : List (List Nat)) (i : Nat) (V : World) (e : Ending) (w' : World) : Prop :=
  ∃ (gj : Nat) (oa : Option Addr) (cap kl : Nat) (D' : Dk) (J' : Jn) (G : List (Nat × List Nat)), e = .returned (.tuple #[.pointer (some ⟨gj, 0, none⟩), .slice oa kl cap, .int .i64 0]) ∧ Hid (kl = K.length ∧ G.map (·.2) = K ∧ V.heap.size ≤ gj ∧ J'.dn = false) ∧ Hid (Kz w g gb n gj D' J' K (i + 1) w') ∧ Hid (RsB w' V.heap.size (.slice oa kl cap) G) ∧ Hid (Kp g gb V w')
theorem Kz.open (h : Kz w g gb n gj D J K i V) (hp : D.power = true) (hi : i ≤ 1000) : Calls Try.prog 15 #[.pointer (some ⟨g, 0, none⟩)] V (KoP w g gb n K i V) := by
  have hwr := h.wr
  obtain ⟨b, hb, h0⟩ := h.hd
  have hlk := lookR_std h.ok.len hb h0 h.std
  refine (openJ h.dk h.ok h.n2 hp h.byt (by omega)).mono ?_
  rintro e w' (⟨rfl, hn, _⟩ | ⟨gj', oa, cap, G, p, b', rfl, hO, hpn, hj, hd, hr, hgj, hk⟩)
  · have := hn.out
    rw [hlk] at this
    cases this
  · have hO' := hO.out
    rw [hlk] at hO'
    simp only [Option.some.injEq, Prod.mk.injEq] at hO'
    obtain ⟨hG, rfl, rfl⟩ := hO'
    have hl : G.length = K.length := by rw [hG, List.length_map]
    have hn2 := h.n2
    refine ⟨gj', oa, cap, G.length, _, _, G, rfl, ⟨hl, hG.symm, hgj.out, rfl⟩, ⟨hd.out, wrD_ok h.ok (by omega) (headB_len _) (by omega), h.n2, hj.out, ?_, hl, ⟨bt1 b, Nat.mod_lt _ (by decide), ?_⟩, B256.splice h.byt (head_256 _), h.be.trans (hk.out.below h.geg h.geb h.be.size), h.geg, h.geb, Nat.le_trans h.be.size hgj.out, ?_⟩, hr, hk⟩
    · refine h.std.ext fun j h1 _ => ?_
      rw [wrD_blk h.ok.len (by omega) (headB_len _), if_neg (by omega)]
    · rw [wrD_blk h.ok.len (by omega) (headB_len _), if_pos rfl]
    · show D.writes + 1 ≤ _
      omega
theorem Kz.openDown (h : Kz w g gb n gj D J K i V) (hp : D.power = false) : Calls Try.prog 15 #[.pointer (some ⟨g, 0, none⟩)] V fun e w' => e = .returned (.tuple #[.pointer none, .slice none 0 0, .int .i64 50]) ∧ w' = V :=
  Go.Proofs.Ytmhbidnpfefjpaa.openDown h.dk h.ok.len h.n2 h.ok.most hp
end
theorem new_blk (n i : Nat) (hi : i < n) : blkB (newD n).bytes i = z16 := by
  unfold newD blkB
  show ((List.replicate (16 * n) 0).drop (16 * i)).take 16 = z16
  rw [List.drop_replicate, List.take_replicate, show min 16 (16 * n - 16 * i) = 16 by omega]
  rfl
theorem new_look {n : Nat} (hn : 2 ≤ n) : lookR (newD n).bytes n = some ([], 1, 0) := look_z1 (new_blk n 0 (by omega)) (new_blk n 1 (by omega))
/-- A new disk is opened. -/
theorem kz_open {w V : World} {g gb n : Nat} (hd : DkA V g gb (newD n)) (hn : 2 ≤ n) (h6 : n ≤ 65536) (hbe : Below w.heap.size w V) (hg : w.heap.size ≤ g) (hgb : w.heap.size ≤ gb) : Calls Try.prog 15 #[.pointer (some ⟨g, 0, none⟩)] V (KoP w g gb n [] 0 V) := by
  have hok := newD_ok (n := n) (by omega) h6
  refine (openJ hd hok hn rfl (newD_256 n) (by simp [newD])).mono ?_
  rintro e w' (⟨rfl, hn', _⟩ | ⟨gj', oa, cap, G, p, b', rfl, hO, hpn, hj, hdd, hr, hgj, hk⟩)
  · have := hn'.out
    rw [new_look hn] at this
    cases this
  · have hO' := hO.out
    rw [new_look hn] at hO'
    simp only [Option.some.injEq, Prod.mk.injEq] at hO'
    obtain ⟨hG, rfl, rfl⟩ := hO'
    have hl : G.length = 0 := by rw [← List.length_map, ← hG]; rfl
    refine ⟨gj', oa, cap, G.length, _, _, G, rfl, ⟨hl, hG.symm, hgj.out, rfl⟩, ⟨hdd.out, wrD_ok hok (by omega) (headB_len _) (by simp [newD]), hn, hj.out, ?_, hl, ⟨bt1 0, Nat.mod_lt _ (by decide), ?_⟩, B256.splice (newD_256 n) (head_256 _), hbe.trans (hk.out.below hg hgb hbe.size), hg, hgb, Nat.le_trans hbe.size hgj.out, ?_⟩, hr, hk⟩
    · refine ⟨rfl, ?_, by omega⟩
      rw [wrD_blk hok.len (by omega) (headB_len _), if_neg (by omega)]
      exact new_blk n 1 (by omega)
    · rw [wrD_blk hok.len (by omega) (headB_len _), if_pos rfl]
    · show (0 : Int) + 1 ≤ _
      omega
end Go.Proofs.Ytmhbidnpfefjpaa
