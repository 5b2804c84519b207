/- Writes without a fuse, and with one: plain; Append and Open told so. -/
import Derived.Test.YtmhbidnpfefjpaaJnY
namespace Go.Proofs.Ytmhbidnpfefjpaa
open Go.RowKit
theorem wrs_free {n : Nat} : ∀ {D : Dk} {ws : List (Nat × List Nat)}, D.fuse = -1 → D.power = true → wrsOk D ws = true ∧ (wrs D ws).fuse = -1 ∧ (wrs D ws).power = true ∧ (wrs D ws).writes = D.writes + ws.length
  | D, [], h1, h2 => ⟨rfl, h1, h2, by simp [wrs]⟩
  | D, (b, P) :: t, h1, h2 => by
    have f1 : (wrD D b P).fuse = -1 := by show max (D.fuse - 1) (-1) = -1; omega
    have f2 : (wrD D b P).power = true := by show decide (D.fuse - 1 ≠ 0) = true; rw [h1]; rfl
    obtain ⟨a, c, d, e⟩ := wrs_free (n := n) (ws := t) f1 f2
    unfold wrsOk wrs
    rw [h2, if_pos rfl, Bool.true_and]
    refine ⟨a, c, d, ?_⟩
    rw [e]
    show D.writes + 1 + (t.length : Int) = _
    simp only [List.length_cons]
    omega
theorem wrs_fuse : ∀ {D : Dk} {ws : List (Nat × List Nat)} {k : Nat}, D.fuse = (k : Int) → D.power = decide (k ≠ 0) → wrsOk D ws = decide (ws.length ≤ k) ∧ (wrs D ws).writes = D.writes + (min k ws.length : Nat)
  | D, [], k, h1, h2 => ⟨by simp [wrsOk], by simp [wrs]⟩
  | D, (b, P) :: t, 0, h1, h2 => by
    have hp : D.power = false := by rw [h2]; rfl
    unfold wrsOk wrs
    rw [hp]
    exact ⟨by simp, by simp⟩
  | D, (b, P) :: t, k + 1, h1, h2 => by
    have hp : D.power = true := by rw [h2]; simp
    have f1 : (wrD D b P).fuse = (k : Int) := by show max (D.fuse - 1) (-1) = _; omega
    have f2 : (wrD D b P).power = decide (k ≠ 0) := by
      show decide (D.fuse - 1 ≠ 0) = _
      rw [h1]
      simp only [decide_eq_decide]
      omega
    obtain ⟨a, e⟩ := wrs_fuse (ws := t) f1 f2
    unfold wrsOk wrs
    rw [hp, if_pos rfl, Bool.true_and, a, e]
    refine ⟨by simp, ?_⟩
    show D.writes + 1 + ((min k t.length : Nat) : Int) = _
    simp only [List.length_cons]
    omega
theorem ap_go {n : Nat} {D : Dk} {J : Jn} {R : List Nat} (h1 : J.dn = false) (h2 : D.power = true) (h3 : J.e + 1 + spn R.length < n) : apK n D J R = if wrsOk D (layW J.e J.c R) = true then .done else .cut := by
  unfold apK
  rw [if_neg (by simp [h1, h2]), if_neg (by omega)]
/-- A disk without a fuse. -/
structure Fre (D : Dk) : Prop where
  fu : D.fuse = -1
  pw : D.power = true
theorem ap_free {n : Nat} {D : Dk} {J : Jn} {R : List Nat} (hf : Fre D) (h1 : J.dn = false) (h3 : J.e + 1 + spn R.length < n) : apK n D J R = .done ∧ Fre (apD n D J R) := by
  obtain ⟨a, b, c, _⟩ := wrs_free (n := n) (ws := layW J.e J.c R) hf.fu hf.pw
  have hk : apK n D J R = .done := by rw [ap_go h1 hf.pw h3, if_pos a]
  refine ⟨hk, ?_⟩
  unfold apD
  rw [hk]
  exact ⟨b, c⟩
/-- With a fuse of k writes: done if it lasts, cut if not; how many were written. -/
theorem ap_fuse {n k : Nat} {D : Dk} {J : Jn} {R : List Nat} (hf : Fre D) (h1 : J.dn = false) (h3 : J.e + 1 + spn R.length < n) :
    (spn R.length + 2 ≤ k → apK n (fuD D (k : Int)) J R = .done) ∧ (k < spn R.length + 2 → apE n (fuD D (k : Int)) J R = 50 ∧ apL n (fuD D (k : Int)) J R = fun K => K) ∧ (apD n (fuD D (k : Int)) J R).writes = D.writes + (min k (spn R.length + 2) : Nat) := by
  have e : fuD D (k : Int) = { D with power := decide ((k : Int) ≠ 0), fuse := max (k : Int) (-1) } := by unfold fuD; rw [if_pos hf.pw]
  have f1 : (fuD D (k : Int)).fuse = (k : Int) := by rw [e]; show max (k : Int) (-1) = _; omega
  have f2 : (fuD D (k : Int)).power = decide (k ≠ 0) := by rw [e]; show decide ((k : Int) ≠ 0) = _; simp
  have f3 : (fuD D (k : Int)).writes = D.writes := by rw [e]
  obtain ⟨a, b⟩ := wrs_fuse (ws := layW J.e J.c R) f1 f2
  rw [layW_len] at a b
  by_cases hk : k = 0
  · subst hk
    have hp : (fuD D ((0 : Nat) : Int)).power = false := by rw [f2]; rfl
    have hd : apK n (fuD D ((0 : Nat) : Int)) J R = .down := by unfold apK; rw [if_pos (.inr hp)]
    refine ⟨fun h => by omega, fun _ => ⟨?_, ?_⟩, ?_⟩
    · unfold apE; rw [hd]
    · funext K; unfold apL; rw [hd]
    · unfold apD; rw [hd, f3]; simp
  · have hp : (fuD D (k : Int)).power = true := by rw [f2]; simp [hk]
    have hgo := ap_go (R := R) h1 hp h3
    by_cases hle : spn R.length + 2 ≤ k
    · have hd : apK n (fuD D (k : Int)) J R = .done := by rw [hgo, a, if_pos (by simpa using hle)]
      refine ⟨fun _ => hd, fun h => by omega, ?_⟩
      unfold apD; rw [hd]
      show (wrs (fuD D (k : Int)) (layW J.e J.c R)).writes = _
      rw [b, f3]
    · have hd : apK n (fuD D (k : Int)) J R = .cut := by rw [hgo, a, if_neg (by simpa using hle)]
      refine ⟨fun h => absurd h hle, fun _ => ⟨?_, ?_⟩, ?_⟩
      · unfold apE; rw [hd]
      · funext K; unfold apL; rw [hd]
      · unfold apD; rw [hd]
        show (wrs (fuD D (k : Int)) (layW J.e J.c R)).writes = _
        rw [b, f3]
section
variable {w : World} {g gb n gj : Nat} {D : Dk} {J : Jn} {K : List (List Nat)} {i : Nat} {V V' : World}
/-- Append, told in full. -/
theorem Kz.app2 {v : Value} {R : List Nat} (h : Kz w g gb n gj D J K i V) (hv : RowC V v R) (hvn : ∀ x o n c, v = .slice (some ⟨x, o, none⟩) n c → x ≠ g ∧ x ≠ gb) (hR : R.length ≤ 700) (hRb : B256 R) (hi : i ≤ 1000) :
    Calls Try.prog 19 #[.pointer (some ⟨gj, 0, none⟩), v] V fun e w' => ∃ r : Int, e = .returned (.int .i64 r) ∧ Hid (r = apE n D J R) ∧ Hid (Kz w g gb n gj (apD n D J R) (apJ n D J R) (apL n D J R K) (i + 1) w') ∧ Hid (Kj g gb gj V w') := by
  have hle := h.le
  have hwr := h.wr
  refine (appendJ h.jn h.dk h.ok hv hvn (by omega) (by omega) (by omega) (by omega)).mono ?_
  rintro e w' ⟨r, rfl, hr, hd, hj, hk⟩
  refine ⟨r, rfl, hr, ?_, hk⟩
  have hst := std_append (R := R) h.ok.len h.std h.cnt (by omega)
  have hok := ap_ok (J := J) (R := R) h.ok (by omega) (by omega)
  have hs : spn R.length ≤ 100 := by unfold spn; omega
  refine ⟨hd.out, hok.1, h.n2, hj.out, hst.1, hst.2.1, ?_, ap_256 h.byt hRb, h.be.trans (hk.out.below h.geg h.geb h.gej h.be.size), h.geg, h.geb, h.gej, by have := hok.2.1; omega⟩
  obtain ⟨b, h1, h2⟩ := h.hd
  exact ⟨b, h1, hst.2.2.trans h2⟩
/-- A record more, where nothing stands against it. -/
theorem Kz.appF {v : Value} {R : List Nat} (h : Kz w g gb n gj D J K i V) (hf : Fre D) (hdn : J.dn = false) (hro : J.e + 1 + spn R.length < n) (hv : RowC V v R) (hvn : ∀ x o n c, v = .slice (some ⟨x, o, none⟩) n c → x ≠ g ∧ x ≠ gb) (hR : R.length ≤ 700) (hRb : B256 R) (hi : i ≤ 1000) :
    Calls Try.prog 19 #[.pointer (some ⟨gj, 0, none⟩), v] V fun e w' => e = .returned (.int .i64 0) ∧ ∃ (D' : Dk) (J' : Jn), Hid (Kz w g gb n gj D' J' (K ++ [R]) (i + 1) w') ∧ Hid (Fre D') ∧ Hid (J'.dn = false ∧ J'.e = J.e + 1 + spn R.length) ∧ Hid (Kj g gb gj V w') := by
  obtain ⟨hk, hf'⟩ := ap_free hf hdn hro
  refine (h.app2 hv hvn hR hRb hi).mono ?_
  rintro e w' ⟨r, rfl, hr, hz, hkj⟩
  have hr' := hr.out
  unfold apE at hr'
  rw [hk] at hr'
  refine ⟨by rw [hr'], apD n D J R, apJ n D J R, ?_, hf', ?_, hkj⟩
  · have := hz.out
    unfold apL at this
    rw [hk] at this
    exact this
  · unfold Hid apJ
    rw [hk]
    exact ⟨hdn, rfl⟩
/-- What Open answers, told in full. -/
def KoF (w : World) (g gb n : Nat) (D : Dk) (e0 : Nat) (K : List (List Nat)) (i : Nat) (V : World) (e : Ending) (w' : World) : Prop :=
  ∃ (gj : Nat) (oa : Option Addr) (cap kl : Nat) (D' : Dk) (J' : Jn) (G : List (Nat × List Nat)), e = .returned (.tuple #[.pointer (some ⟨gj, 0, none⟩), .slice oa kl cap, .int .i64 0]) ∧ Hid (kl = K.length ∧ G.map (·.2) = K ∧ V.heap.size ≤ gj) ∧ Hid (Kz w g gb n gj D' J' K (i + 1) w') ∧ Hid (RsB w' V.heap.size (.slice oa kl cap) G) ∧ Hid (Kp g gb V w') ∧ Hid (J'.dn = false ∧ J'.e = e0 ∧ D'.writes = D.writes + 1 ∧ (Fre D → Fre D'))
theorem Kz.open2 (h : Kz w g gb n gj D J K i V) (hp : D.power = true) (hi : i ≤ 1000) : Calls Try.prog 15 #[.pointer (some ⟨g, 0, none⟩)] V (KoF w g gb n D J.e K i V) := by
  have hwr := h.wr
  obtain ⟨b, hb, h0⟩ := h.hd
  have hlk := lookR_std h.ok.len hb h0 h.std
  refine (openJ h.dk h.ok h.n2 hp h.byt (by omega)).mono ?_
  rintro e w' (⟨rfl, hn, _⟩ | ⟨gj', oa, cap, G, p, b', rfl, hO, hpn, hj, hd, hr, hgj, hk⟩)
  · have := hn.out
    rw [hlk] at this
    cases this
  · have hO' := hO.out
    rw [hlk] at hO'
    simp only [Option.some.injEq, Prod.mk.injEq] at hO'
    obtain ⟨hG, rfl, rfl⟩ := hO'
    have hl : G.length = K.length := by rw [hG, List.length_map]
    have hn2 := h.n2
    refine ⟨gj', oa, cap, G.length, _, _, G, rfl, ⟨hl, hG.symm, hgj.out⟩, ⟨hd.out, wrD_ok h.ok (by omega) (headB_len _) (by omega), h.n2, hj.out, ?_, hl, ⟨bt1 b, Nat.mod_lt _ (by decide), ?_⟩, B256.splice h.byt (head_256 _), h.be.trans (hk.out.below h.geg h.geb h.be.size), h.geg, h.geb, Nat.le_trans h.be.size hgj.out, ?_⟩, hr, hk, rfl, rfl, rfl, fun hf => ⟨?_, ?_⟩⟩
    · refine h.std.ext fun j h1 _ => ?_
      rw [wrD_blk h.ok.len (by omega) (headB_len _), if_neg (by omega)]
    · rw [wrD_blk h.ok.len (by omega) (headB_len _), if_pos rfl]
    · show D.writes + 1 ≤ _
      omega
    · show max (D.fuse - 1) (-1) = -1
      have := hf.fu
      omega
    · show decide (D.fuse - 1 ≠ 0) = true
      rw [hf.fu]
      rfl
end
/-- A new disk is opened, told in full. -/
theorem kz_open2 {w V : World} {g gb n : Nat} (hd : DkA V g gb (newD n)) (hn : 2 ≤ n) (h6 : n ≤ 65536) (hbe : Below w.heap.size w V) (hg : w.heap.size ≤ g) (hgb : w.heap.size ≤ gb) : Calls Try.prog 15 #[.pointer (some ⟨g, 0, none⟩)] V (KoF w g gb n (newD n) 1 [] 0 V) := by
  have hok := newD_ok (n := n) (by omega) h6
  refine (openJ hd hok hn rfl (newD_256 n) (by simp [newD])).mono ?_
  rintro e w' (⟨rfl, hn', _⟩ | ⟨gj', oa, cap, G, p, b', rfl, hO, hpn, hj, hdd, hr, hgj, hk⟩)
  · have := hn'.out
    rw [new_look hn] at this
    cases this
  · have hO' := hO.out
    rw [new_look hn] at hO'
    simp only [Option.some.injEq, Prod.mk.injEq] at hO'
    obtain ⟨hG, rfl, rfl⟩ := hO'
    have hl : G.length = 0 := by rw [← List.length_map, ← hG]; rfl
    refine ⟨gj', oa, cap, G.length, _, _, G, rfl, ⟨hl, hG.symm, hgj.out⟩, ⟨hdd.out, wrD_ok hok (by omega) (headB_len _) (by simp [newD]), hn, hj.out, ?_, hl, ⟨bt1 0, Nat.mod_lt _ (by decide), ?_⟩, B256.splice (newD_256 n) (head_256 _), hbe.trans (hk.out.below hg hgb hbe.size), hg, hgb, Nat.le_trans hbe.size hgj.out, ?_⟩, hr, hk, rfl, rfl, rfl, fun _ => ⟨rfl, rfl⟩⟩
    · refine ⟨rfl, ?_, by omega⟩
      rw [wrD_blk hok.len (by omega) (headB_len _), if_neg (by omega)]
      exact new_blk n 1 (by omega)
    · rw [wrD_blk hok.len (by omega) (headB_len _), if_pos rfl]
    · show (0 : Int) + 1 ≤ _
      omega
theorem newD_free (n : Nat) : Fre (newD n) := ⟨rfl, rfl⟩
end Go.Proofs.Ytmhbidnpfefjpaa
