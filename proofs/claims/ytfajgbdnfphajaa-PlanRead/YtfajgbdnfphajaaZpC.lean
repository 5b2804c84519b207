/- A certificate's bytes: plain; what stands while they are written. -/
import Derived.Test.YtfajgbdnfphajaaZpB
namespace Go.Proofs.Ytfajgbdnfphajaa.S
open Go.RowKit Go.Shelf
/-- A step's bytes, a rule's, all. -/
def stB (P : Pb) (L : List Int) (t : Nat) : List Nat := be 8 (P.who.getD t 0) ++ be 1 (P.fixed.getD t 0 + 1).toNat ++ be 1 (L.getD t 0).toNat
def stsB (P : Pb) (L : List Int) (j : Nat) : List Nat := (List.range j).flatMap (stB P L)
def spB (S : List Int) : List Nat := S.flatMap fun s => be 1 s.toNat
def ruB (r : Rl) : List Nat := be 1 r.kind.toNat ++ be 4 r.k.toNat ++ be 1 r.steps.length ++ spB r.steps
def rusB (R : List Rl) : List Nat := R.flatMap ruB
def hdB (P : Pb) : List Nat := be 2 20547 ++ be 1 P.users.toNat ++ be 1 P.who.length
def certL (P : Pb) (L : List Int) : List Nat := hdB P ++ stsB P L P.who.length ++ be 1 P.rules.length ++ rusB P.rules
theorem stB_at {P : Pb} {L : List Int} {t z : Nat} {y x : Int} (hz : P.who[t]? = some z) (hy : P.fixed[t]? = some y) (hx : L[t]? = some x) : stB P L t = be 8 z ++ be 1 (y + 1).toNat ++ be 1 x.toNat := by
  unfold stB
  simp [List.getD_eq_getElem?_getD, hz, hy, hx]
theorem stsB_succ (P : Pb) (L : List Int) (j : Nat) : stsB P L (j + 1) = stsB P L j ++ stB P L j := by
  unfold stsB
  rw [List.range_succ]
  simp
theorem stsB_len (P : Pb) (L : List Int) (j : Nat) : (stsB P L j).length = 10 * j := by
  induction j with
  | zero => rfl
  | succ j ih => rw [stsB_succ, List.length_append, ih]; simp [stB, be_len]; omega
theorem hdB_len (P : Pb) : (hdB P).length = 4 := by simp [hdB, be_len]
theorem spB_len (S : List Int) : (spB S).length = S.length := by
  induction S with
  | nil => rfl
  | cons a l ih => simp [spB, be_len] at ih ⊢; omega
theorem ruB_len (r : Rl) : (ruB r).length = 6 + r.steps.length := by simp [ruB, be_len, spB_len]; omega
theorem rusB_le {R : List Rl} (h : ∀ r ∈ R, r.steps.length ≤ 1000) : (rusB R).length ≤ 1006 * R.length := by
  induction R with
  | nil => exact Nat.le_refl _
  | cons a l ih =>
    have h1 := ih fun r hr => h r (List.mem_cons_of_mem _ hr)
    have h2 := h a (List.mem_cons_self ..)
    have h3 := ruB_len a
    simp [rusB] at h1 ⊢
    omega
theorem rusB_take {R : List Rl} {j : Nat} {r : Rl} (h : R[j]? = some r) : rusB (R.take (j + 1)) = rusB (R.take j) ++ ruB r := by
  rw [List.take_add_one, h]; simp [rusB]
theorem spB_take {S : List Int} {j : Nat} {s : Int} (h : S[j]? = some s) : spB (S.take (j + 1)) = spB (S.take j) ++ be 1 s.toNat := by
  rw [List.take_add_one, h]; simp [spB]
/-- A rule's numbers are small. -/
theorem rule_small {n : Int} {r : Rl} (h : chk n r = true) : 0 ≤ r.kind ∧ r.kind ≤ 5 ∧ 0 ≤ r.k ∧ r.k ≤ 999999999 ∧ (∀ s ∈ r.steps, 0 ≤ s ∧ s < 12) ∧ r.steps.length ≤ 12 := by
  unfold chk at h
  simp only [Bool.and_eq_true, decide_eq_true_eq] at h
  obtain ⟨⟨⟨h0, h1⟩, h2⟩, h3⟩ := h
  have hm := ris_mem h2
  have hl := ris_len h2 h0
  have hl2 : r.steps.length ≤ 12 := by omega
  have hs : ∀ s ∈ r.steps, 0 ≤ s ∧ s < 12 := fun s hs => by have := hm s hs; omega
  unfold numF at h3
  split at h3
  · simp only [Bool.and_eq_true, decide_eq_true_eq] at h3
    exact ⟨by omega, by omega, by omega, by omega, hs, hl2⟩
  · split at h3
    · simp only [Bool.and_eq_true, decide_eq_true_eq] at h3
      exact ⟨by omega, by omega, by omega, by omega, hs, hl2⟩
    · split at h3
      · simp only [Bool.and_eq_true, decide_eq_true_eq] at h3
        exact ⟨by omega, by omega, by omega, by omega, hs, hl2⟩
      · cases h3
/-- What stands while a certificate is written. -/
structure Ce (w : World) (P : Pb) (wv fv rv : Value) (W : World) (v : Value) (L : List Nat) : Prop where
  own : W.ownsRow (w.heap.size + 1) 5 1 v L.length (cellsB L)
  be : Below w.heap.size w W
  pb : PbB W w.heap.size P wv fv rv
section
variable {w W W' : World} {P : Pb} {wv fv rv v v' : Value} {L L' : List Nat}
theorem Ce.put (h : Ce w P wv fv rv W v L) (ho : W'.ownsRow (w.heap.size + 1) 5 1 v' L'.length (cellsB L')) (hb : Below (w.heap.size + 1) W W') : Ce w P wv fv rv W' v' L' :=
  ⟨ho, h.be.trans (hb.mono (Nat.le_succ _)), (hb.block _ (Nat.lt_succ_self _)).trans h.pb⟩
theorem Ce.sz (h : Ce w P wv fv rv W v L) : w.heap.size + 1 ≤ W.heap.size := (Array.getElem?_eq_some_iff.1 h.pb).1
theorem Ce.over (h : Ce w P wv fv rv W v L) (hb : Below W.heap.size W W') : Ce w P wv fv rv W' v L :=
  ⟨own_lowB h.own hb, h.be.trans (hb.mono h.be.size), h.pb.below hb⟩
theorem Ce.shp (h : Ce w P wv fv rv W v L) : ∃ oa n cap, v = .slice oa n cap := by obtain ⟨a, c, e⟩ := own_shp h.own; exact ⟨a, _, c, e⟩
/-- A number put down. -/
theorem Ce.putI (h : Ce w P wv fv rv W v L) (wd : Nat) (wi x : Int) (hwi : wi = (wd : Int)) (hw : wd ≤ 8) (hl : L.length ≤ 100000) (h0 : 0 ≤ x) (h1 : x < 9223372036854775808) :
    Calls Try.prog 37 #[v, .int .i64 wi, .int .i64 x] W fun e w' => ∃ oa n cap, e = .returned (.slice oa n cap) ∧ Hid (Ce w P wv fv rv w' (.slice oa n cap) (L ++ S.be wd x.toNat)) ∧ Hid (FzB W w') := by
  subst hwi
  obtain ⟨n, rfl⟩ : ∃ n : Nat, x = (n : Int) := ⟨x.toNat, by omega⟩
  refine (S.putI (w.heap.size + 1) v L wd n W h.own h.sz hw hl (by omega)).mono ?_
  rintro e w' ⟨v', rfl, ho, hb, hf⟩
  rw [Int.toNat_natCast]
  obtain ⟨a, b, c, rfl⟩ := (h.put ho.out hb.out).shp
  exact ⟨a, b, c, rfl, h.put ho.out hb.out, hf⟩
theorem Ce.putU (h : Ce w P wv fv rv W v L) (wd n : Nat) (wi : Int) (hwi : wi = (wd : Int)) (hw : wd ≤ 8) (hl : L.length ≤ 100000) (h1 : n < 18446744073709551616) :
    Calls Try.prog 36 #[v, .int .i64 wi, .int .u64 (n : Int)] W fun e w' => ∃ oa n' cap, e = .returned (.slice oa n' cap) ∧ Hid (Ce w P wv fv rv w' (.slice oa n' cap) (L ++ S.be wd n)) ∧ Hid (FzB W w') := by
  subst hwi
  refine (S.putU (w.heap.size + 1) v L wd n W h.own h.sz hw hl h1).mono ?_
  rintro e w' ⟨v', rfl, ho, hb, hf⟩
  obtain ⟨a, b, c, rfl⟩ := (h.put ho.out hb.out).shp
  exact ⟨a, b, c, rfl, h.put ho.out hb.out, hf⟩
end
theorem Ce.start (w : World) (P : Pb) (wv fv rv : Value) : Ce w P wv fv rv (w.alloc (.cells #[.int .i64 P.users, wv, fv, rv] 27)) (.slice none 0 0) [] :=
  ⟨World.ownsRow_nil _ _ _ _, (Below.refl _ w).alloc (Nat.le_refl _) _, heap_new w _⟩
end Go.Proofs.Ytfajgbdnfphajaa.S
