/- How many bits of a word are set, as the library reckons it: plain arithmetic; nothing of the program. -/
import Derived.Test.YtbbmjfjedonfaaaDoorMath
namespace Go.Proofs.YtbbmjfjedonfaaaDoor

/-- The set bits among the first n. -/
def cnt : Nat → Nat → Nat
  | 0, _ => 0
  | n + 1, x => x % 2 + cnt n (x / 2)
theorem cnt_range (n x : Nat) : ((List.range n).filter (fun i => x.testBit i)).length = cnt n x := by
  induction n generalizing x with
  | zero => rfl
  | succ n ih =>
    rw [List.range_succ_eq_map, List.filter_cons, List.filter_map, cnt, ← ih (x / 2)]
    have e : (fun i => x.testBit i) ∘ Nat.succ = fun i => (x / 2).testBit i := by
      funext i; simp [Nat.testBit_succ]
    rw [e]
    rcases Nat.mod_two_eq_zero_or_one x with h | h
    · rw [if_neg (by simp [Nat.testBit_zero, h])]; simp [h]
    · rw [if_pos (by simp [Nat.testBit_zero, h])]; simp [h]; omega
theorem len_nums (x : Nat) : (nums x).length = cnt 64 x := by
  rw [← cnt_range, nums]
  have e : List.range 64 = (List.finRange 64).map Fin.val := by decide +kernel
  rw [e, List.filter_map, List.length_map]; rfl
theorem cnt_le (n x : Nat) : cnt n x ≤ n := by
  induction n generalizing x with
  | zero => exact Nat.le_refl _
  | succ n ih => have := ih (x / 2); rw [cnt]; omega
theorem cnt_byte (n x : Nat) : cnt (n + 8) x = cnt 8 (x % 256) + cnt n (x / 256) := by
  have e : x / 2 / 2 / 2 / 2 / 2 / 2 / 2 / 2 = x / 256 := by omega
  simp only [cnt, e]
  omega
theorem and_byte (c x m M : Nat) (hc : c < 256) (hm : m < 256) : (c + 256 * x) &&& (m + 256 * M) = (c &&& m) + 256 * (x &&& M) := by
  have h1 : ((c + 256 * x) &&& (m + 256 * M)) % 2 ^ 8 = (c &&& m) := by
    rw [Nat.and_mod_two_pow]
    congr 1
    · show (c + 256 * x) % 256 = c; omega
    · show (m + 256 * M) % 256 = m; omega
  have h2 : ((c + 256 * x) &&& (m + 256 * M)) / 2 ^ 8 = (x &&& M) := by
    rw [Nat.and_div_two_pow]
    congr 1
    · show (c + 256 * x) / 256 = x; omega
    · show (m + 256 * M) / 256 = M; omega
  have := Nat.div_add_mod ((c + 256 * x) &&& (m + 256 * M)) (2 ^ 8)
  rw [h1, h2] at this
  omega
/-- A mask of n bytes, each m. -/
def mask (m : Nat) : Nat → Nat
  | 0 => 0
  | n + 1 => m + 256 * mask m n
def s1 (n x : Nat) : Nat := (x / 2 &&& mask 85 n) + (x &&& mask 85 n)
def s2 (n x : Nat) : Nat := (x / 4 &&& mask 51 n) + (x &&& mask 51 n)
def s3 (n x : Nat) : Nat := (x / 16 + x) &&& mask 15 n
def pack : Nat → Nat → Nat
  | 0, _ => 0
  | n + 1, x => cnt 8 (x % 256) + 256 * pack n (x / 256)

theorem fin1 : ∀ c : Fin 256, ∀ b : Fin 2, (c.val / 2 + 128 * b.val) &&& 85 = c.val / 2 &&& 85 := by decide +kernel
theorem fin2 : ∀ c : Fin 256, ∀ b : Fin 4, (c.val / 4 + 64 * b.val) &&& 51 = c.val / 4 &&& 51 := by decide +kernel
theorem fin3 : ∀ c : Fin 73, ∀ b : Fin 5, (c.val / 16 + c.val + 16 * b.val) &&& 15 = (c.val / 16 + c.val) &&& 15 := by decide +kernel
theorem finB : ∀ c : Fin 256, (c.val / 2 &&& 85) + (c.val &&& 85) < 256 := by decide +kernel
theorem finC : ∀ c : Fin 256, (((c.val / 2 &&& 85) + (c.val &&& 85)) / 4 &&& 51) + ((c.val / 2 &&& 85) + (c.val &&& 85) &&& 51) < 73 ∧
    ((((c.val / 2 &&& 85) + (c.val &&& 85)) / 4 &&& 51) + ((c.val / 2 &&& 85) + (c.val &&& 85) &&& 51)) % 16 < 5 := by decide +kernel
theorem finD : ∀ c : Fin 256, (let y := (c.val / 2 &&& 85) + (c.val &&& 85); let z := (y / 4 &&& 51) + (y &&& 51); (z / 16 + z) &&& 15) = cnt 8 c.val := by decide +kernel

theorem s1_byte (n c x : Nat) (hc : c < 256) : s1 (n + 1) (c + 256 * x) = ((c / 2 &&& 85) + (c &&& 85)) + 256 * s1 n x := by
  have e : (c + 256 * x) / 2 = (c / 2 + 128 * (x % 2)) + 256 * (x / 2) := by omega
  have f := fin1 ⟨c, hc⟩ ⟨x % 2, by omega⟩
  dsimp only at f
  unfold s1
  rw [e, mask, and_byte _ _ _ _ (by omega) (by omega), and_byte _ _ _ _ hc (by omega), f]
  omega
theorem s2_byte (n c x : Nat) (hc : c < 256) : s2 (n + 1) (c + 256 * x) = ((c / 4 &&& 51) + (c &&& 51)) + 256 * s2 n x := by
  have e : (c + 256 * x) / 4 = (c / 4 + 64 * (x % 4)) + 256 * (x / 4) := by omega
  have f := fin2 ⟨c, hc⟩ ⟨x % 4, by omega⟩
  dsimp only at f
  unfold s2
  rw [e, mask, and_byte _ _ _ _ (by omega) (by omega), and_byte _ _ _ _ hc (by omega), f]
  omega
theorem s3_byte (n c x : Nat) (hc : c < 73) (hx : x % 16 < 5) : s3 (n + 1) (c + 256 * x) = ((c / 16 + c) &&& 15) + 256 * s3 n x := by
  have e : (c + 256 * x) / 16 + (c + 256 * x) = (c / 16 + c + 16 * (x % 16)) + 256 * (x / 16 + x) := by omega
  unfold s3
  rw [e, mask, and_byte _ _ _ _ (by omega) (by omega), fin3 ⟨c, hc⟩ ⟨x % 16, hx⟩]
/-- The three steps over n bytes pack each byte's count into that byte. -/
theorem swar (n x : Nat) : s2 n (s1 n x) % 16 < 5 ∧ s3 n (s2 n (s1 n x)) = pack n x := by
  induction n generalizing x with
  | zero => exact ⟨by simp [s2, s1, mask], by simp [s3, pack, mask]⟩
  | succ n ih =>
    obtain ⟨h1, h2⟩ := ih (x / 256)
    have ex : x = x % 256 + 256 * (x / 256) := by omega
    have hc : x % 256 < 256 := by omega
    have b := finB ⟨x % 256, hc⟩
    obtain ⟨c1, c2⟩ := finC ⟨x % 256, hc⟩
    have d := finD ⟨x % 256, hc⟩
    simp only at b c1 c2 d
    rw [pack]
    conv => lhs; rw [ex]
    conv => rhs; lhs; rw [ex]
    rw [s1_byte _ _ _ hc, s2_byte _ _ _ b, s3_byte _ _ _ c1 h1, h2, d]
    exact ⟨by omega, rfl⟩
theorem cnt64 (x : Nat) : cnt 64 x = cnt 8 (x % 256) + (cnt 8 (x / 256 % 256) + (cnt 8 (x / 256 / 256 % 256) + (cnt 8 (x / 256 / 256 / 256 % 256) + (cnt 8 (x / 256 / 256 / 256 / 256 % 256) + (cnt 8 (x / 256 / 256 / 256 / 256 / 256 % 256) + (cnt 8 (x / 256 / 256 / 256 / 256 / 256 / 256 % 256) + cnt 8 (x / 256 / 256 / 256 / 256 / 256 / 256 / 256 % 256))))))) := by
  have a := cnt_byte 56 x
  have b := cnt_byte 48 (x / 256)
  have c := cnt_byte 40 (x / 256 / 256)
  have d := cnt_byte 32 (x / 256 / 256 / 256)
  have e := cnt_byte 24 (x / 256 / 256 / 256 / 256)
  have f := cnt_byte 16 (x / 256 / 256 / 256 / 256 / 256)
  have g := cnt_byte 8 (x / 256 / 256 / 256 / 256 / 256 / 256)
  have h := cnt_byte 0 (x / 256 / 256 / 256 / 256 / 256 / 256 / 256)
  have z : cnt 0 (x / 256 / 256 / 256 / 256 / 256 / 256 / 256 / 256) = 0 := by unfold cnt; rfl
  simp only [Nat.reduceAdd, Nat.zero_add] at a b c d e f g h
  omega
/-- The last steps add the bytes up. -/
theorem pack8 (x : Nat) : pack 8 x = cnt 8 (x % 256) + 256 * (cnt 8 (x / 256 % 256) + 256 * (cnt 8 (x / 256 / 256 % 256) + 256 * (cnt 8 (x / 256 / 256 / 256 % 256) + 256 * (cnt 8 (x / 256 / 256 / 256 / 256 % 256) + 256 * (cnt 8 (x / 256 / 256 / 256 / 256 / 256 % 256) + 256 * (cnt 8 (x / 256 / 256 / 256 / 256 / 256 / 256 % 256) + 256 * (cnt 8 (x / 256 / 256 / 256 / 256 / 256 / 256 / 256 % 256) + 256 * 0))))))) := by
  simp only [pack]
theorem add1 (y a q : Nat) (h : y = a + 256 * q) (ha : a ≤ 8) : y / 256 = q := by omega
theorem add2 (y q1 q2 q3 a0 a1 a2 : Nat) (h : y = a0 + 256 * q1) (h1 : q1 = a1 + 256 * q2) (h2 : q2 = a2 + 256 * q3) (l0 : a0 ≤ 8) (l1 : a1 ≤ 8) (l2 : a2 ≤ 8) :
    (y + q1) / 65536 = q2 + q3 ∧ y + q1 = (a0 + a1) + 256 * (a1 + a2) + 65536 * (q2 + q3) := by
  have e : y + q1 = (a0 + a1) + 256 * (a1 + a2) + 65536 * (q2 + q3) := by omega
  exact ⟨by rw [e]; omega, e⟩
theorem add3 (z p r t s0 s1 t0 t1 v0 v1 : Nat) (h : z = s0 + 256 * s1 + 65536 * p) (hp : p = t0 + 256 * t1 + 65536 * r) (hr : r = v0 + 256 * v1 + 65536 * t)
    (l0 : s0 ≤ 16) (l1 : s1 ≤ 16) (l2 : t0 ≤ 16) (l3 : t1 ≤ 16) (l4 : v0 ≤ 16) (l5 : v1 ≤ 16) : (z + p) / 4294967296 = r + t ∧ (z + p) % 256 = s0 + t0 := by
  have e : p + r = (t0 + v0) + 256 * (t1 + v1) + 65536 * (r + t) := by omega
  have e2 : z + p = (s0 + t0) + 256 * (s1 + t1) + 65536 * (p + r) := by omega
  generalize r + t = rt at *
  generalize p + r = pr at *
  rw [e2]
  exact ⟨by omega, by omega⟩
theorem addm (p q r a b : Nat) (h1 : p = a + 256 * q) (h2 : q = b + 256 * r) (la : a ≤ 8) (lb : b ≤ 8) : (p + q) % 256 = a + b := by
  have e : p + q = (a + b) + 256 * (q + r) := by omega
  rw [e]; omega
theorem fin4 (u r s a b c d : Nat) (hu : u % 256 = a) (hr : r % 256 = b) (hs : s % 256 = c) (hd : a + b + c = d) (l : d ≤ 64) : (u + (r + s)) % 128 = d := by omega
theorem addup (x y : Nat) (hy : y = pack 8 x) : y ≤ 578721382704613384 ∧ (y + y / 256 + (y + y / 256) / 65536 + (y + y / 256 + (y + y / 256) / 65536) / 4294967296) % 128 = cnt 64 x := by
  rw [pack8] at hy
  rw [cnt64]
  have l0 := cnt_le 8 (x % 256)
  have l1 := cnt_le 8 (x / 256 % 256)
  have l2 := cnt_le 8 (x / 256 / 256 % 256)
  have l3 := cnt_le 8 (x / 256 / 256 / 256 % 256)
  have l4 := cnt_le 8 (x / 256 / 256 / 256 / 256 % 256)
  have l5 := cnt_le 8 (x / 256 / 256 / 256 / 256 / 256 % 256)
  have l6 := cnt_le 8 (x / 256 / 256 / 256 / 256 / 256 / 256 % 256)
  have l7 := cnt_le 8 (x / 256 / 256 / 256 / 256 / 256 / 256 / 256 % 256)
  generalize cnt 8 (x % 256) = a0 at *
  generalize cnt 8 (x / 256 % 256) = a1 at *
  generalize cnt 8 (x / 256 / 256 % 256) = a2 at *
  generalize cnt 8 (x / 256 / 256 / 256 % 256) = a3 at *
  generalize cnt 8 (x / 256 / 256 / 256 / 256 % 256) = a4 at *
  generalize cnt 8 (x / 256 / 256 / 256 / 256 / 256 % 256) = a5 at *
  generalize cnt 8 (x / 256 / 256 / 256 / 256 / 256 / 256 % 256) = a6 at *
  generalize cnt 8 (x / 256 / 256 / 256 / 256 / 256 / 256 / 256 % 256) = a7 at *
  obtain ⟨q7, h7⟩ : ∃ q, q = a7 + 256 * 0 := ⟨_, rfl⟩
  rw [← h7] at hy
  obtain ⟨q6, h6⟩ : ∃ q, q = a6 + 256 * q7 := ⟨_, rfl⟩
  rw [← h6] at hy
  obtain ⟨q5, h5⟩ : ∃ q, q = a5 + 256 * q6 := ⟨_, rfl⟩
  rw [← h5] at hy
  obtain ⟨q4, h4⟩ : ∃ q, q = a4 + 256 * q5 := ⟨_, rfl⟩
  rw [← h4] at hy
  obtain ⟨q3, h3⟩ : ∃ q, q = a3 + 256 * q4 := ⟨_, rfl⟩
  rw [← h3] at hy
  obtain ⟨q2, h2⟩ : ∃ q, q = a2 + 256 * q3 := ⟨_, rfl⟩
  rw [← h2] at hy
  obtain ⟨q1, h1⟩ : ∃ q, q = a1 + 256 * q2 := ⟨_, rfl⟩
  rw [← h1] at hy
  have b7 : q7 ≤ 8 := by omega
  have b6 : q6 ≤ 2056 := by omega
  have b5 : q5 ≤ 526344 := by omega
  have b4 : q4 ≤ 134744072 := by omega
  have b3 : q3 ≤ 34494482440 := by omega
  have b2 : q2 ≤ 8830587504648 := by omega
  have b1 : q1 ≤ 2260630401189896 := by omega
  have e1 := add1 y a0 q1 hy l0
  obtain ⟨e2, f2⟩ := add2 y q1 q2 q3 a0 a1 a2 hy h1 h2 l0 l1 l2
  obtain ⟨_, f3⟩ := add2 q2 q3 q4 q5 a2 a3 a4 h2 h3 h4 l2 l3 l4
  obtain ⟨_, f4⟩ := add2 q4 q5 q6 q7 a4 a5 a6 h4 h5 h6 l4 l5 l6
  obtain ⟨g1, g2⟩ := add3 (y + q1) (q2 + q3) (q4 + q5) (q6 + q7) _ _ _ _ _ _ f2 f3 f4 (by omega) (by omega) (by omega) (by omega) (by omega) (by omega)
  have hle : y ≤ 578721382704613384 := by clear h1 h2 h3 h4 h5 h6 h7 e1 e2 f2 f3 f4 g1 g2; omega
  refine ⟨hle, ?_⟩
  rw [e1, e2, g1]
  generalize y + q1 + (q2 + q3) = u at *
  have k1 := addm q4 q5 q6 a4 a5 h4 h5 l4 l5
  have k2 := addm q6 q7 0 a6 a7 h6 h7 l6 l7
  exact fin4 _ _ _ _ _ _ _ g2 k1 k2 (by simp only [Nat.add_assoc]) (by clear hy h1 h2 h3 h4 h5 h6 h7 e1 e2 f2 f3 f4 g1 g2 k1 k2 b1 b2 b3 b4 b5 b6 b7 hle; omega)
end Go.Proofs.YtbbmjfjedonfaaaDoor
