/- look. -/
import Derived.Test.YtmhbidnpfefjpaaJnS
namespace Go.Proofs.Ytmhbidnpfefjpaa
open Go.RowKit
theorem RsB.low {W : World} {B B' : Nat} {v : Value} {G : List (Nat × List Nat)} (h : RsB W B v G) (hB : B' ≤ B) : RsB W B' v G := by
  refine ⟨⟨h.own.1, ?_⟩, fun p hp => ⟨(h.inn p hp).1, Nat.le_trans hB (h.inn p hp).2⟩, h.nod⟩
  rcases h.own.2 with q | ⟨g, cap, cur, e, h1, h3⟩
  · exact .inl q
  · exact .inr ⟨g, cap, cur, e, Nat.le_trans hB h1, h3⟩
/-- What look answers. -/
def LkP (W : World) (gj g gb n : Nat) (D : Dk) (o : Option (List (List Nat) × Nat × Nat)) (e : Ending) (w' : World) : Prop :=
  Hid (Kp gj gj W w') ∧ ((e = .returned (.tuple #[.slice none 0 0, .bool false]) ∧ Hid (o = none)) ∨ ∃ (oa : Option Addr) (cap : Nat) (G : List (Nat × List Nat)) (p b : Nat), e = .returned (.tuple #[.slice oa G.length cap, .bool true]) ∧ Hid (o = some (G.map (·.2), p, b)) ∧ Hid (p < n ∧ b < 4294967296) ∧ Hid (Rt W gj g gb ⟨0, 0, b, false⟩ D p G.length (.slice oa G.length cap) G w'))
theorem look_z1 {L : List Nat} {n : Nat} (h : blkB L 0 = z16) (h1 : blkB L 1 = z16) : lookR L n = some ([], 1, 0) := by
  unfold lookR
  rw [if_pos h, if_pos h1]
theorem look_z2 {L : List Nat} {n : Nat} (h : blkB L 0 = z16) (h1 : blkB L 1 ≠ z16) : lookR L n = none := by
  unfold lookR
  rw [if_pos h, if_neg h1]
theorem look_h1 {L : List Nat} {n : Nat} (h : blkB L 0 ≠ z16) (h1 : blkB L 0 ≠ headB (n48 (blkB L 0))) : lookR L n = none := by
  unfold lookR
  rw [if_neg h, if_neg h1]
def lkJ (o : Option (List (List Nat) × Nat)) (b : Nat) : Option (List (List Nat) × Nat × Nat) := match o with
  | none => none
  | some x => some (x.1, x.2, b)
theorem look_h2 {L : List Nat} {n : Nat} (h : blkB L 0 ≠ z16) (h1 : blkB L 0 = headB (n48 (blkB L 0))) : lookR L n = lkJ (prs L n n 1 0) (n48 (blkB L 0)) := by
  unfold lookR
  rw [if_neg h, if_pos h1]
  cases prs L n n 1 0 with
  | none => rfl
  | some x => rfl
set_option maxRecDepth 100000 in
set_option maxHeartbeats 4000000 in
theorem lookJ {W : World} {gj g gb n : Nat} {D : Dk} (h : JnA W gj g ⟨1, 0, 0, false⟩) (hd : DkA W g gb D) (hk : D.bytes.length = 16 * n) (hn2 : 2 ≤ n) (hn : n ≤ 65536) (hp : D.power = true) (hb : ∀ z ∈ D.bytes, z < 256) :
    Calls Try.prog 37 #[.pointer (some ⟨gj, 0, none⟩)] W (LkP W gj g gb n D (lookR D.bytes n)) := by
  have zJ := zeroJ
  have hlow : Hid (gj < W.heap.size ∧ g < W.heap.size ∧ gb < W.heap.size) := ⟨blk_lt h, blk_lt hd.1, blk_lt hd.2⟩
  have hnd := hide' (h.nd hd)
  have h' := hide' h
  have hd' := hide' hd
  have KR0 := hide' (readJ h hd hk hn 0 (by omega) hp)
  rw [show ((0 : Nat) : Int) = 0 from rfl] at KR0
  have hPl := hide' (blkB_len (b := 0) hk (by omega))
  have hQl := hide' (blkB_len (b := 1) hk (by omega))
  have hPb : Hid (∀ z ∈ blkB D.bytes 0, z < 256) := fun z hz => hb z (List.mem_of_mem_drop (List.mem_of_mem_take hz))
  have hb' := hide' hb
  have z1 := hide' (look_z1 (L := D.bytes) (n := n))
  have z2 := hide' (look_z2 (L := D.bytes) (n := n))
  have z3 := hide' (look_h1 (L := D.bytes) (n := n))
  have z4 := hide' (look_h2 (L := D.bytes) (n := n))
  have KR1 := hide' (fun V (h1 : JnA V gj g ⟨1, 0, 0, false⟩) (h2 : DkA V g gb D) => readJ h1 h2 hk hn 1 (by omega) hp)
  rw [show ((1 : Nat) : Int) = 1 from rfl] at KR1
  have KRs := hide' (fun V b (h1 : JnA V gj g ⟨1, 0, b, false⟩) (h2 : DkA V g gb D) => recordsJ h1 h2 hk hn hp hb (by show 1 < n; omega) (by show 0 ≤ 1; omega))
  unfold RsP at KRs
  dsimp only at KRs
  have hn1 : Hid (n1 D = n) := by unfold Hid n1; rw [hk]; omega
  clear h hd hb
  generalize lookR D.bytes n = O at *
  generalize blkB D.bytes 0 = P at *
  generalize blkB D.bytes 1 = Q at *
  generalize prs D.bytes n n 1 0 = T at *
  unfold LkP
  have haq := arr_eq P z16 hPl.out z16_len
  go_enter Try.func37, Try.ntmps37
  go_wp2_with fail
  refine KR0.out.mono ?_
  rintro e' w5 ⟨rfl, hb5⟩
  have hb5' := hide' hb5
  have hBn := hide' (bkt_new w5 79 z16)
  have hgt : Hid (∀ w6, Kp w5.heap.size w5.heap.size (w5.alloc (.cells (cellsB z16).toArray 79)) w6 → Below w5.heap.size w5 w6) := fun w6 k6 => ((Below.refl _ w5).alloc (Nat.le_refl _) _).trans (k6.below (Nat.le_refl _) (Nat.le_refl _) (by rw [size_alloc]; omega))
  clear hb5 KR0
  by_cases hPz : P = z16
  · have haq' : ∀ w, (Op.equalIn 10000 79 (.agg (cellsB P).toArray) (.agg (cellsB z16).toArray)).run Try.prog w = .ok true w := fun w => by rw [haq w]; simp [hPz]
    have hPz' := hide' hPz
    clear haq hPz
    go_wp2_with (first | (refine storeJ rfl (.tmp 4) (.tmp 6) rfl w5.heap.size _ z16 P rfl rfl hBn.out hPl.out rfl ?_; intro w6 h6 k6) | (refine loadJ rfl (.tmp 4) rfl w5.heap.size rfl _ P h6.out hPl.out ?_))
    have hb6 : Hid (Below W.heap.size W w6.drew) := (hb5'.out.trans ((hgt.out w6 k6.out).mono hb5'.out.size)).drew
    have hj6 := hide' (h'.out.below hb6.out hlow.out.1)
    have hd6 := hide' (hd'.out.below hb6.out (Nat.le_refl _))
    have KR2 := hide' (KR1.out w6.drew hj6.out hd6.out)
    have haq2 := arr_eq Q z16 hQl.out z16_len
    clear KR1 haq'
    by_cases hQz : Q = z16
    · have haq' : ∀ w, (Op.equalIn 10000 79 (.agg (cellsB Q).toArray) (.agg (cellsB z16).toArray)).run Try.prog w = .ok true w := fun w => by rw [haq2 w]; simp [hQz]
      have hO := hide' (z1.out hPz'.out hQz)
      clear haq2 hQz
      go_region_held3 (fun _ => True) (first | trivial) (first | (go_at_call 56; refine KR2.out.mono ?_; rintro e' w8 ⟨rfl, hb8⟩))
      have hb9 : Hid (Below W.heap.size W w8) := hb6.out.trans (hb8.mono hb6.out.size)
      go_wp2
      go_ret2
      exact ⟨Kp.of_below hb9.out, .inr ⟨none, 0, [], 1, 0, rfl, hO, ⟨by omega, by omega⟩, ⟨h'.out.below hb9.out hlow.out.1, hd'.out.below hb9.out (Nat.le_refl _), RsB.nil _ _, Kp.of_below hb9.out⟩⟩⟩
    · have haq' : ∀ w, (Op.equalIn 10000 79 (.agg (cellsB Q).toArray) (.agg (cellsB z16).toArray)).run Try.prog w = .ok false w := fun w => by rw [haq2 w]; simp [hQz]
      have hO := hide' (z2.out hPz'.out hQz)
      clear haq2 hQz
      go_region_held3 (fun _ => True) (first | trivial) (first | (go_at_call 56; refine KR2.out.mono ?_; rintro e' w8 ⟨rfl, hb8⟩))
      have hb9 : Hid (Below W.heap.size W w8) := hb6.out.trans (hb8.mono hb6.out.size)
      go_wp2
      go_ret2
      exact ⟨Kp.of_below hb9.out, .inl ⟨rfl, hO⟩⟩
  · have haq' : ∀ w, (Op.equalIn 10000 79 (.agg (cellsB P).toArray) (.agg (cellsB z16).toArray)).run Try.prog w = .ok false w := fun w => by rw [haq w]; simp [hPz]
    have hPz' := hide' hPz
    have hm32 := n48_lt hPb.out hPl.out
    clear haq hPz
    go_wp2_with (first | (refine storeJ rfl (.tmp 4) (.tmp 6) rfl w5.heap.size _ z16 P rfl rfl hBn.out hPl.out rfl ?_; intro w6 h6 k6) | (refine loadJ rfl (.tmp 4) rfl w5.heap.size rfl _ P h6.out hPl.out ?_))
    have hb6 : Hid (Below W.heap.size W w6) := hb5'.out.trans ((hgt.out w6 k6.out).mono hb5'.out.size)
    have KN := hide' (numberF (h6.out.row (o := 4) (n := 4) (cap := 12) (M := (P.drop 4).take 4) (fun i z hz => by
      rw [List.getElem?_take] at hz
      split at hz
      · rw [List.getElem?_drop] at hz; exact hz
      · cases hz) (by rw [List.length_take, List.length_drop, hPl.out]; rfl) (by omega)) (fun z hz => hPb.out z (List.mem_of_mem_drop (List.mem_of_mem_take hz))) (by rw [List.length_take]; omega))
    rw [show numB ((P.drop 4).take 4) = n48 P from rfl] at KN
    have hgx := hide' (Nat.lt_of_lt_of_le hlow.out.1 hb5'.out.size)
    clear KR1 haq' hBn hgt k6
    generalize w5.heap.size = gx at *
    generalize hmm : n48 P = m at *
    clear hmm
    refine KN.out.mono ?_
    rintro e' w7 ⟨rfl, hw7⟩
    obtain rfl : w6 = w7 := hw7.symm
    have hj6 := hide' (h'.out.below hb6.out hlow.out.1)
    have hd6 := hide' (hd'.out.below hb6.out (Nat.le_refl _))
    obtain ⟨c0, c1, c2, c3, c4⟩ := hj6.out.cells
    have f6 := hj6.out.free
    have hj7 := hide' (hj6.out.set3 m)
    have hk7 : Hid (Kp gj gj w6 (w6.setCell ⟨gj, 3, none⟩ (.int .u32 (m : Int)))) := (Kp.refl _ _ _).set _ _
    have hw1 : IntKind.u32.wrap (m : Int) = (m : Int) := by
      unfold IntKind.wrap
      simp [IntKind.bits, IntKind.signed]
      omega
    go_wp2_with fail
    generalize w6.setCell ⟨gj, 3, none⟩ (.int .u32 (m : Int)) = W7 at *
    have h7 := hide' (h6.out.kp hk7.out (by have := hgx.out; omega) (by have := hgx.out; omega))
    have hd7 := hide' (hd6.out.kp hk7.out hnd.out.1.symm hnd.out.1.symm hnd.out.2.symm hnd.out.2.symm)
    clear c0 c1 c2 c3 c4 f6 hj6 hd6 h6
    have hrg0 : W7.drew.rangeAt gx 0 (cellsB P) := BkT.range (show BkT W7.drew 79 gx P from h7.out)
    have c3 : W7.drew.cell? ⟨gj, 3, none⟩ = some (.int .u32 (m : Int)) := hj7.out.cells.2.2.2.1
    have hup := hide' (fun V (hV : Below W7.drew.heap.size W7.drew V) => (BkT.below (show BkT W7.drew 79 gx P from h7.out) hV (blk_lt h7.out)).range)
    have hup2 := hide' (fun V (hV : Below W7.drew.heap.size W7.drew V) => (JnA.below (show JnA W7.drew gj g ⟨1, 0, m, false⟩ from hj7.out) hV (blk_lt hj7.out)).cells.2.2.2.1)
    have hU := Try.underlying79
    have hI : (Try.prog.info? 79).map (·.size) = some (cellsB P).length := by rw [cellsB_len, hPl.out]; exact blockS
    have KH := hide' (headF m W7.drew hm32)
    have haq := arr_eq P (headB m) hPl.out (headB_len _)
    generalize headB m = HH at *
    have hKW : Hid (Kp gj gj W W7) := (Kp.of_below hb6.out).trans hk7.out
    by_cases hPH : P = HH
    · have haq' : ∀ w, (Op.equalIn 10000 79 (.agg (cellsB P).toArray) (.agg (cellsB HH).toArray)).run Try.prog w = .ok true w := fun w => by rw [haq w]; simp [hPH]
      have hO := hide' (z4.out hPz'.out hPH)
      clear haq hPH
      go_region_held3 (fun V => V.rangeAt gx 0 (cellsB P) ∧ V.cell? ⟨gj, 3, none⟩ = some (.int .u32 (m : Int))) (first | (exact ⟨hrg0, c3⟩) | (exact ⟨hup.out _ hb8, hup2.out _ hb8⟩)) (first | (go_at_call 39; refine KH.out.mono ?_; rintro e' w8 ⟨rfl, hb8⟩))
      have hb8' : Hid (Below W7.heap.size W7 w8) := (Below.refl _ W7).drew.trans hb8
      have hj8 := hide' (hj7.out.below hb8'.out (blk_lt hj7.out))
      have hd8 := hide' (hd7.out.below hb8'.out (Nat.le_refl _))
      have KR3 := hide' (KRs.out w8 m hj8.out hd8.out)
      have hK8 : Hid (Kp gj gj W w8) := hKW.out.trans (Kp.of_below hb8'.out)
      clear hb8 hup hup2 hrg0 c3 KH haq' KRs
      go_wp2_with fail
      refine KR3.out.mono ?_
      rintro e' w9 ⟨hk9, ⟨rfl, hT⟩ | ⟨oa, cap, G, p, rfl, hT, hpn, hR⟩⟩
      · go_wp2
        go_ret2
        refine ⟨hK8.out.trans hk9.out, .inl ⟨rfl, ?_⟩⟩
        show O = none
        rw [hO.out, hT.out]
        rfl
      · go_wp2
        go_ret2
        refine ⟨hK8.out.trans hk9.out, .inr ⟨oa, cap, G, p, m, rfl, ?_, ⟨by have := hpn.out; rw [hn1.out] at this; exact this, hm32⟩, ?_⟩⟩
        · show O = _
          rw [hO.out, hT.out]
          rfl
        · have hR' := hR.out
          rw [Nat.zero_add] at hR'
          exact ⟨hR'.jn, hR'.dk, hR'.rs.low hK8.out.size, hK8.out.trans hk9.out⟩
    · have haq' : ∀ w, (Op.equalIn 10000 79 (.agg (cellsB P).toArray) (.agg (cellsB HH).toArray)).run Try.prog w = .ok false w := fun w => by rw [haq w]; simp [hPH]
      have hO := hide' (z3.out hPz'.out hPH)
      clear haq hPH
      go_region_held3 (fun V => V.rangeAt gx 0 (cellsB P) ∧ V.cell? ⟨gj, 3, none⟩ = some (.int .u32 (m : Int))) (first | (exact ⟨hrg0, c3⟩) | (exact ⟨hup.out _ hb8, hup2.out _ hb8⟩)) (first | (go_at_call 39; refine KH.out.mono ?_; rintro e' w8 ⟨rfl, hb8⟩))
      have hb8' : Hid (Below W7.heap.size W7 w8) := (Below.refl _ W7).drew.trans hb8
      go_wp2
      go_ret2
      exact ⟨hKW.out.trans (Kp.of_below hb8'.out), .inl ⟨rfl, hO⟩⟩
end Go.Proofs.Ytmhbidnpfefjpaa
