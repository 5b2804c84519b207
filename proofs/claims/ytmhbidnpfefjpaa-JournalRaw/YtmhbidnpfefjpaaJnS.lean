/- records. -/
import Derived.Test.YtmhbidnpfefjpaaJnQ
namespace Go.Proofs.Ytmhbidnpfefjpaa
open Go.RowKit
/-- What records answers. -/
def RsP (W : World) (gj g gb : Nat) (J : Jn) (D : Dk) (o : Option (List (List Nat) × Nat)) (e : Ending) (w' : World) : Prop :=
  Hid (Kp gj gj W w') ∧ ((e = .returned (.tuple #[.slice none 0 0, .bool false]) ∧ Hid (o = none)) ∨ ∃ (oa : Option Addr) (cap : Nat) (G : List (Nat × List Nat)) (p : Nat), e = .returned (.tuple #[.slice oa G.length cap, .bool true]) ∧ Hid (o = some (G.map (·.2), p)) ∧ Hid (p < n1 D) ∧ Hid (Rt W gj g gb J D p (J.c + G.length) (.slice oa G.length cap) G w'))
set_option maxRecDepth 100000 in
set_option maxHeartbeats 4000000 in
theorem recordsJ {W : World} {gj g gb n : Nat} {J : Jn} {D : Dk} (h : JnA W gj g J) (hd : DkA W g gb D) (hk : D.bytes.length = 16 * n) (hn : n ≤ 65536) (hp : D.power = true) (hb : ∀ z ∈ D.bytes, z < 256) (he : J.e < n) (hc : J.c ≤ J.e) :
    Calls Try.prog 58 #[.pointer (some ⟨gj, 0, none⟩)] W (RsP W gj g gb J D (prs D.bytes n n J.e J.c)) := by
  have hn1 : Hid (n1 D = n) := by unfold Hid n1; rw [hk]; omega
  have hR : Hid (Rt W gj g gb J D J.e J.c (.slice none 0 0) [] W) := ⟨h, hd, RsB.nil _ _, Kp.refl _ _ _⟩
  have hlow : Hid (gj < W.heap.size ∧ g < W.heap.size ∧ gb < W.heap.size) := ⟨blk_lt h, blk_lt hd.1, blk_lt hd.2⟩
  have hnd := hide' (h.nd hd)
  have hJ0 : Hid (joinP [] (prs D.bytes n n J.e J.c) = prs D.bytes n n J.e J.c) := by
    unfold Hid joinP
    cases prs D.bytes n n J.e J.c with
    | none => rfl
    | some x => obtain ⟨l, p⟩ := x; simp
  have hb' := hide' hb
  clear h hd hb
  generalize hT : prs D.bytes n n J.e J.c = T at *
  have hT' : Hid (T = joinP [] (prs D.bytes n n J.e J.c)) := by unfold Hid; rw [hT]; exact hJ0.out.symm
  clear hT hJ0
  unfold RsP
  go_enter Try.func58, Try.ntmps58
  go_wp2_with fail
  go_loopw [4, 5, 6, 7] (fun av _ _ _ wr => ∃ (oa : Option Addr) (cap : Nat) (f q : Nat) (G : List (Nat × List Nat)), av = .slice oa G.length cap ∧ n ≤ q + f ∧ q < n ∧ J.c + G.length ≤ q ∧ Hid (T = joinP G (prs D.bytes n f q (J.c + G.length))) ∧ Hid (Rt W gj g gb J D q (J.c + G.length) (.slice oa G.length cap) G wr)) (fun _ _ _ _ w => ((n : Int) - endAt gj w).toNat)
  case atStart => exact ⟨none, 0, n, J.e, [], rfl, by omega, he, by simpa using hc, hT', hR⟩
  case round =>
    clear hR hT'
    obtain ⟨oa, cap, f, q, G, rfl, hf, hq, hcq, hT', hQ⟩ := hrel
    obtain ⟨f, rfl⟩ : ∃ f', f = f' + 1 := ⟨f - 1, by omega⟩
    have zJ := zeroJ
    have c1 := hQ.out.jn.cells.2.1
    have hPl := hide' (blkB_len hk hq)
    have KRd := hide' (readJ hQ.out.jn hQ.out.dk hk hn q hq hp)
    have KRc := hide' (fun V (hV : Rt W gj g gb J D q (J.c + G.length) (.slice oa G.length cap) G V) => recordJ hV.jn hV.dk hk hn hp hb'.out hq (by show J.c + G.length ≤ _; omega))
    unfold RdcP at KRc
    dsimp only at c1 KRc
    have hz0 := hide' (prs_zero (L := D.bytes) (n := n) (f := f) (q := q) (c := J.c + G.length))
    have hz1 := hide' (prs_none (L := D.bytes) (n := n) (f := f) (q := q) (c := J.c + G.length))
    have hz2 := hide' (fun gr r => prs_some (L := D.bytes) (n := n) (f := f) (q := q) (c := J.c + G.length) (gr := gr) (r := r) G)
    have hnx := hide' (fun r => oneR_next (n := n) (q := q) (c := J.c + G.length) (r := r) hk)
    have hend := hide' hQ.out.jn.endAt
    generalize blkB D.bytes q = P at *
    generalize oneR D.bytes n q (J.c + G.length) = O at *
    have haq := arr_eq P z16 hPl.out z16_len
    generalize hgl : G.length = gl at *
    have hgl' := hide' hgl
    clear hgl
    go_wp2_with fail
    refine KRd.out.mono ?_
    rintro e' w5 ⟨rfl, hb5⟩
    have hQ5 := hide' (hQ.out.up hb5)
    have hBn := hide' (bkt_new w5 79 z16)
    have hQ6 := hide' (hQ5.out.up ((Below.refl w5.heap.size w5).alloc (Nat.le_refl _) (.cells (cellsB z16).toArray 79)))
    clear hb5 KRd hQ
    have hgt : Hid (w5.heap.size ≤ w5.heap.size ∧ ∀ w6, Kp w5.heap.size w5.heap.size (w5.alloc (.cells (cellsB z16).toArray 79)) w6 → Below w5.heap.size w5 w6) := ⟨Nat.le_refl _, fun w6 k6 => ((Below.refl _ w5).alloc (Nat.le_refl _) _).trans (k6.below (Nat.le_refl _) (Nat.le_refl _) (by rw [size_alloc]; omega))⟩
    by_cases hPz : P = z16
    · have haq' : ∀ w, (Op.equalIn 10000 79 (.agg (cellsB P).toArray) (.agg (cellsB z16).toArray)).run Try.prog w = .ok true w := fun w => by rw [haq w]; simp [hPz]
      have hT2 := hide' (hT'.out.trans (by rw [hz0.out hPz] : joinP G _ = joinP G (some ([], q))))
      clear haq hPz
      go_wp2_with (first | (refine storeJ rfl (.tmp 5) (.tmp 13) rfl w5.heap.size _ z16 P rfl rfl hBn.out hPl.out rfl ?_; intro w6 h6 k6) | (refine loadJ rfl (.tmp 5) rfl w5.heap.size rfl _ P h6.out hPl.out ?_))
      have hQ7 := hide' (hQ5.out.up (hgt.out.2 w6 k6.out))
      go_ret2
      refine ⟨hQ7.out.kp, .inr ⟨oa, cap, G, q, by rw [hgl'.out]; rfl, ?_, by rw [hn1.out]; exact hq, by rw [hgl'.out]; exact hQ7⟩⟩
      have := hT2.out
      simpa [joinP, Hid] using this
    · have haq' : ∀ w, (Op.equalIn 10000 79 (.agg (cellsB P).toArray) (.agg (cellsB z16).toArray)).run Try.prog w = .ok false w := fun w => by rw [haq w]; simp [hPz]
      have hPz' := hide' hPz
      clear haq hPz
      go_wp2_with (first | (refine storeJ rfl (.tmp 5) (.tmp 13) rfl w5.heap.size _ z16 P rfl rfl hBn.out hPl.out rfl ?_; intro w6 h6 k6) | (refine loadJ rfl (.tmp 5) rfl w5.heap.size rfl _ P h6.out hPl.out ?_))
      have hQ7 := hide' (hQ5.out.up (hgt.out.2 w6 k6.out))
      clear hQ5 hQ6 hBn hgt
      refine (KRc.out w6 hQ7.out).mono ?_
      rintro e' w8 ⟨hb8, ⟨rfl, hO⟩ | ⟨r, gr, rfl, hO, hbr, hgr⟩⟩
      · have hT2 := hide' (hT'.out.trans (by rw [hz1.out hPz'.out hO.out] : joinP G _ = joinP G none))
        have hQ8 := hide' (hQ7.out.up hb8.out)
        go_wp2
        go_ret2
        exact ⟨hQ8.out.kp, .inl ⟨rfl, hT2.out⟩⟩
      · have hT2 := hide' (hT'.out.trans (hz2.out gr r hPz'.out hO.out))
        have hnx2 := hide' (hnx.out r hO.out)
        have hQ8 := hide' (hQ7.out.up hb8.out)
        have hnew : Hid (gr ∉ G.map (·.1)) := by
          intro hm
          obtain ⟨p, hp, e⟩ := List.mem_map.1 hm
          have h1 := blk_lt (hQ7.out.rs.inn p hp).1
          have h2 := hgr.out
          omega
        have hge : Hid (W.heap.size ≤ gr) := Nat.le_trans hQ7.out.kp.size hgr.out
        clear hb8 hz0 hz1 hz2 hnx KRc hT' hO hPz' haq' hgr
        have hrl := hnx2.out.2
        have hlG : Hid (G.length ≤ 1000000) := by unfold Hid; rw [hgl'.out]; omega
        have KPs := hide' (fun V (gl2 : Nat) (v2 : Value) G2 (hV : Rt W gj g gb J D q (J.c + gl) v2 G2 V) => passJ hV.jn (oa := some ⟨gr, 0, none⟩) (m := r.length) (cap := r.length) (by omega) (by show q ≤ _; omega) (by show J.c + gl ≤ _; omega))
        have hsw := hQ8.out.kp.size
        go_wp2_with (at_builtin; refine hQ8.out.rs.app rfl (.tmp 26) (.tmp 28) rfl rfl rfl hQ8.out.kp.size hlG.out gr r hbr.out hge.out hnew.out ?_; intro o9 n9 c9 w9 G9 hG9 hn9 hR9 hb9)
        have hQ9 : Hid (Rt W gj g gb J D q (J.c + gl) (.slice o9 n9 c9) G9 w9) := ⟨hQ8.out.jn.below hb9.out hlow.out.1, ⟨(hb9.out.block g hlow.out.2.1).trans hQ8.out.dk.1, (hb9.out.block gb hlow.out.2.2).trans hQ8.out.dk.2⟩, hR9.out, ⟨hb9.out.os.trans hQ8.out.kp.os, hb9.out.tape.trans hQ8.out.kp.tape, hb9.out.output.trans hQ8.out.kp.output, Nat.le_trans hsw hb9.out.size, fun k hk h1 _ => (hb9.out.block k hk).trans (hQ8.out.kp.block k hk h1 h1)⟩⟩
        refine (KPs.out w9 gl _ _ hQ9.out).mono ?_
        rintro e' w10 ⟨rfl, hj10, hk10⟩
        have hQ10 : Hid (Rt W gj g gb J D (q + 1 + spn r.length) (J.c + gl + 1) (.slice o9 n9 c9) G9 w10) := ⟨hj10, hQ9.out.dk.kp hk10 hnd.out.1.symm hnd.out.1.symm hnd.out.2.symm hnd.out.2.symm, hQ9.out.rs.kp hk10 hlow.out.1 hlow.out.1, hQ9.out.kp.trans hk10⟩
        clear hj10 hk10 hQ9 KPs hb9 hR9 hQ8 hQ7
        have hen := hide' hQ10.out.jn.endAt
        have hl9 : Hid (G9.length = gl + 1) := by unfold Hid; rw [hG9.out, List.length_append, hgl'.out, List.length_singleton]
        go_wp2
        refine ⟨⟨o9, c9, f, q + 1 + spn r.length, G9, by rw [hn9.out], by omega, hnx2.out.1, by rw [hl9.out]; omega, ?_, ?_⟩, ?_⟩
        · rw [hl9.out, ← Nat.add_assoc, hG9.out]; exact hT2
        · rw [hl9.out, ← Nat.add_assoc, ← hl9.out, ← hn9.out]; rw [hn9.out, hl9.out] at hQ10 ⊢; exact hQ10
        · have e1 := hend.out
          have e2 := hen.out
          have := hnx2.out.1
          omega
end Go.Proofs.Ytmhbidnpfefjpaa
