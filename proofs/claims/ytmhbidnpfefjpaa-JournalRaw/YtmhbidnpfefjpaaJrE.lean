/- JournalExact, walked. -/
import Derived.Test.YtmhbidnpfefjpaaJrV
namespace Go.Proofs.Ytmhbidnpfefjpaa
open Go.RowKit
theorem rowC_nil (W : World) : RowC W (.slice none 0 0) [] := ⟨none, 0, rfl, ⟨Nat.le_refl _, fun _ => rfl⟩, fun i z h => by cases h⟩
set_option maxRecDepth 100000 in
set_option maxHeartbeats 8000000 in
theorem journalExact_walk (O : List Oj) (ov : Value) (f : Int) (w : World) (hr : RowP w ov O) (hf1 : -9223372036854775808 ≤ f) (hf2 : f < 9223372036854775808) : Calls Try.prog 3 #[.int .i64 f, ov] w fun e w' => e = .returned (.bool true) ∧ Below w.heap.size w w' := by
  have hO := hide' hr
  obtain ⟨oa, cap, rfl, _, _⟩ := hr
  generalize hm : O.length = m at *
  have hm' := hide' hm
  clear hm
  have K := hide' (disksF f w hf1 hf2)
  unfold DsP at K
  clear hf1 hf2
  go_enter Try.func3, Try.ntmps3
  go_wp2_with fail
  refine K.out.mono ?_
  rintro e w1 ⟨n, g, gb, r, rb, rc, rfl, hn, hd, hrk, hge, hb⟩
  have K1 := hide' (wakesJ w1)
  go_wp2_with (go_at_call 9; refine K1.out.mono ?_; rintro e w2 ⟨rfl, hw2⟩; have hw2' := hide' hw2; clear hw2)
  have hn1 := hn.out.1
  have hn2 := hn.out.2
  have hok := newD_ok (n := n) hn1 (by omega)
  have hal : Below w2.heap.size w2 (w2.alloc (.cells #[.pointer (some ⟨g, 0, none⟩), .pointer (some ⟨r, 0, none⟩), .pointer none, .pointer none] 32)) := (Below.refl _ _).alloc (Nat.le_refl _) _
  have hbal := hide' (hb.out.trans ((hw2'.out.mono hb.out.size).trans (hal.mono (Nat.le_trans hb.out.size hw2'.out.size))))
  have hS : Hid (SbA (w2.alloc (.cells #[.pointer (some ⟨g, 0, none⟩), .pointer (some ⟨r, 0, none⟩), .pointer none, .pointer none] 32)) w2.heap.size g r (.pointer none) (.pointer none)) := heap_new _ _
  have hK : Hid (Sk w.heap.size g gb r rb rc n (newD n) none (w2.alloc (.cells #[.pointer (some ⟨g, 0, none⟩), .pointer (some ⟨r, 0, none⟩), .pointer none, .pointer none] 32))) := ⟨(hd.out.below hw2'.out (Nat.le_refl _)).below hal (Nat.le_refl _), (hrk.out.up hw2'.out).up hal, hok, by (intro z hz; simp [newD] at hz; omega), by have := hge.out; omega, by have := hge.out; omega, fun x hx => by cases hx⟩
  have hBs : Hid (w.heap.size ≤ w2.heap.size) := Nat.le_trans hb.out.size hw2'.out.size
  have KO := hide' (opensF hK.out hS.out ⟨hBs.out, hbal.out.size⟩ (by show (0 : Int) < _; decide))
  have hop := hide' (opD_ok hok hK.out.by256 (by show (0 : Int) < _; decide))
  clear hd hrk hge hb K K1 hal hS hK hn1 hn2 hok
  generalize w2.alloc (.cells #[.pointer (some ⟨g, 0, none⟩), .pointer (some ⟨r, 0, none⟩), .pointer none, .pointer none] 32) = w3 at *
  generalize w2.heap.size = s at *
  refine KO.out.mono ?_
  rintro e w4 ⟨rfl, O0, hk4, hs4, hb4⟩
  have hQ : Hid (Sp w.heap.size s g gb r rb rc n (opD (newD n) n) O0 w4) := ⟨hk4.out, hs4.out, hBs.out, Nat.le_trans hbal.out.size hb4.out.size⟩
  have hB : Hid (Below w.heap.size w w4) := hbal.out.trans hb4.out
  have hw0 : Hid ((opD (newD n) n).writes ≤ 1) := hop.out.2.2
  clear KO hk4 hs4 hb4 hbal hop hw2'
  generalize opD (newD n) n = D0 at *
  go_upto_block 0 with fail
  go_wp2_with fail
  go_loopw [8] (fun iv wr => ∃ (i : Nat) (D : Dk) (O' : Option (Nat × Nat × Jn)), iv = .int .i64 (i : Int) ∧ i ≤ 150 ∧ Hid (Sp w.heap.size s g gb r rb rc n D O' wr) ∧ Hid (D.writes ≤ 1 + 100 * i) ∧ Hid (Below w.heap.size w wr)) (fun iv _ => ((150 : Int) - intOf iv).toNat)
  case atStart => exact ⟨0, D0, O0, rfl, by omega, hQ, by have := hw0.out; show D0.writes ≤ _; omega, hB⟩
  case round =>
    clear hQ hB hw0
    obtain ⟨i, D, O', rfl, hi, hQ, hw, hB⟩ := hrel
    have hw' := hw.out
    by_cases hlt : i < m ∧ i < 150
    · have hlt1 : (i : Int) < (m : Int) := by omega
      have hlt2 : (i : Int) < 150 := by omega
      obtain ⟨p, hp⟩ : ∃ p, O[i]? = some p := ⟨_, List.getElem?_eq_getElem (by rw [hm'.out]; omega)⟩
      obtain ⟨go, oo, dv, rfl, hcs, hrow, hdb, hpn⟩ := hO.out.at hp
      obtain ⟨c0, c1, c2⟩ := hcs.out wr hB.out
      clear hp
      have KP := hide' (playsF hQ.out (by omega) p hpn dv (fun V hV => hrow.out.below (hB.out.trans hV) (Nat.le_refl _)) hdb.out)
      unfold PyP at KP
      go_wp2_with fail
      refine KP.out.mono ?_
      rintro e w6 ⟨rfl, D6, O6, hQ6, hw6, hB6⟩
      have hB7 := hide' (hB.out.trans hB6.out)
      have hw7 := hw6.out
      go_wp2
      exact ⟨⟨i + 1, D6, O6, by go_num, by omega, hQ6, by show D6.writes ≤ _; omega, hB7⟩, by simp [intOf]; omega⟩
    · have KP := hide' (playsF hQ.out (by omega) ⟨3, 0, []⟩ (by decide) (.slice none 0 0) (fun V _ => rowC_nil V) (fun z hz => by cases hz))
      unfold PyP at KP
      by_cases h200 : (i : Int) < (m : Int)
      · have h2 : ¬ (i : Int) < 150 := by omega
        go_wp2_with fail
        refine KP.out.mono ?_
        rintro e w6 ⟨rfl, D6, O6, hQ6, hw6, hB6⟩
        go_wp2
        go_ret
        exact ⟨rfl, hB.out.trans hB6.out⟩
      · go_wp2_with fail
        refine KP.out.mono ?_
        rintro e w6 ⟨rfl, D6, O6, hQ6, hw6, hB6⟩
        go_wp2
        go_ret
        exact ⟨rfl, hB.out.trans hB6.out⟩
end Go.Proofs.Ytmhbidnpfefjpaa
