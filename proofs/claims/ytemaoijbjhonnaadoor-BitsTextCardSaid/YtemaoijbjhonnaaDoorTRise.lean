/- readRising: what it answers. -/
import Derived.Test.YtemaoijbjhonnaaDoorTCut
import Derived.Test.YtemaoijbjhonnaaDoorRefPl
import Derived.OwnWalk
namespace Go.Proofs.YtemaoijbjhonnaaDoor
open Go.RowKit
/-- Numbers as a row's cells. -/
def cellsN (L : List Nat) : List Value := L.map fun (n : Nat) => Value.int .i64 (n : Int)
theorem cellsN_snoc (L : List Nat) (n : Nat) : cellsN L ++ [.int .i64 (n : Int)] = cellsN (L ++ [n]) := by simp [cellsN]
def strLen : Value → Nat | .string s => s.size | _ => 0
def bitN : Value → Nat | .bool true => 1 | _ => 0
/-- What readRising answers. -/
def RiseR (w : World) (T : List UInt8) (e : Ending) (w' : World) : Prop :=
  (prs T = none ∧ e = .returned (.tuple #[.slice none 0 0, .bool false]) ∧ Below w.heap.size w w') ∨
  ∃ L v, prs T = some L ∧ e = .returned (.tuple #[v, .bool true]) ∧ w'.ownsRow w.heap.size 3 1 v L.length (cellsN L) ∧ L.length ≤ 1000 ∧ Below w.heap.size w w'
theorem owns_shapeT {W : World} {base : Nat} {e : TypeId} {size : Nat} {v : Value} {n : Nat} {xs : List Value} (h : W.ownsRow base e size v n xs) : ∃ oa cap, v = .slice oa n cap := by
  rcases h.2 with ⟨rfl, rfl⟩ | ⟨g, cap, cur, rfl, _⟩
  · exact ⟨_, _, rfl⟩
  · exact ⟨_, _, rfl⟩
theorem owns_below {w w' : World} {b : Nat} {e : TypeId} {size : Nat} {v : Value} {n : Nat} {xs : List Value} (h : w.ownsRow b e size v n xs) (hb : Below w.heap.size w w') : w'.ownsRow b e size v n xs := by
  refine ⟨h.1, ?_⟩
  rcases h.2 with hn | ⟨g, cap, cur, rfl, h1, hgg, rest⟩
  · exact .inl hn
  · refine .inr ⟨g, cap, cur, rfl, h1, ?_, rest⟩
    rw [hb.block g (Array.getElem?_eq_some_iff.1 hgg).1]
    exact hgg
theorem strEmpty (l : List UInt8) (h : l ≠ []) : (bs l).toList.isEmpty = false := by rw [ba_empty]; simpa using h
set_option maxRecDepth 100000 in
set_option maxHeartbeats 4000000 in
theorem readRise (T : List UInt8) (hm : T.length ≤ 9223372036854775807) (w : World) : Calls Tryd.prog 35 #[.string (bs T)] w (RiseR w T) := by
  obtain ⟨i0, hi, hz0, hz1, hz2⟩ := info_parts info3
  have KP := hideT (cutPre T w)
  by_cases h1 : T.head? = some 123
  · have hd1 : decide (T.head? = some 123) = true := by simpa using h1
    have hp1 : preR T = T.tail := if_pos h1
    rw [hd1, hp1] at KP
    have KS := hideT (cutSuf T.tail (by rw [List.length_tail]; omega) w)
    by_cases h2 : T.tail.getLast? = some 125
    · have hd2 : decide (T.tail.getLast? = some 125) = true := by simpa using h2
      have hp2 : sufR T.tail = T.tail.dropLast := if_pos h2
      rw [hd2, hp2] at KS
      by_cases h3 : T.tail.dropLast = []
      · have hpr : Hid (prs T = some []) := by show _ = _; unfold prs; rw [if_pos ⟨h1, h2⟩, if_pos h3]
        rw [h3] at KS
        have he : (bs []).toList.isEmpty = true := by rw [ba_empty]; rfl
        generalize bs T = s at *
        generalize bs T.tail = s1 at *
        generalize hs2 : bs [] = s2 at *
        clear h1 hd1 hp1 h2 hd2 hp2 h3 hs2
        go_enter Tryd.func35, Tryd.ntmps35
        go_wp2_with (first | (go_at_call 57; refine KP.out.mono ?_; rintro e w1 ⟨rfl, hw⟩; obtain rfl : w = w1 := hw.symm) | (go_at_call 58; refine KS.out.mono ?_; rintro e w1 ⟨rfl, hw⟩; obtain rfl : w = w1 := hw.symm))
        go_ret2
        exact .inr ⟨[], .slice none 0 0, hpr.out, rfl, World.ownsRow_nil _ _ _ _, by decide, Below.refl _ _⟩
      · have hpr : Hid (prs T = goS (-1) 0 0 [] T.tail.dropLast) := by show _ = _; unfold prs; rw [if_pos ⟨h1, h2⟩, if_neg h3]
        have he := strEmpty _ h3
        have hlen : T.tail.dropLast.length ≤ 9223372036854775807 := by rw [List.length_dropLast, List.length_tail]; omega
        generalize T.tail.dropLast = r0 at *
        unfold RiseR
        generalize prs T = PT at *
        generalize bs T = s at *
        generalize bs T.tail = s1 at *
        clear h1 hd1 hp1 h2 hd2 hp2 h3 hm
        go_enter Tryd.func35, Tryd.ntmps35
        go_wp2_with (first | (go_at_call 57; refine KP.out.mono ?_; rintro e w1 ⟨rfl, hw⟩; obtain rfl : w = w1 := hw.symm) | (go_at_call 58; refine KS.out.mono ?_; rintro e w1 ⟨rfl, hw⟩; obtain rfl : w = w1 := hw.symm))
        clear KP KS he
        go_loopw [4, 7, 8, 9] (fun rest nums lst more wr => ∃ (r : List UInt8) (acc : List Nat) (last : Int) (mo : Bool), rest = .string (bs r) ∧ lst = .int .i64 last ∧ more = .bool mo ∧ wr.ownsRow w.heap.size 3 1 nums acc.length (cellsN acc) ∧ Below w.heap.size w wr ∧ -1 ≤ last ∧ last < 1000 ∧ (acc.length : Int) ≤ last + 1 ∧ r.length ≤ 9223372036854775807 ∧ Hid (PT = if mo = true then goS last 0 0 acc r else some acc)) (fun rest _ _ more _ => bitN more * (strLen rest + 1))
        case atStart => exact ⟨r0, [], -1, true, rfl, rfl, rfl, World.ownsRow_nil _ _ _ _, Below.refl _ _, by decide, by decide, by decide, hlen, hpr.out⟩
        case round =>
          clear hlen hpr
          obtain ⟨r, acc, last, mo, rfl, rfl, rfl, hrow, hB, hl1, hl2, hal, hrl, hE⟩ := hrel
          cases mo with
          | false =>
            have hE' : Hid (PT = some acc) := hE.out
            obtain ⟨oa, cap, rfl⟩ := owns_shapeT hrow
            clear hE
            go_wp2
            go_ret2
            exact .inr ⟨acc, _, hE'.out, rfl, hrow, by omega, hB⟩
          | true =>
            obtain ⟨p, t, mo2, hcut, hE2, hlt⟩ : ∃ (p t : List UInt8) (mo2 : Bool), Hid (Calls Tryd.prog 59 #[.string (bs r), .string ⟨#[44]⟩] wr fun e w' => e = .returned (.tuple #[.string (bs p), .string (bs t), .bool mo2]) ∧ Below wr.heap.size wr w') ∧ Hid (PT = match rdS 0 0 p with | none => none | some k => if (k : Int) ≤ last then none else (if mo2 = true then goS k 0 0 (acc ++ [k]) t else some (acc ++ [k]))) ∧ t.length + bitN (.bool mo2) ≤ r.length := by
              rcases idx_split r with ⟨h1, h2⟩ | ⟨p, t, rfl, h1, h2⟩
              · refine ⟨r, [], false, (cutNo r h2 wr).mono (fun e w' ⟨h, hw⟩ => ⟨h, by rw [hw]; exact Below.refl _ _⟩), ?_, by simp [bitN]⟩
                show _ = _
                rw [hE.out, if_pos rfl, goS_end last acc r 0 0 h1]
                cases rdS 0 0 r <;> simp
              · refine ⟨p, t, true, cutYes p t hrl h2 wr, ?_, by simp [bitN]⟩
                show _ = _
                rw [hE.out, if_pos rfl, goS_comma last acc t p 0 0 h1]
                cases rdS 0 0 p <;> simp
            clear hE
            have KR := hideT (fun W => readNum p W)
            have hmeas : Hid (bitN (.bool mo2) * (strLen (.string (bs t)) + 1) < bitN (.bool true) * (strLen (.string (bs r)) + 1)) := by
              show bitN (.bool mo2) * ((bs t).size + 1) < bitN (.bool true) * ((bs r).size + 1)
              rw [bs_size, bs_size]
              cases mo2
              · simp [bitN]
              · simp only [bitN] at hlt ⊢; omega
            have htl : t.length ≤ 9223372036854775807 := by omega
            obtain ⟨oa, cap, rfl⟩ := owns_shapeT hrow
            cases hrd : rdS 0 0 p with
            | none =>
              rw [rdV_none hrd] at KR
              rw [hrd] at hE2
              generalize bs r = sr at *
              generalize bs p = sp at *
              generalize bs t = st at *
              clear hmeas hlt hrl
              go_wp2_with (first | (go_at_call 59; refine hcut.out.mono ?_; rintro e w2 ⟨rfl, hb2⟩) | (go_at_call 60; refine (KR.out _).mono ?_; rintro e w3 ⟨rfl, hw⟩; obtain rfl : w2 = w3 := hw.symm))
              go_ret2
              exact .inl ⟨hE2.out, rfl, hB.trans (hb2.mono hB.size)⟩
            | some k =>
              have hk := rdS_lt p 0 0 k (by decide) (by decide) hrd
              rw [rdV_some hrd] at KR
              rw [hrd] at hE2
              clear hrd
              by_cases hle : (k : Int) ≤ last
              · have hE3 : Hid (PT = none) := by
                  have := hE2.out
                  simp only at this
                  rwa [if_pos hle] at this
                generalize bs r = sr at *
                generalize bs p = sp at *
                generalize bs t = st at *
                clear hmeas hlt hrl hE2
                go_wp2_with (first | (go_at_call 59; refine hcut.out.mono ?_; rintro e w2 ⟨rfl, hb2⟩) | (go_at_call 60; refine (KR.out _).mono ?_; rintro e w3 ⟨rfl, hw⟩; obtain rfl : w2 = w3 := hw.symm))
                go_ret2
                exact .inl ⟨hE3.out, rfl, hB.trans (hb2.mono hB.size)⟩
              · have hE3 : Hid (PT = if mo2 = true then goS k 0 0 (acc ++ [k]) t else some (acc ++ [k])) := by
                  have := hE2.out
                  simp only at this
                  rwa [if_neg hle] at this
                have hst : Hid (Value.string (bs t) = .string (bs t)) := rfl
                have hrow' := hideT hrow
                have hB' := hideT hB
                have hBs := hB.size
                generalize bs r = sr at *
                generalize bs p = sp at *
                generalize hst2 : bs t = st at *
                have hst2' := hideT hst2.symm
                clear hlt hrl hE2 hst hst2 hrow hB
                go_wp2_with (first | (go_at_call 59; refine hcut.out.mono ?_; rintro e w2 ⟨rfl, hb2⟩; have hrow2 := hideT (owns_below hrow'.out hb2); have hb2' := hideT hb2; have hbs2 := hb2.size; clear hb2) | (go_at_call 60; refine (KR.out _).mono ?_; rintro e w3 ⟨rfl, hw⟩; obtain rfl : w2 = w3 := hw.symm) | (at_builtin; refine wpList_append_own _ rfl _ _ 60 rfl w.heap.size 3 i0 (.int .i64 0) 1 8 Tryd.underlying60 hi hz0 hz1 hz2 rfl (by decide) (.slice oa acc.length cap) acc.length (cellsN acc) rfl (hrow2.out.alloc _) ⟨w2.heap.size, 0, none⟩ 1 1 [.int .i64 (k : Int)] rfl rfl (cell_one_new _ _ _) (by simp [Value.oneCell']) (by unfold maxLen; omega) (by omega) (by simp; omega) ?_; intro v1 w4 hown1 hgrow1 hnil; clear hnil))
                have hown2 : w4.ownsRow w.heap.size 3 1 v1 (acc ++ [k]).length (cellsN (acc ++ [k])) := by
                  rw [List.length_append, List.length_singleton, ← cellsN_snoc]; exact hown1
                have hB2 : Below w.heap.size w w2 := hB'.out.trans (hb2'.out.mono hBs)
                have hB4 : Below w.heap.size w w4 := (hB2.alloc hB2.size (.cells #[.int .i64 (k : Int)] 3)).grown hgrow1 (by simp; omega) (fun j ej => ((hrow2.out.alloc (.cells #[.int .i64 (k : Int)] 3)).lt j ej).1)
                exact ⟨⟨t, acc ++ [k], k, mo2, by rw [hst2'.out], rfl, rfl, hown2, hB4, by omega, by omega, by rw [List.length_append, List.length_singleton]; omega, htl, hE3.out⟩, hmeas.out⟩
    · have hd2 : decide (T.tail.getLast? = some 125) = false := by simpa using h2
      have hpr : Hid (prs T = none) := if_neg fun h => h2 h.2
      rw [hd2] at KS
      generalize bs T = s at *
      generalize bs T.tail = s1 at *
      generalize bs (sufR T.tail) = s2 at *
      clear h1 hd1 hp1 h2 hd2
      go_enter Tryd.func35, Tryd.ntmps35
      go_wp2_with (first | (go_at_call 57; refine KP.out.mono ?_; rintro e w1 ⟨rfl, hw⟩; obtain rfl : w = w1 := hw.symm) | (go_at_call 58; refine KS.out.mono ?_; rintro e w1 ⟨rfl, hw⟩; obtain rfl : w = w1 := hw.symm))
      go_ret2
      exact .inl ⟨hpr.out, rfl, Below.refl _ _⟩
  · have hd1 : decide (T.head? = some 123) = false := by simpa using h1
    have hp1 : preR T = T := if_neg h1
    have hpr : Hid (prs T = none) := if_neg fun h => h1 h.1
    rw [hd1, hp1] at KP
    have KS := hideT (cutSuf T hm w)
    generalize bs T = s at *
    generalize bs (sufR T) = s2 at *
    generalize decide (T.getLast? = some 125) = q at *
    clear h1 hd1 hp1
    go_enter Tryd.func35, Tryd.ntmps35
    go_wp2_with (first | (go_at_call 57; refine KP.out.mono ?_; rintro e w1 ⟨rfl, hw⟩; obtain rfl : w = w1 := hw.symm) | (go_at_call 58; refine KS.out.mono ?_; rintro e w1 ⟨rfl, hw⟩; obtain rfl : w = w1 := hw.symm))
    go_ret2
    exact .inl ⟨hpr.out, rfl, Below.refl _ _⟩
end Go.Proofs.YtemaoijbjhonnaaDoor
