/- The document's Text: a rule's line. -/
import Derived.Test.YtkfopeeegbdhlaaDoorXText
namespace Go.Proofs.YtkfopeeegbdhlaaDoor
open Go.RowKit Go.Shelf
def DigOk : Prop := ∀ (W : World) (k : Int), 1 ≤ k → k ≤ 999999999 → Calls Tryd.prog 12 #[.int .i64 k] W fun e w' => e = .returned (.string ⟨(Lib.decDigits k.toNat).toArray⟩) ∧ Below W.heap.size W w'
theorem ret_str {a b : ByteArray} (h : a = b) : Ending.returned (.string a) = .returned (.string b) := by rw [h]
set_option maxRecDepth 100000 in
set_option maxHeartbeats 2000000 in
theorem rTextF (r : Rl) (sv nv : Value) (N : List ByteArray) (w : World) (hs : RowI w sv r.steps) (hn : RowN w nv N) (hk : chk N.length r = true) (hz : ∀ x ∈ N, x.size ≤ 1048576) (hD : DigOk) :
    Calls Tryd.prog 7 #[rv r sv, nv] w fun e w' => e = .returned (.string ⟨(txtL N r).toArray⟩) ∧ Below w.heap.size w w' := by
  obtain ⟨hp, hl1, hl12, hn12, hmem⟩ := chk_parts hk
  obtain ⟨oa, cap, rfl, _, hc⟩ := hs
  obtain ⟨on, cn, rfl, _, hcn⟩ := hn
  unfold rv
  have hat : Hid (∀ c, c < r.steps.length → ∃ (x g o : Nat), r.steps[c]? = some (x : Int) ∧ x < N.length ∧ on = some ⟨g, o, none⟩ ∧ w.cell? ⟨g, o + x, none⟩ = some (.string (nm N (x : Int)))) := fun c hc => by
    have hx : r.steps[c]? = some r.steps[c] := List.getElem?_eq_getElem hc
    obtain ⟨h1, h2⟩ := hmem _ (List.mem_of_getElem? hx)
    obtain ⟨x, hxe⟩ : ∃ x : Nat, r.steps[c] = (x : Int) := ⟨r.steps[c].toNat, by omega⟩
    rw [hxe] at hx h1 h2
    have hxl : x < N.length := by omega
    obtain ⟨g, o, e1, e2⟩ := hcn x N[x] (List.getElem?_eq_getElem hxl)
    refine ⟨x, g, o, hx, hxl, e1, ?_⟩
    rw [e2]
    unfold nm
    rw [Int.toNat_natCast, List.getElem?_eq_getElem hxl]; rfl
  have hst : Hid (∀ (c x : Nat), r.steps[c]? = some (x : Int) → ∃ g o, oa = some ⟨g, o, none⟩ ∧ w.cell? ⟨g, o + c, none⟩ = some (.int .i64 (x : Int))) := fun c x hx => hc c x hx
  have hrl : Hid (∀ c, (refL N r c).length ≤ 1000000010 + c * 1048580) := fun c => refL_len N r hz (by omega) c
  have hkl : r.k ≤ 999999999 := by omega
  have hrz : Hid (refL N r 0 = hdL r.kind r.k) := refL_zero N r
  have hrs : Hid (∀ c, refL N r (c + 1) = refL N r c ++ (if 0 < c then [44] else []) ++ [32] ++ nmL N (r.steps[c]?.getD 0)) := fun c => refL_succ N r c
  have hrt : Hid (refL N r r.steps.length = txtL N r) := ref_txt N r (by omega)
  have hB0 : Hid (∀ cs, Below w.heap.size w ((w.alloc (.cells #[.int .i64 r.kind, .int .i64 r.k, .slice oa r.steps.length cap] 32)).alloc (.cells cs 9))) := fun cs => ((Below.refl _ w).alloc (Nat.le_refl _) _).alloc (by simp) _
  have C2 : Hid (∀ cs, ((w.alloc (.cells #[.int .i64 r.kind, .int .i64 r.k, .slice oa r.steps.length cap] 32)).alloc (.cells cs 9)).cell? ⟨w.heap.size, 2, none⟩ = some (.slice oa r.steps.length cap)) := fun cs => cell_new (by simp)
  have KD : Hid (∀ W, 1 ≤ r.k → Calls Tryd.prog 12 #[.int .i64 r.k] W fun e w' => e = .returned (.string ⟨(Lib.decDigits r.k.toNat).toArray⟩) ∧ Below W.heap.size W w') := fun W h1 => hD W r.k h1 hkl
  clear hc hcn hmem hD hk
  rcases hp with ⟨hkd, hk0⟩ | ⟨hkd, hk1, hk9⟩
  · generalize r.kind = kd at *
    generalize r.k = kk at *
    subst hk0
    rcases hkd with rfl | rfl
    · go_enter Tryd.func7, Tryd.ntmps7
      go_wp2
      have B2 := hB0.out #[.string ⟨#[]⟩, .string ⟨#[97, 112, 97, 114, 116]⟩, .string ⟨#[115, 97, 109, 101]⟩, .string ⟨#[109, 111, 115, 116]⟩, .string ⟨#[102, 101, 119]⟩, .string ⟨#[109, 97, 110, 121]⟩]
      have c2 := C2.out #[.string ⟨#[]⟩, .string ⟨#[97, 112, 97, 114, 116]⟩, .string ⟨#[115, 97, 109, 101]⟩, .string ⟨#[109, 111, 115, 116]⟩, .string ⟨#[102, 101, 119]⟩, .string ⟨#[109, 97, 110, 121]⟩]
      generalize ((w.alloc (.cells #[.int .i64 1, .int .i64 0, .slice oa r.steps.length cap] 32)).alloc (.cells #[.string ⟨#[]⟩, .string ⟨#[97, 112, 97, 114, 116]⟩, .string ⟨#[115, 97, 109, 101]⟩, .string ⟨#[109, 111, 115, 116]⟩, .string ⟨#[102, 101, 119]⟩, .string ⟨#[109, 97, 110, 121]⟩] 9)) = W2 at *
      clear hB0 C2 KD
      go_loop [6, 7] (fun s k => ∃ c : Nat, c ≤ r.steps.length ∧ k = .int .i64 c ∧ s = .string ⟨(refL N r c).toArray⟩) (fun _ k => ((r.steps.length : Int) - intOf k).toNat)
      case atStart => exact ⟨0, Nat.zero_le _, rfl, congrArg Value.string (by rw [hrz.out]; rfl)⟩
      case round =>
        obtain ⟨c, hcl, rfl, rfl⟩ := hrel
        by_cases hlt : c < r.steps.length
        · obtain ⟨x, gn, o, hx, hxl, rfl, cy⟩ := hat.out c hlt
          obtain ⟨g, os, rfl, cx⟩ := hst.out c x hx
          have cy' := cell_ov cy B2
          have cx' := cell_ov cx B2
          have hxi : (x : Int) < (N.length : Int) := by omega
          have hyz := nm_size hz (x : Int)
          have hsz : (⟨(refL N r c).toArray⟩ : ByteArray).size ≤ 2000000000 := by
            have e : (⟨(refL N r c).toArray⟩ : ByteArray).size = (refL N r c).length := by simp [ByteArray.size]
            have := hrl.out c
            omega
          have hlt' : (c : Int) < (r.steps.length : Int) := by omega
          cases c with
          | zero =>
            rw [Nat.add_zero] at cx'
            have hN : Hid ((⟨(refL N r 0).toArray⟩ : ByteArray) ++ ⟨#[32]⟩ ++ nm N (x : Int) = ⟨(refL N r (0 + 1)).toArray⟩) := by
              show _ = _
              rw [hrs.out 0, hx]
              apply ByteArray.ext
              simp [nmL]
            clear hx cy cx hrs hrz hrl hrt hat hst
            generalize (⟨(refL N r 0).toArray⟩ : ByteArray) = sb at *
            generalize nm N (x : Int) = y at *
            have z1 : ¬ 9223372036854775807 < sb.size + 1 := by omega
            have z2 : ¬ 9223372036854775807 < sb.size + 1 + y.size := by omega
            clear hsz hyz
            go_wp2
            exact ⟨⟨0 + 1, by omega, by go_num, by rw [← hN.out]⟩, by simp [intOf]; omega⟩
          | succ d =>
            have hN : Hid ((⟨(refL N r (d + 1)).toArray⟩ : ByteArray) ++ ⟨#[44]⟩ ++ ⟨#[32]⟩ ++ nm N (x : Int) = ⟨(refL N r (d + 1 + 1)).toArray⟩) := by
              show _ = _
              rw [hrs.out (d + 1), hx]
              apply ByteArray.ext
              simp [nmL]
            have hd0 : (0 : Int) < ((d + 1 : Nat) : Int) := by omega
            clear hx cy cx hrs hrz hrl hrt hat hst
            generalize (⟨(refL N r (d + 1)).toArray⟩ : ByteArray) = sb at *
            generalize nm N (x : Int) = y at *
            generalize d + 1 = e at *
            have z0 : ¬ 9223372036854775807 < sb.size + 1 := by omega
            have z1 : ¬ 9223372036854775807 < sb.size + 1 + 1 := by omega
            have z1' : ¬ 9223372036854775807 < sb.size + 2 := by omega
            have z2 : ¬ 9223372036854775807 < sb.size + 1 + 1 + y.size := by omega
            have z2' : ¬ 9223372036854775807 < sb.size + 2 + y.size := by omega
            clear hsz hyz
            go_wp2
            exact ⟨⟨e + 1, by omega, by go_num, by rw [← hN.out]⟩, by simp [intOf]; omega⟩
        · obtain rfl : c = r.steps.length := by omega
          rw [hrt.out]
          clear hrs hrz hrl hat hst
          go_wp2
          go_ret
          exact ⟨rfl, B2⟩
    · go_enter Tryd.func7, Tryd.ntmps7
      go_wp2
      have B2 := hB0.out #[.string ⟨#[]⟩, .string ⟨#[97, 112, 97, 114, 116]⟩, .string ⟨#[115, 97, 109, 101]⟩, .string ⟨#[109, 111, 115, 116]⟩, .string ⟨#[102, 101, 119]⟩, .string ⟨#[109, 97, 110, 121]⟩]
      have c2 := C2.out #[.string ⟨#[]⟩, .string ⟨#[97, 112, 97, 114, 116]⟩, .string ⟨#[115, 97, 109, 101]⟩, .string ⟨#[109, 111, 115, 116]⟩, .string ⟨#[102, 101, 119]⟩, .string ⟨#[109, 97, 110, 121]⟩]
      generalize ((w.alloc (.cells #[.int .i64 2, .int .i64 0, .slice oa r.steps.length cap] 32)).alloc (.cells #[.string ⟨#[]⟩, .string ⟨#[97, 112, 97, 114, 116]⟩, .string ⟨#[115, 97, 109, 101]⟩, .string ⟨#[109, 111, 115, 116]⟩, .string ⟨#[102, 101, 119]⟩, .string ⟨#[109, 97, 110, 121]⟩] 9)) = W2 at *
      clear hB0 C2 KD
      go_loop [6, 7] (fun s k => ∃ c : Nat, c ≤ r.steps.length ∧ k = .int .i64 c ∧ s = .string ⟨(refL N r c).toArray⟩) (fun _ k => ((r.steps.length : Int) - intOf k).toNat)
      case atStart => exact ⟨0, Nat.zero_le _, rfl, congrArg Value.string (by rw [hrz.out]; rfl)⟩
      case round =>
        obtain ⟨c, hcl, rfl, rfl⟩ := hrel
        by_cases hlt : c < r.steps.length
        · obtain ⟨x, gn, o, hx, hxl, rfl, cy⟩ := hat.out c hlt
          obtain ⟨g, os, rfl, cx⟩ := hst.out c x hx
          have cy' := cell_ov cy B2
          have cx' := cell_ov cx B2
          have hxi : (x : Int) < (N.length : Int) := by omega
          have hyz := nm_size hz (x : Int)
          have hsz : (⟨(refL N r c).toArray⟩ : ByteArray).size ≤ 2000000000 := by
            have e : (⟨(refL N r c).toArray⟩ : ByteArray).size = (refL N r c).length := by simp [ByteArray.size]
            have := hrl.out c
            omega
          have hlt' : (c : Int) < (r.steps.length : Int) := by omega
          cases c with
          | zero =>
            rw [Nat.add_zero] at cx'
            have hN : Hid ((⟨(refL N r 0).toArray⟩ : ByteArray) ++ ⟨#[32]⟩ ++ nm N (x : Int) = ⟨(refL N r (0 + 1)).toArray⟩) := by
              show _ = _
              rw [hrs.out 0, hx]
              apply ByteArray.ext
              simp [nmL]
            clear hx cy cx hrs hrz hrl hrt hat hst
            generalize (⟨(refL N r 0).toArray⟩ : ByteArray) = sb at *
            generalize nm N (x : Int) = y at *
            have z1 : ¬ 9223372036854775807 < sb.size + 1 := by omega
            have z2 : ¬ 9223372036854775807 < sb.size + 1 + y.size := by omega
            clear hsz hyz
            go_wp2
            exact ⟨⟨0 + 1, by omega, by go_num, by rw [← hN.out]⟩, by simp [intOf]; omega⟩
          | succ d =>
            have hN : Hid ((⟨(refL N r (d + 1)).toArray⟩ : ByteArray) ++ ⟨#[44]⟩ ++ ⟨#[32]⟩ ++ nm N (x : Int) = ⟨(refL N r (d + 1 + 1)).toArray⟩) := by
              show _ = _
              rw [hrs.out (d + 1), hx]
              apply ByteArray.ext
              simp [nmL]
            have hd0 : (0 : Int) < ((d + 1 : Nat) : Int) := by omega
            clear hx cy cx hrs hrz hrl hrt hat hst
            generalize (⟨(refL N r (d + 1)).toArray⟩ : ByteArray) = sb at *
            generalize nm N (x : Int) = y at *
            generalize d + 1 = e at *
            have z0 : ¬ 9223372036854775807 < sb.size + 1 := by omega
            have z1 : ¬ 9223372036854775807 < sb.size + 1 + 1 := by omega
            have z1' : ¬ 9223372036854775807 < sb.size + 2 := by omega
            have z2 : ¬ 9223372036854775807 < sb.size + 1 + 1 + y.size := by omega
            have z2' : ¬ 9223372036854775807 < sb.size + 2 + y.size := by omega
            clear hsz hyz
            go_wp2
            exact ⟨⟨e + 1, by omega, by go_num, by rw [← hN.out]⟩, by simp [intOf]; omega⟩
        · obtain rfl : c = r.steps.length := by omega
          rw [hrt.out]
          clear hrs hrz hrl hat hst
          go_wp2
          go_ret
          exact ⟨rfl, B2⟩
  · have hge : Hid (∀ j : Nat, True) := fun _ => trivial
    clear hge
    have KD' := hide' fun W => KD.out W hk1
    have hdz : (⟨(Lib.decDigits r.k.toNat).toArray⟩ : ByteArray).size ≤ 1000000000 := by
      have e : (⟨(Lib.decDigits r.k.toNat).toArray⟩ : ByteArray).size = (Lib.decDigits r.k.toNat).length := by simp [ByteArray.size]
      have := dec_len r.k.toNat
      omega
    have hk00 : r.k ≠ 0 := by omega
    have hH : Hid (∀ b : List UInt8, wdL r.kind = b → (⟨b.toArray⟩ : ByteArray) ++ ⟨#[32]⟩ ++ ⟨(Lib.decDigits r.k.toNat).toArray⟩ ++ ⟨#[32, 111, 102]⟩ = ⟨(refL N r 0).toArray⟩) := fun b hb => by
      rw [hrz.out]
      apply ByteArray.ext
      simp [hdL, hk00, hb]
    clear KD hrz hk00
    generalize r.kind = kd at *
    generalize r.k = kk at *
    generalize (⟨(Lib.decDigits kk.toNat).toArray⟩ : ByteArray) = dg at *
    rcases hkd with rfl | rfl | rfl
    · have b2 := C2.out #[.string ⟨#[]⟩, .string ⟨#[97, 112, 97, 114, 116]⟩, .string ⟨#[115, 97, 109, 101]⟩, .string ⟨#[109, 111, 115, 116]⟩, .string ⟨#[102, 101, 119]⟩, .string ⟨#[109, 97, 110, 121]⟩]
      have B1 := hB0.out #[.string ⟨#[]⟩, .string ⟨#[97, 112, 97, 114, 116]⟩, .string ⟨#[115, 97, 109, 101]⟩, .string ⟨#[109, 111, 115, 116]⟩, .string ⟨#[102, 101, 119]⟩, .string ⟨#[109, 97, 110, 121]⟩]
      have hE : Hid ((⟨#[109, 111, 115, 116]⟩ : ByteArray) ++ ⟨#[32]⟩ ++ dg ++ ⟨#[32, 111, 102]⟩ = ⟨(refL N r 0).toArray⟩) := hH.out [109, 111, 115, 116] rfl
      have z2 : ¬ 9223372036854775807 < 5 + dg.size := by omega
      have z3 : ¬ 9223372036854775807 < 5 + dg.size + 3 := by omega
      clear hH hdz
      go_enter Tryd.func7, Tryd.ntmps7
      go_wp2_with (first | (go_at_call 12; refine (KD'.out _).mono ?_; rintro e W2 ⟨rfl, hb2⟩; have c2 := cell_ov b2 hb2))
      have B2 := B1.trans (hb2.mono B1.size)
      clear hB0 C2 b2 B1 hb2
      go_loop [6, 7] (fun s k => ∃ c : Nat, c ≤ r.steps.length ∧ k = .int .i64 c ∧ s = .string ⟨(refL N r c).toArray⟩) (fun _ k => ((r.steps.length : Int) - intOf k).toNat)
      case atStart => exact ⟨0, Nat.zero_le _, rfl, congrArg Value.string (by rw [← hE.out])⟩
      case round =>
        obtain ⟨c, hcl, rfl, rfl⟩ := hrel
        by_cases hlt : c < r.steps.length
        · obtain ⟨x, gn, o, hx, hxl, rfl, cy⟩ := hat.out c hlt
          obtain ⟨g, os, rfl, cx⟩ := hst.out c x hx
          have cy' := cell_ov cy B2
          have cx' := cell_ov cx B2
          have hxi : (x : Int) < (N.length : Int) := by omega
          have hyz := nm_size hz (x : Int)
          have hsz : (⟨(refL N r c).toArray⟩ : ByteArray).size ≤ 2000000000 := by
            have e : (⟨(refL N r c).toArray⟩ : ByteArray).size = (refL N r c).length := by simp [ByteArray.size]
            have := hrl.out c
            omega
          have hlt' : (c : Int) < (r.steps.length : Int) := by omega
          cases c with
          | zero =>
            rw [Nat.add_zero] at cx'
            have hN : Hid ((⟨(refL N r 0).toArray⟩ : ByteArray) ++ ⟨#[32]⟩ ++ nm N (x : Int) = ⟨(refL N r (0 + 1)).toArray⟩) := by
              show _ = _
              rw [hrs.out 0, hx]
              apply ByteArray.ext
              simp [nmL]
            clear hx cy cx hrs hrl hrt hat hst
            generalize (⟨(refL N r 0).toArray⟩ : ByteArray) = sb at *
            generalize nm N (x : Int) = y at *
            have z1 : ¬ 9223372036854775807 < sb.size + 1 := by omega
            have z2 : ¬ 9223372036854775807 < sb.size + 1 + y.size := by omega
            clear hsz hyz
            go_wp2
            exact ⟨⟨0 + 1, by omega, by go_num, by rw [← hN.out]⟩, by simp [intOf]; omega⟩
          | succ d =>
            have hN : Hid ((⟨(refL N r (d + 1)).toArray⟩ : ByteArray) ++ ⟨#[44]⟩ ++ ⟨#[32]⟩ ++ nm N (x : Int) = ⟨(refL N r (d + 1 + 1)).toArray⟩) := by
              show _ = _
              rw [hrs.out (d + 1), hx]
              apply ByteArray.ext
              simp [nmL]
            have hd0 : (0 : Int) < ((d + 1 : Nat) : Int) := by omega
            clear hx cy cx hrs hrl hrt hat hst
            generalize (⟨(refL N r (d + 1)).toArray⟩ : ByteArray) = sb at *
            generalize nm N (x : Int) = y at *
            generalize d + 1 = e at *
            have z0 : ¬ 9223372036854775807 < sb.size + 1 := by omega
            have z1 : ¬ 9223372036854775807 < sb.size + 1 + 1 := by omega
            have z1' : ¬ 9223372036854775807 < sb.size + 2 := by omega
            have z2 : ¬ 9223372036854775807 < sb.size + 1 + 1 + y.size := by omega
            have z2' : ¬ 9223372036854775807 < sb.size + 2 + y.size := by omega
            clear hsz hyz
            go_wp2
            exact ⟨⟨e + 1, by omega, by go_num, by rw [← hN.out]⟩, by simp [intOf]; omega⟩
        · obtain rfl : c = r.steps.length := by omega
          rw [hrt.out]
          clear hrs hrl hat hst
          go_wp2
          go_ret
          exact ⟨rfl, B2⟩
    · have b2 := C2.out #[.string ⟨#[]⟩, .string ⟨#[97, 112, 97, 114, 116]⟩, .string ⟨#[115, 97, 109, 101]⟩, .string ⟨#[109, 111, 115, 116]⟩, .string ⟨#[102, 101, 119]⟩, .string ⟨#[109, 97, 110, 121]⟩]
      have B1 := hB0.out #[.string ⟨#[]⟩, .string ⟨#[97, 112, 97, 114, 116]⟩, .string ⟨#[115, 97, 109, 101]⟩, .string ⟨#[109, 111, 115, 116]⟩, .string ⟨#[102, 101, 119]⟩, .string ⟨#[109, 97, 110, 121]⟩]
      have hE : Hid ((⟨#[102, 101, 119]⟩ : ByteArray) ++ ⟨#[32]⟩ ++ dg ++ ⟨#[32, 111, 102]⟩ = ⟨(refL N r 0).toArray⟩) := hH.out [102, 101, 119] rfl
      have z2 : ¬ 9223372036854775807 < 4 + dg.size := by omega
      have z3 : ¬ 9223372036854775807 < 4 + dg.size + 3 := by omega
      clear hH hdz
      go_enter Tryd.func7, Tryd.ntmps7
      go_wp2_with (first | (go_at_call 12; refine (KD'.out _).mono ?_; rintro e W2 ⟨rfl, hb2⟩; have c2 := cell_ov b2 hb2))
      have B2 := B1.trans (hb2.mono B1.size)
      clear hB0 C2 b2 B1 hb2
      go_loop [6, 7] (fun s k => ∃ c : Nat, c ≤ r.steps.length ∧ k = .int .i64 c ∧ s = .string ⟨(refL N r c).toArray⟩) (fun _ k => ((r.steps.length : Int) - intOf k).toNat)
      case atStart => exact ⟨0, Nat.zero_le _, rfl, congrArg Value.string (by rw [← hE.out])⟩
      case round =>
        obtain ⟨c, hcl, rfl, rfl⟩ := hrel
        by_cases hlt : c < r.steps.length
        · obtain ⟨x, gn, o, hx, hxl, rfl, cy⟩ := hat.out c hlt
          obtain ⟨g, os, rfl, cx⟩ := hst.out c x hx
          have cy' := cell_ov cy B2
          have cx' := cell_ov cx B2
          have hxi : (x : Int) < (N.length : Int) := by omega
          have hyz := nm_size hz (x : Int)
          have hsz : (⟨(refL N r c).toArray⟩ : ByteArray).size ≤ 2000000000 := by
            have e : (⟨(refL N r c).toArray⟩ : ByteArray).size = (refL N r c).length := by simp [ByteArray.size]
            have := hrl.out c
            omega
          have hlt' : (c : Int) < (r.steps.length : Int) := by omega
          cases c with
          | zero =>
            rw [Nat.add_zero] at cx'
            have hN : Hid ((⟨(refL N r 0).toArray⟩ : ByteArray) ++ ⟨#[32]⟩ ++ nm N (x : Int) = ⟨(refL N r (0 + 1)).toArray⟩) := by
              show _ = _
              rw [hrs.out 0, hx]
              apply ByteArray.ext
              simp [nmL]
            clear hx cy cx hrs hrl hrt hat hst
            generalize (⟨(refL N r 0).toArray⟩ : ByteArray) = sb at *
            generalize nm N (x : Int) = y at *
            have z1 : ¬ 9223372036854775807 < sb.size + 1 := by omega
            have z2 : ¬ 9223372036854775807 < sb.size + 1 + y.size := by omega
            clear hsz hyz
            go_wp2
            exact ⟨⟨0 + 1, by omega, by go_num, by rw [← hN.out]⟩, by simp [intOf]; omega⟩
          | succ d =>
            have hN : Hid ((⟨(refL N r (d + 1)).toArray⟩ : ByteArray) ++ ⟨#[44]⟩ ++ ⟨#[32]⟩ ++ nm N (x : Int) = ⟨(refL N r (d + 1 + 1)).toArray⟩) := by
              show _ = _
              rw [hrs.out (d + 1), hx]
              apply ByteArray.ext
              simp [nmL]
            have hd0 : (0 : Int) < ((d + 1 : Nat) : Int) := by omega
            clear hx cy cx hrs hrl hrt hat hst
            generalize (⟨(refL N r (d + 1)).toArray⟩ : ByteArray) = sb at *
            generalize nm N (x : Int) = y at *
            generalize d + 1 = e at *
            have z0 : ¬ 9223372036854775807 < sb.size + 1 := by omega
            have z1 : ¬ 9223372036854775807 < sb.size + 1 + 1 := by omega
            have z1' : ¬ 9223372036854775807 < sb.size + 2 := by omega
            have z2 : ¬ 9223372036854775807 < sb.size + 1 + 1 + y.size := by omega
            have z2' : ¬ 9223372036854775807 < sb.size + 2 + y.size := by omega
            clear hsz hyz
            go_wp2
            exact ⟨⟨e + 1, by omega, by go_num, by rw [← hN.out]⟩, by simp [intOf]; omega⟩
        · obtain rfl : c = r.steps.length := by omega
          rw [hrt.out]
          clear hrs hrl hat hst
          go_wp2
          go_ret
          exact ⟨rfl, B2⟩
    · have b2 := C2.out #[.string ⟨#[]⟩, .string ⟨#[97, 112, 97, 114, 116]⟩, .string ⟨#[115, 97, 109, 101]⟩, .string ⟨#[109, 111, 115, 116]⟩, .string ⟨#[102, 101, 119]⟩, .string ⟨#[109, 97, 110, 121]⟩]
      have B1 := hB0.out #[.string ⟨#[]⟩, .string ⟨#[97, 112, 97, 114, 116]⟩, .string ⟨#[115, 97, 109, 101]⟩, .string ⟨#[109, 111, 115, 116]⟩, .string ⟨#[102, 101, 119]⟩, .string ⟨#[109, 97, 110, 121]⟩]
      have hE : Hid ((⟨#[109, 97, 110, 121]⟩ : ByteArray) ++ ⟨#[32]⟩ ++ dg ++ ⟨#[32, 111, 102]⟩ = ⟨(refL N r 0).toArray⟩) := hH.out [109, 97, 110, 121] rfl
      have z2 : ¬ 9223372036854775807 < 5 + dg.size := by omega
      have z3 : ¬ 9223372036854775807 < 5 + dg.size + 3 := by omega
      clear hH hdz
      go_enter Tryd.func7, Tryd.ntmps7
      go_wp2_with (first | (go_at_call 12; refine (KD'.out _).mono ?_; rintro e W2 ⟨rfl, hb2⟩; have c2 := cell_ov b2 hb2))
      have B2 := B1.trans (hb2.mono B1.size)
      clear hB0 C2 b2 B1 hb2
      go_loop [6, 7] (fun s k => ∃ c : Nat, c ≤ r.steps.length ∧ k = .int .i64 c ∧ s = .string ⟨(refL N r c).toArray⟩) (fun _ k => ((r.steps.length : Int) - intOf k).toNat)
      case atStart => exact ⟨0, Nat.zero_le _, rfl, congrArg Value.string (by rw [← hE.out])⟩
      case round =>
        obtain ⟨c, hcl, rfl, rfl⟩ := hrel
        by_cases hlt : c < r.steps.length
        · obtain ⟨x, gn, o, hx, hxl, rfl, cy⟩ := hat.out c hlt
          obtain ⟨g, os, rfl, cx⟩ := hst.out c x hx
          have cy' := cell_ov cy B2
          have cx' := cell_ov cx B2
          have hxi : (x : Int) < (N.length : Int) := by omega
          have hyz := nm_size hz (x : Int)
          have hsz : (⟨(refL N r c).toArray⟩ : ByteArray).size ≤ 2000000000 := by
            have e : (⟨(refL N r c).toArray⟩ : ByteArray).size = (refL N r c).length := by simp [ByteArray.size]
            have := hrl.out c
            omega
          have hlt' : (c : Int) < (r.steps.length : Int) := by omega
          cases c with
          | zero =>
            rw [Nat.add_zero] at cx'
            have hN : Hid ((⟨(refL N r 0).toArray⟩ : ByteArray) ++ ⟨#[32]⟩ ++ nm N (x : Int) = ⟨(refL N r (0 + 1)).toArray⟩) := by
              show _ = _
              rw [hrs.out 0, hx]
              apply ByteArray.ext
              simp [nmL]
            clear hx cy cx hrs hrl hrt hat hst
            generalize (⟨(refL N r 0).toArray⟩ : ByteArray) = sb at *
            generalize nm N (x : Int) = y at *
            have z1 : ¬ 9223372036854775807 < sb.size + 1 := by omega
            have z2 : ¬ 9223372036854775807 < sb.size + 1 + y.size := by omega
            clear hsz hyz
            go_wp2
            exact ⟨⟨0 + 1, by omega, by go_num, by rw [← hN.out]⟩, by simp [intOf]; omega⟩
          | succ d =>
            have hN : Hid ((⟨(refL N r (d + 1)).toArray⟩ : ByteArray) ++ ⟨#[44]⟩ ++ ⟨#[32]⟩ ++ nm N (x : Int) = ⟨(refL N r (d + 1 + 1)).toArray⟩) := by
              show _ = _
              rw [hrs.out (d + 1), hx]
              apply ByteArray.ext
              simp [nmL]
            have hd0 : (0 : Int) < ((d + 1 : Nat) : Int) := by omega
            clear hx cy cx hrs hrl hrt hat hst
            generalize (⟨(refL N r (d + 1)).toArray⟩ : ByteArray) = sb at *
            generalize nm N (x : Int) = y at *
            generalize d + 1 = e at *
            have z0 : ¬ 9223372036854775807 < sb.size + 1 := by omega
            have z1 : ¬ 9223372036854775807 < sb.size + 1 + 1 := by omega
            have z1' : ¬ 9223372036854775807 < sb.size + 2 := by omega
            have z2 : ¬ 9223372036854775807 < sb.size + 1 + 1 + y.size := by omega
            have z2' : ¬ 9223372036854775807 < sb.size + 2 + y.size := by omega
            clear hsz hyz
            go_wp2
            exact ⟨⟨e + 1, by omega, by go_num, by rw [← hN.out]⟩, by simp [intOf]; omega⟩
        · obtain rfl : c = r.steps.length := by omega
          rw [hrt.out]
          clear hrs hrl hat hst
          go_wp2
          go_ret
          exact ⟨rfl, B2⟩
end Go.Proofs.YtkfopeeegbdhlaaDoor
