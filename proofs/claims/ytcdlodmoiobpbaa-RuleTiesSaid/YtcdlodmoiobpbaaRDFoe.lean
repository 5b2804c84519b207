/- The document's foe: the steps of one block are foes of those of another one. -/
import Derived.Test.YtcdlodmoiobpbaaRDTies
import Derived.Test.YtcdlodmoiobpbaaRClash
import Derived.Deep.QuietTactic
import Derived.BigQuiet
import Derived.Deep.CutRange
namespace Go.Proofs.Ytcdlodmoiobpbaa
open Go.RowKit
theorem shlcR (i : Nat) (hi : i < 64) : IntKind.u64.wrap (2 ^ i) = ((2 ^ i : Nat) : Int) := by
  have h := shl64 i hi
  rwa [show IntKind.u64.wrap 1 = 1 by decide, Int.one_mul] at h
/-- What foe sets: the bits of a block's steps, at those of another one. -/
def Sets (n : Nat) (F G : Nat → Nat) (P : Nat → Nat → Prop) : Prop := (∀ x y, x < n → ((G x).testBit y = true ↔ (F x).testBit y = true ∨ (y < n ∧ P x y))) ∧ ∀ x, x < n → G x < 2 ^ n
theorem Sets.refl {n : Nat} {F : Nat → Nat} {P : Nat → Nat → Prop} (hF : ∀ x, x < n → F x < 2 ^ n) (hP : ∀ x y, ¬ P x y) : Sets n F F P :=
  ⟨fun x y _ => ⟨fun h => .inl h, fun h => h.elim id fun h => absurd h.2 (hP x y)⟩, hF⟩
theorem Sets.same {n : Nat} {F G : Nat → Nat} {P Q : Nat → Nat → Prop} (h : Sets n F G P) (hPQ : ∀ x y, x < n → y < n → (P x y ↔ Q x y)) : Sets n F G Q :=
  ⟨fun x y hx => by
    rw [h.1 x y hx]
    constructor
    · rintro (h1 | ⟨h1, h2⟩)
      · exact .inl h1
      · exact .inr ⟨h1, (hPQ x y hx h1).1 h2⟩
    · rintro (h1 | ⟨h1, h2⟩)
      · exact .inl h1
      · exact .inr ⟨h1, (hPQ x y hx h1).2 h2⟩, h.2⟩
theorem Sets.put {n : Nat} {F G : Nat → Nat} {P Q : Nat → Nat → Prop} {a b : Nat} (h : Sets n F G P) (ha : a < n) (hb : b < n) (hPQ : ∀ x y, Q x y ↔ P x y ∨ (x = a ∧ y = b)) : Sets n F (fun x => if x = a then G a ||| 2 ^ b else G x) Q := by
  refine ⟨fun x y hx => ?_, fun x hx => ?_⟩
  · by_cases e : x = a
    · subst e
      simp only [if_true]
      rw [Nat.testBit_or, Bool.or_eq_true, h.1 x y hx, Nat.testBit_two_pow]
      constructor
      · rintro ((h1 | ⟨h1, h2⟩) | h1)
        · exact .inl h1
        · exact .inr ⟨h1, (hPQ x y).2 (.inl h2)⟩
        · have : b = y := by simpa using h1
          subst this
          exact .inr ⟨hb, (hPQ x b).2 (.inr ⟨rfl, rfl⟩)⟩
      · rintro (h1 | ⟨h1, h2⟩)
        · exact .inl (.inl h1)
        · rcases (hPQ x y).1 h2 with h3 | ⟨_, h3⟩
          · exact .inl (.inr ⟨h1, h3⟩)
          · subst h3; right; simp
    · simp only [if_neg e]
      rw [h.1 x y hx]
      constructor
      · rintro (h1 | ⟨h1, h2⟩)
        · exact .inl h1
        · exact .inr ⟨h1, (hPQ x y).2 (.inl h2)⟩
      · rintro (h1 | ⟨h1, h2⟩)
        · exact .inl h1
        · rcases (hPQ x y).1 h2 with h3 | ⟨h3, _⟩
          · exact .inr ⟨h1, h3⟩
          · exact absurd h3 e
  · by_cases e : x = a
    · simp only [if_pos e]
      exact Nat.or_lt_two_pow (h.2 a ha) (Nat.pow_lt_pow_right (by decide) hb)
    · simp only [if_neg e]
      exact h.2 x hx
def foeP (t : List Nat) (p q c d x y : Nat) : Prop := (x < c ∨ x = c ∧ y < d) ∧ t.getD x 0 = t.getD p 0 ∧ t.getD y 0 = t.getD q 0
set_option maxRecDepth 100000 in
set_option maxHeartbeats 2000000 in
theorem rFoe (gw n p q : Nat) (F : Nat → Nat) (t : List Nat) (ot : Option Addr) (ct : Nat) (w : World) (hrow : w.ownsRow gw 48 1 (.slice (some ⟨gw, 0, none⟩) n n) n (cellsW F n)) (hs : ∀ i x : Nat, t[i]? = some x → ∃ g' o, ot = some ⟨g', o, none⟩ ∧ g' < gw ∧ w.cell? ⟨g', o + i, none⟩ = some (.int .i64 (x : Int))) (htl : t.length = n) (hn : n ≤ 12) (hp : p < n) (hq : q < n) (hF : ∀ x, x < n → F x < 2 ^ n) :
    Calls Try.prog 29 #[.slice (some ⟨gw, 0, none⟩) n n, .slice ot n ct, .int .i64 (p : Int), .int .i64 (q : Int)] w fun e w' => e = .returned (.tuple #[]) ∧ (∃ G, Hid (w'.ownsRow gw 48 1 (.slice (some ⟨gw, 0, none⟩) n n) n (cellsW G n)) ∧ Hid (Sets n F G (foeP t p q n 0))) ∧ Hid (Below gw w w') := by
  have hs' := hide' hs
  have hat : Hid (∀ c, c < n → ∃ x, t[c]? = some x) := fun c hc => ⟨_, List.getElem?_eq_getElem (by omega)⟩
  have hstart : Hid (∃ G, Hid (w.ownsRow gw 48 1 (.slice (some ⟨gw, 0, none⟩) n n) n (cellsW G n)) ∧ Hid (Sets n F G (foeP t p q 0 0))) := ⟨F, hrow, Sets.refl hF fun x y h => by unfold foeP at h; omega⟩
  have hover : Hid (∀ c, ∀ G, Sets n F G (foeP t p q c n) → Sets n F G (foeP t p q (c + 1) 0)) := fun c G h => h.same fun x y hx hy => by unfold foeP; constructor <;> rintro ⟨h1, h2⟩ <;> exact ⟨by omega, h2⟩
  have hskip : Hid (∀ c d, ∀ G, ¬ (t.getD c 0 = t.getD p 0 ∧ t.getD d 0 = t.getD q 0) → Sets n F G (foeP t p q c d) → Sets n F G (foeP t p q c (d + 1))) := fun c d G hno h => h.same fun x y hx hy => by
    unfold foeP
    constructor
    · rintro ⟨h1, h2⟩; exact ⟨by omega, h2⟩
    · rintro ⟨h1, h2, h3⟩
      refine ⟨?_, h2, h3⟩
      rcases h1 with h1 | ⟨h1, h4⟩
      · exact .inl h1
      · by_cases e : y = d
        · subst h1; subst e; exact absurd ⟨h2, h3⟩ hno
        · exact .inr ⟨h1, by omega⟩
  have hput : Hid (∀ c d, ∀ G, c < n → d < n → t.getD c 0 = t.getD p 0 → t.getD d 0 = t.getD q 0 → Sets n F G (foeP t p q c d) → Sets n F (fun x => if x = c then G c ||| 2 ^ d else G x) (foeP t p q c (d + 1))) := fun c d G hc hd h1 h2 h => h.put hc hd fun x y => by
    unfold foeP
    constructor
    · rintro ⟨h3, h4, h5⟩
      by_cases e : x = c ∧ y = d
      · exact .inr e
      · exact .inl ⟨by omega, h4, h5⟩
    · rintro (⟨h3, h4⟩ | ⟨rfl, rfl⟩)
      · exact ⟨by omega, h4⟩
      · exact ⟨by omega, h1, h2⟩
  obtain ⟨xp, hxp⟩ := hat.out p hp
  obtain ⟨xq, hxq⟩ := hat.out q hq
  obtain ⟨g', o, rfl, hgg, cp⟩ := hs'.out p xp hxp
  obtain ⟨_, _, e, _, cq⟩ := hs'.out q xq hxq
  cases e
  have ep := getD_some hxp
  have eq := getD_some hxq
  rw [ep, eq] at hskip hput
  clear hs hrow hF hxp hxq ep eq htl
  have hfin : Hid (∀ (W : World) G, W.ownsRow gw 48 1 (.slice (some ⟨gw, 0, none⟩) n n) n (cellsW G n) → Sets n F G (foeP t p q n 0) → ∃ G, Hid (W.ownsRow gw 48 1 (.slice (some ⟨gw, 0, none⟩) n n) n (cellsW G n)) ∧ Hid (Sets n F G (foeP t p q n 0))) := fun W G h1 h2 => ⟨G, h1, h2⟩
  generalize foeP t p q = PP at *
  go_enter Try.func29, Try.ntmps29
  go_wp2
  go_loopw [8, 9] (fun k _ wr => ∃ (c : Nat), c ≤ n ∧ k = .int .i64 c ∧ Hid (∃ G, Hid (wr.ownsRow gw 48 1 (.slice (some ⟨gw, 0, none⟩) n n) n (cellsW G n)) ∧ Hid (Sets n F G (PP c 0))) ∧ Hid (Below gw w wr)) (fun k _ _ => ((n : Int) - intOf k).toNat)
  case atStart => exact ⟨0, Nat.zero_le _, rfl, hstart, Below.refl _ _⟩
  case round =>
    clear hstart
    obtain ⟨c, hcl, rfl, hO, hB⟩ := hrel
    by_cases hlt : c < n
    · obtain ⟨xc, hxc⟩ := hat.out c hlt
      obtain ⟨_, _, e, _, cc⟩ := hs'.out c xc hxc
      cases e
      have ec := getD_some hxc
      have hovc := hide' (hover.out c)
      have hskc := hide' (hskip.out c)
      have hpuc := hide' (hput.out c)
      rw [ec] at hskc hpuc
      clear hover hskip hput hfin hxc ec
      go_wp2
      go_loopw [9] (fun k wr => ∃ (d : Nat), d ≤ n ∧ k = .int .i64 d ∧ Hid (∃ G, Hid (wr.ownsRow gw 48 1 (.slice (some ⟨gw, 0, none⟩) n n) n (cellsW G n)) ∧ Hid (Sets n F G (PP c d))) ∧ Hid (Below gw w wr)) (fun k _ => ((n : Int) - intOf k).toNat)
      case atStart => exact ⟨0, Nat.zero_le _, rfl, hO, hB⟩
      case round =>
        clear hO hB
        obtain ⟨d, hdl, rfl, hO, hB⟩ := hrel
        obtain ⟨G, hO, hG⟩ := hO.out
        by_cases hltd : d < n
        · obtain ⟨xd, hxd⟩ := hat.out d hltd
          obtain ⟨_, _, e, _, cd⟩ := hs'.out d xd hxd
          cases e
          have ed := getD_some hxd
          have cp' := (hB.out.cell (p := ⟨g', o + p, none⟩) hgg).trans cp
          have cq' := (hB.out.cell (p := ⟨g', o + q, none⟩) hgg).trans cq
          have cc' := (hB.out.cell (p := ⟨g', o + c, none⟩) hgg).trans cc
          have cd' := (hB.out.cell (p := ⟨g', o + d, none⟩) hgg).trans cd
          have hskd := hide' (hskc.out d G)
          have hpud := hide' (hpuc.out d G hlt hltd)
          rw [ed] at hskd hpud
          clear hskc hpuc hs' hat hxd ed cp cq cc cd hovc
          by_cases h1 : xc = xp
          · subst h1
            by_cases h2 : xd = xq
            · subst h2
              have hG' := hide' (hpud.out rfl rfl hG.out)
              have cw : wr.cell? ⟨gw, c, none⟩ = some (.int .u64 ((G c : Nat) : Int)) := by rw [hO.out.cellAt c (by omega)]; exact cellsW_at _ hlt
              have fz := hO.out.frozenAt c
              have hpw : 2 ^ d ≤ 33554432 := pow_le12 (by omega)
              have hGc : G c < 18446744073709551616 := by
                have := hG.out.2 c hlt
                have := pow_le12 (n := n) (by omega)
                omega
              have hsh := shlcR d (by omega)
              have hor := u64_or_nat (G c) (2 ^ d) hGc (by omega)
              rw [← hsh] at hor
              have hS : Hid (∀ k, ((wr.drewN k).setCell ⟨gw, c, none⟩ (.int .u64 ((G c ||| 2 ^ d : Nat) : Int))).ownsRow gw 48 1 (.slice (some ⟨gw, 0, none⟩) n n) n (cellsW (fun x => if x = c then G c ||| 2 ^ d else G x) n)) := fun k => by
                have h0 : (wr.drewN k).ownsRow gw 48 1 (.slice (some ⟨gw, 0, none⟩) n n) n (cellsW G n) := hO.out
                have h := (h0.stored c (.int .u64 ((G c ||| 2 ^ d : Nat) : Int))).1
                rwa [cellsW_set] at h
              have hBk : Hid (∀ k, Below gw w ((wr.drewN k).setCell ⟨gw, c, none⟩ (.int .u64 ((G c ||| 2 ^ d : Nat) : Int)))) := fun k => (below_drewN hB.out k).setCell (Nat.le_refl _) _
              have hor' := hide' hor
              clear hpud hskd hG hO hpw hGc hsh hor
              go_upto_region 6 with fail
              go_quiet (fail)
              go_upto_region 7 with fail
              go_region
              rw [hor'.out]
              go_wp2
              exact ⟨⟨d + 1, by omega, by go_num, ⟨_, hS.out _, hG'⟩, hBk.out _⟩, by simp [intOf]; omega⟩
            · have hne : ((xd : Int) == (xq : Int)) = false := by simp; omega
              have hG' := hide' (hskd.out (fun h => h2 h.2) hG.out)
              clear hskd hpud hG
              go_upto_region 6 with fail
              go_quiet (fail)
              go_wp2
              exact ⟨⟨d + 1, by omega, by go_num, ⟨G, hO, hG'⟩, below_drewN hB.out _⟩, by simp [intOf]; omega⟩
          · have hne : ((xc : Int) == (xp : Int)) = false := by simp; omega
            have hG' := hide' (hskd.out (fun h => h1 h.1) hG.out)
            clear hskd hpud hG
            go_upto_region 6 with fail
            go_quiet (fail)
            go_wp2
            exact ⟨⟨d + 1, by omega, by go_num, ⟨G, hO, hG'⟩, below_drewN hB.out _⟩, by simp [intOf]; omega⟩
        · obtain rfl : d = n := by omega
          have hG' := hide' (hovc.out G hG.out)
          clear hskc hpuc hs' hat hovc hG
          go_wp2
          exact ⟨⟨c + 1, by omega, by go_num, ⟨G, hO, hG'⟩, hB⟩, by simp [intOf]; omega⟩
    · obtain rfl : c = n := by omega
      obtain ⟨G, hO, hG⟩ := hO.out
      have hF := hide' (hfin.out _ _ hO.out hG.out)
      clear hover hskip hput hfin hat hs'
      go_wp2
      exact bodyPost_end (v := .tuple #[]) (by simp [results, Try.results29, go_sem]) rfl ⟨rfl, hF.out, hB⟩
end Go.Proofs.Ytcdlodmoiobpbaa
