/- Down's iterator, walked: it ranges over the mirror's numbers and tells each one turned about. -/
import Derived.Test.YtajfafckhipgeaaDoorDownA
namespace Go.Proofs.YtajfafckhipgeaaDoor
open Go.RowKit Go.Shelf
attribute [local go_sem] Oper.semAt_some
set_option maxRecDepth 100000 in
set_option maxHeartbeats 1000000 in
theorem down1_32 (n l Bn : Nat) (x : Nat) (hn : 1 ≤ n) (hx : x < 4294967296) (J Jx : List Int → World → Prop) (W : World)
    (hY : ∀ pre z V, J pre V → pre.length < (nums x).length → YieldAt Fence.wide (n - 1) Tryd.prog l #[.int .i64 z] V fun e V' =>
      (e = .returned (.bool true) ∧ J (pre ++ [z]) V' ∧ KpB Bn V V' ∧ Kept W.heap.size V V') ∨ (e = .returned (.bool false) ∧ Jx (pre ++ [z]) V' ∧ Kept W.heap.size V V'))
    (hBn : Bn < W.heap.size) (hJ : OwnFrom W.heap.size J) (hJx : OwnFrom W.heap.size Jx) (ht : Tab W) (hc : W.cell? ⟨Bn, 0, none⟩ = some (.int .u32 x)) (h0 : J [] W) :
    CallsIn Fence.wide n Tryd.prog 46 #[.func (.yield l) #[] #[], .pointer (some ⟨Bn, 0, none⟩)] W fun e W' => (∃ v, e = .returned v) ∧
      ((∃ ys, ys = downs x ∧ J ys W') ∨ (∃ pre, pre <+: downs x ∧ Jx pre W')) := by
  have hmx : Tryd.prog.follows Departure.mixedOrders = true := by kernel_rfl
  have hm := mirror32 x hx
  have hd := downs_mirror x hx
  have hyl : rev x / 4294967296 < 4294967296 := by have := (rev_bit x 0 (by omega) (by decide)).2; omega
  generalize rev x / 4294967296 = y at hm hd hyl
  have hlen : (nums y).length = (nums x).length := by have := congrArg List.length hd; simpa [downs] using this
  have h3 := ht.2
  refine callsIn_of_wp_marks Tryd.func46 rfl trivial ?_ rfl
  simp only [Tryd.ntmps46, List.size_toArray, List.length_cons, List.length_nil, Nat.reduceAdd, Nat.reduceSub, Array.replicate_succ, Array.replicate_zero, List.push_toArray, List.append_toArray, List.nil_append, List.cons_append]
  gi_wp2_with (first | (refine ⟨trivial, ?_⟩; gi_at_call 47; refine (callsIn_wide.2 (hm _)).mono ?_; rintro e w1 ⟨rfl, hb⟩) | (refine ⟨trivial, ?_⟩; gi_at_call 48; refine (callsIn_wide.2 (all32 _ _)).mono ?_; rintro e w' ⟨rfl, rfl⟩))
  have s1 : W.heap.size + 1 ≤ w1.heap.size := by have := hb.size; simpa using this
  have bY : Boxed w1 W.heap.size 28 (.func (.yield l) #[] #[]) := (hb.block _ (by simp)).trans (World.alloc_heap_new W _)
  have bN := Boxed.new w1 46 (.int .u32 y)
  have hB : Below W.heap.size W (w1.alloc (.cells #[.int .u32 y] 46)) := (((Below.refl _ W).alloc (Nat.le_refl _) _).trans (hb.mono (by simp))).alloc (by omega) _
  have hG : Gd l Bn x W.heap.size (w1.alloc (.cells #[.int .u32 y] 46)).heap.size (w1.alloc (.cells #[.int .u32 y] 46)) := ⟨Nat.le_refl _, (hB.cell (p := ⟨Bn, 0, none⟩) hBn).trans hc, ht.over hB, bY.alloc _⟩
  have hJ1 : J [] (w1.alloc (.cells #[.int .u32 y] 46)) := hJ _ _ _ none h0 (grown_none hB) (fun r e => by cases e)
  have hs1 : (w1.alloc (.cells #[.int .u32 y] 46)).heap.size = w1.heap.size + 1 := by simp
  clear bY hb
  generalize w1.alloc (.cells #[.int .u32 y] 46) = W2 at *
  generalize w1.heap.size = bs at *
  have hup : ∀ {I : List Int → World → Prop}, OwnFrom W.heap.size I → OwnFrom W2.heap.size (fun (pre : List (Fin 64)) V => I (pre.map flipI) V) := fun h s Y Z row hI hg hr => h _ Y Z row hI hg fun r e => ⟨by have := (hr r e).1; omega, (hr r e).2⟩
  have hgo : OwnFrom (β := Unit) W2.heap.size (fun _ V => Gd l Bn x W.heap.size W2.heap.size V) := Gd.own (by omega) (by omega) (by omega)
  refine wpIn_rangeFunc_ownG rfl hn (gf := 59) (lb := #[.pointer (some ⟨bs, 0, none⟩)]) rfl trivial (enters_of Tryd.func59 (by kernel_rfl) rfl)
    (all_stops32 (n - 1) bs y hyl W2 (by omega) hG.2.2.1 bN.cell) KpB.t (KpB.b (by omega) (by omega)) (Below.refl _ _) (fun _ => rfl)
    (fun pre V => J (pre.map flipI) V ∧ Gd l Bn x W.heap.size W2.heap.size V) (fun c pre V => c = .ret ∧ Jx (pre.map flipI) V)
    ((hup hJ).and fun s Y Z row h hg hr => hgo () Y Z row h hg hr) (fun c s Y Z row h hg hr => ⟨h.1, hup hJx s Y Z row h.2 hg hr⟩) ⟨hJ1, hG⟩ ?a1 ?assign ?body ?done ?stop
  case assign =>
    intro l k W K' hK'
    gi_wp2
    exact hK'
  case body =>
    rintro l' pre k V ⟨hJv, hGv⟩ hlt
    obtain ⟨g1, cS, g3, g4⟩ := hGv
    have cY := g4.cell
    have HY : Hid (∀ w3, Below V.drew.heap.size V.drew w3 → w3.cell? ⟨W.heap.size, 0, none⟩ = some (.func (.yield l) #[] #[]) ∧ YieldAt (Fence.wide.inRound l') (n - 1 - 1 - 1) Tryd.prog l #[.int .i64 (31 - (k.val : Int))] w3 fun e V' =>
        ∃ b, e = .returned (.bool b) ∧ Hid (KeepsFrom W2.heap.size V V' ∧ ((b = true ∧ J ((pre ++ [k]).map flipI) V' ∧ Gd l Bn x W.heap.size W2.heap.size V' ∧ KpB bs V V') ∨ (b = false ∧ Jx ((pre ++ [k]).map flipI) V')))) := by
      intro w3 hb3d
      have hb3 : Below V.heap.size V w3 := (Below.refl _ V).drew.trans hb3d
      have hg3 : Gd l Bn x W.heap.size W2.heap.size w3 := Gd.below ⟨g1, cS, g3, g4⟩ hb3 (by omega) (by omega) (by omega)
      have kb3 : KpB bs V w3 := KpB.of_below hb3 (by omega) (by omega)
      have kf3 : KeepsFrom W2.heap.size V w3 := (Kept.below (B := 0) hb3).from (Nat.zero_le _)
      refine ⟨hg3.2.2.2.cell, yieldAny ((hY (pre.map flipI) _ w3 (hJ _ _ _ none hJv (grown_none hb3) (fun r e => by cases e)) (by simp; omega)).mono ?_) l'⟩
      rintro e V' (⟨rfl, h1, h2, h4⟩ | ⟨rfl, h1, h4⟩)
      · exact ⟨true, rfl, kf3.trans (h4.from (by omega)), .inl ⟨rfl, by simpa [flipI] using h1, hg3.round h2 h4 (Nat.le_refl _), kb3.t (h2.of_kept h4 (by omega) (by have := hb3.size; omega))⟩⟩
      · exact ⟨false, rfl, kf3.trans (h4.from (by omega)), .inr ⟨rfl, by simpa [flipI] using h1⟩⟩
    have hk := k.isLt
    have hw31 : IntKind.i64.wrap 31 = 31 := by decide
    have hwk : IntKind.i64.wrap (31 - (k.val : Int)) = 31 - (k.val : Int) := wrap31 k
    clear hY hm hd hJ hJx hup hgo hJv h0 hJ1 hG bN hB hc ht g3 g4 hs1 s1 g1
    gi_wp2
    gi_region_with_o (first | (refine ⟨trivial, fun h => absurd h (by decide), ?_⟩; gi_at_call 49; refine (CallsIn.inRound l' (callsIn_wide.2 (width32 _ _))).mono ?_; rintro e w3 ⟨rfl, hb3⟩; obtain ⟨cY3, fn, tmps, assign, body, hy, hR⟩ := HY.out w3 hb3) | (refine ⟨fun h => absurd h (by decide), ?_⟩; refine hR.mono ?_; rintro e W4 ⟨b, rfl, h4⟩))
    all_goals
      obtain ⟨hkf, ⟨rfl, h5, h6, h7⟩ | ⟨rfl, h5⟩⟩ := h4.out
      · gi_wp2
        exact ⟨hkf, h7, h5, h6⟩
      · gi_wp2
        exact ⟨hkf, rfl, h5⟩
  case done =>
    rintro D ys V hD rfl ⟨h1, h2⟩ hK
    have h5 : J (downs x) V := by rw [← hd]; exact h1
    gi_wp2
    refine ⟨by simp, .inl ⟨_, _, rfl, run_takeDeferred hK, ?_⟩⟩
    exact ⟨_, results_none rfl _ _ _, ⟨_, rfl⟩, .inl ⟨_, rfl, hJ.putObj _ h5 (by omega) hK rfl⟩⟩
  case stop =>
    rintro D c pre V hD hp ⟨rfl, h1⟩ hK
    have h5 : pre.map flipI <+: downs x := by rw [← hd]; exact hp.map _
    gi_wp2
    refine ⟨by simp, .inl ⟨_, _, rfl, run_takeDeferred hK, ?_⟩⟩
    exact ⟨_, results_none rfl _ _ _, ⟨_, rfl⟩, .inr ⟨_, h5, hJx.putObj _ h1 (by omega) hK rfl⟩⟩
theorem down_seq (n Bn x : Nat) (hn : 1 ≤ n) (hx : x < 4294967296) (w : World) (hBn : Bn < w.heap.size) (ht : Tab w) (hc : w.cell? ⟨Bn, 0, none⟩ = some (.int .u32 x)) :
    SeqN n Tryd.prog 46 #[.pointer (some ⟨Bn, 0, none⟩)] (fun z : Int => #[.int .i64 z]) (KpB Bn) (fun ys => ys = downs x) (fun pre => pre <+: downs x) (nums x).length w := fun l J Jx W hW hJ hJx hY h0 =>
  down1_32 n l Bn x hn hx J Jx W hY (Nat.lt_of_lt_of_le hBn hW.size) hJ hJx (ht.over hW) ((hW.cell (p := ⟨Bn, 0, none⟩) hBn).trans hc) h0
end Go.Proofs.YtajfafckhipgeaaDoor
