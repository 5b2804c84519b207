/- The program's agenda beside the document's: what each call leaves. -/
import Derived.Test.YtmjdecgijnodhaaGRefF
namespace Go.Proofs.Ytmjdecgijnodhaa
open Go.RowKit Go.Maps
/-- Both agendas hold the entries of M. -/
structure Sa (W : World) (a r : Nat) (F : Nat → Prop) (rv : Value) (M : List Ent) (sets : Nat) : Prop where
  ag : AgS W a F (fun x => x ∈ M) M.length sets
  rf : RefA W r (M.map prE) rv
  ti : Ti M sets
  nr : ¬ F r
  nv : ∀ g, rv.ownBlock = some g → ¬ F g
/-- What a call of both leaves. -/
def Nz (F : Nat → Prop) (r : Nat) (rv : Value) (F' : Nat → Prop) (rv' : Value) (W W' : World) : Prop :=
  Mv (fun k => F k ∨ k = r) W W' ∧ (∀ k, F' k → F k ∨ W.heap.size ≤ k) ∧ ∀ g, rv'.ownBlock = some g → rv.ownBlock = some g ∨ W.heap.size ≤ g
section
variable {W W' : World} {a r sets : Nat} {F : Nat → Prop} {rv : Value} {M : List Ent}
theorem RefA.lt {L : List (Int × Int)} (h : RefA W r L rv) : r < W.heap.size := (Array.getElem?_eq_some_iff.1 h.box).1
theorem RefA.mv {L : List (Int × Int)} {G : Nat → Prop} (h : RefA W r L rv) (hM : Mv G W W') (hr : ¬ G r) (hv : ∀ g, rv.ownBlock = some g → ¬ G g) : RefA W' r L rv :=
  ⟨(hM.block r h.lt hr).trans h.box, owns_same h.row fun g hg e => hM.block g hg (hv g e), h.ne, h.small⟩
theorem AgS.mv {G : Nat → Prop} {S : Ent → Prop} {n : Nat} (h : AgS W a F S n sets) (hM : Mv G W W') (hG : ∀ k, F k → ¬ G k) : AgS W' a F S n sets := by
  obtain ⟨_, _, _, _, _, _, _, hl⟩ := id h
  exact h.keep hM.size fun k hk => hM.block k (hl k hk) (hG k hk)
theorem RefA.mw {L : List (Int × Int)} {G : Nat → Prop} (h : RefA W r L rv) (hM : Mw G W W') (hr : ¬ G r) (hv : ∀ g, rv.ownBlock = some g → ¬ G g) : RefA W' r L rv :=
  ⟨(hM.block r h.lt hr).trans h.box, owns_same h.row fun g hg e => hM.block g hg (hv g e), h.ne, h.small⟩
theorem AgS.mw {G : Nat → Prop} {S : Ent → Prop} {n : Nat} (h : AgS W a F S n sets) (hM : Mw G W W') (hG : ∀ k, F k → ¬ G k) : AgS W' a F S n sets := by
  obtain ⟨_, _, _, _, _, _, _, hl⟩ := id h
  exact h.keep hM.size fun k hk => hM.block k (hl k hk) (hG k hk)
theorem AgS.congrS {S S' : Ent → Prop} {n n' : Nat} (h : AgS W a F S n sets) (e : ∀ x, S x ↔ S' x) (hn : n = n') : AgS W a F S' n' sets := by
  subst hn
  obtain ⟨h1, h2, h3, h4, h5, h6, h7, h8⟩ := h
  exact ⟨h1, h2, h3, h4, h5, fun x => (e x).symm.trans (h6 x), h7, h8⟩
theorem AgS.ltk {S : Ent → Prop} {n : Nat} (h : AgS W a F S n sets) {k : Nat} (hk : F k) : k < W.heap.size := by
  obtain ⟨_, _, _, _, _, _, _, hl⟩ := h
  exact hl k hk
theorem Sa.below (h : Sa W a r F rv M sets) (hb : Below W.heap.size W W') : Sa W' a r F rv M sets := ⟨h.ag.below hb, h.rf.below hb, h.ti, h.nr, h.nv⟩
theorem Nz.below (hb : Below W.heap.size W W') : Nz F r rv F rv W W' := ⟨Mv.below hb, fun _ h => .inl h, fun _ h => .inl h⟩
/-- The program's change, then the document's. -/
theorem sa_next (h : Sa W a r F rv M sets) {w3 w4 : World} {F' : Nat → Prop} {rv' : Value} {M' : List Ent} {S' : Ent → Prop} {n' sets' : Nat} {L' : List (Int × Int)} (hA : AgS w3 a F' S' n' sets') (hS : ∀ x, S' x ↔ x ∈ M') (hn : n' = M'.length) (hM : Mv F W w3) (hF : ∀ k, F' k → F k ∨ W.heap.size ≤ k)
    (hR : RefA w4 r L' rv') (hL : L' = M'.map prE) (hM4 : Mv (fun k => k = r) w3 w4) (hv : ∀ k, rv'.ownBlock = some k → rv.ownBlock = some k ∨ w3.heap.size ≤ k) (hT : Ti M' sets') : Sa w4 a r F' rv' M' sets' ∧ Nz F r rv F' rv' W w4 := by
  subst hL
  have hrl := h.rf.lt
  have hnr : ¬ F' r := fun e => by
    rcases hF r e with h1 | h1
    · exact h.nr h1
    · omega
  refine ⟨⟨(hA.mv hM4 fun k hk e => hnr (e ▸ hk)).congrS hS hn, hR, hT, hnr, fun g eg hf => ?_⟩, hM.mono (fun _ x => .inl x) |>.trans hM4 (fun _ _ e => .inr e), hF, fun g eg => ?_⟩
  · rcases hv g eg with h1 | h1
    · rcases hF g hf with h2 | h2
      · exact h.nv g h1 h2
      · have := (h.rf.row.lt g h1).2; omega
    · have := hA.ltk hf; omega
  · rcases hv g eg with h1 | h1
    · exact .inl h1
    · exact .inr (Nat.le_trans hM.size h1)
theorem dropN_map (L : List Ent) : ∀ M : List Ent, dropN (M.map prE) (L.map prE) = (remL M L).map prE := by
  induction L with
  | nil => intro M; rfl
  | cons x L ih =>
    intro M
    show dropN (dropL (M.map prE) x.id) (L.map prE) = (remL (remE M x.id) L).map prE
    rw [← remE_map, ih]
theorem len_remL {now : Int} {S : Ent → Prop} (hS : ∀ x, S x ↔ x ∈ M) (hT : Ti M sets) {L : List Ent} {S' : Ent → Prop} (h : Taken now S L S') : M.length = L.length + (remL M L).length := by
  induction h with
  | nil => simp [remL]
  | @snoc L S1 x hT1 hm _ ih =>
    rw [remL_snoc, List.length_append, ih]
    have hx : x ∈ remL M L := (taken_rem hS hT1 x).1 hm.1
    have := len_rem x.id (remL M L) (hT.remL L).ids
    rw [if_pos ⟨x, hx, rfl⟩] at this
    simp
    omega
end
end Go.Proofs.Ytmjdecgijnodhaa
