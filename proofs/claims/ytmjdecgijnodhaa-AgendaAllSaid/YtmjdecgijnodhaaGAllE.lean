/- A row of the entries that rises is the document's order. -/
import Derived.Test.YtmjdecgijnodhaaGTieM
namespace Go.Proofs.Ytmjdecgijnodhaa
theorem rise_eq : ∀ {l1 l2 : List Ent}, l1.Pairwise ltE → l2.Pairwise ltE → (∀ x, x ∈ l1 ↔ x ∈ l2) → l1 = l2
  | [], [], _, _, _ => rfl
  | [], y :: l2, _, _, h => absurd ((h y).2 List.mem_cons_self) (by simp)
  | x :: l1, [], _, _, h => absurd ((h x).1 List.mem_cons_self) (by simp)
  | x :: l1, y :: l2, h1, h2, h => by
    rw [List.pairwise_cons] at h1 h2
    have e : x = y := by
      rcases List.mem_cons.1 ((h x).1 List.mem_cons_self) with e | e
      · exact e
      · rcases List.mem_cons.1 ((h y).2 List.mem_cons_self) with e2 | e2
        · exact e2.symm
        · exact absurd (h2.1 x e) (h1.1 y e2).asymm
    subst e
    rw [rise_eq h1.2 h2.2 fun z => ⟨fun hz => ?_, fun hz => ?_⟩]
    · rcases List.mem_cons.1 ((h z).1 (List.mem_cons_of_mem _ hz)) with e | e
      · subst e; exact absurd (h1.1 z hz) (ltE.irrefl z)
      · exact e
    · rcases List.mem_cons.1 ((h z).2 (List.mem_cons_of_mem _ hz)) with e | e
      · subst e; exact absurd (h2.1 z hz) (ltE.irrefl z)
      · exact e
theorem perm_allE {M l : List Ent} {sets : Nat} (h : Ti M sets) (hp : l.Perm M) (hs : l.Pairwise fun x y => ¬ ltE y x) : l = allE M := by
  obtain ⟨h1, h2⟩ := allE_ok M h.rise
  have hne : M.Pairwise fun x y => x.turn ≠ y.turn := h.rise.imp fun {a b} (x : a.turn < b.turn) => by omega
  have hn2 : l.Pairwise fun x y => x.turn ≠ y.turn := (hp.pairwise_iff (fun {a b} (x : a.turn ≠ b.turn) => x.symm)).2 hne
  have hb : l.Pairwise ltE := (hs.and hn2).imp fun {a b} x => ltE.or x.1 (fun e => x.2 e.symm)
  exact rise_eq hb h1 fun x => (hp.mem_iff).trans (h2 x).symm
end Go.Proofs.Ytmjdecgijnodhaa
