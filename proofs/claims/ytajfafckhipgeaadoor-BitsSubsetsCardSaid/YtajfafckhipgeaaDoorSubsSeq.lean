/- Subsets' iterator keeps its contract, by the numbers of the set. -/
import Derived.Test.YtajfafckhipgeaaDoorSubs
namespace Go.Proofs.YtajfafckhipgeaaDoor
open Go.RowKit Go.Shelf
theorem subs_seq : ∀ (l : List (Fin 64)) (n x Bn : Nat) (w : World), nums x = l → x < 18446744073709551616 → Bn < w.heap.size → Tab w → w.cell? ⟨Bn, 0, none⟩ = some (.int .u64 x) →
    SeqN n Tryd.prog 50 #[.pointer (some ⟨Bn, 0, none⟩)] encW (KpB Bn) (fun ys => ys = subsL l) (fun pre => pre <+: subsL l) (subsL l).length w
  | [], n, x, Bn, w, hn, hx, hBn, _, hc => fun l J Jx W hW hJ _ hY h0 => by
    obtain rfl : x = 0 := nums_eq_nil hx hn
    exact subs0_64 n l Bn J Jx W hY (Nat.lt_of_lt_of_le hBn hW.size) hJ ((hW.cell (p := ⟨Bn, 0, none⟩) hBn).trans hc) h0
  | j :: r, n, x, Bn, w, hn, hx, hBn, ht, hc => fun l J Jx W hW hJ hJx hY h0 =>
    subs1_64 n l Bn x j r hx hn J Jx W (fun x' Bn' w' h1 h2 h3 h4 h5 => subs_seq r (n - 1) x' Bn' w' h1 h2 h3 h4 h5) hY (Nat.lt_of_lt_of_le hBn hW.size) hJ hJx (ht.over hW) ((hW.cell (p := ⟨Bn, 0, none⟩) hBn).trans hc) h0
end Go.Proofs.YtajfafckhipgeaaDoor
