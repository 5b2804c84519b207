/- Choose's iterator keeps its contract. -/
import Derived.Test.YthjgbnehoiafhaaDoorC62
namespace Go.Proofs.YthjgbnehoiafhaaDoor
open Go.RowKit Go.Shelf
theorem choose_seq : ∀ (k s n kb sb : Nat) (w : World), s < 18446744073709551616 → k ≤ pop64 s → kb < w.heap.size → sb < w.heap.size → Tab w → w.cell? ⟨kb, 0, none⟩ = some (.int .i64 (k : Int)) → w.cell? ⟨sb, 0, none⟩ = some (.int .u64 (s : Int)) →
    SeqL n Tryd.prog 74 #[.pointer (some ⟨kb, 0, none⟩), .pointer (some ⟨sb, 0, none⟩)] encT (KpB sb) (chF k s) w
  | 0, s, n, kb, sb, w, hs, _, hkb, hsb, _, hk, hc => choose_zero s n kb sb w hs hkb hsb hk hc
  | k + 1, s, n, kb, sb, w, hs, hp, hkb, hsb, ht, hk, hc => choose_step k s n kb sb w hs hp hkb hsb ht hk hc fun n' kb' sb' w' h1 h2 h3 h4 h5 => choose_seq k (restX s) n' kb' sb' w' (restX_lt hs) (by have := rest_pop hs (s := s) (by omega); omega) h1 h2 h3 h4 h5
end Go.Proofs.YthjgbnehoiafhaaDoor
