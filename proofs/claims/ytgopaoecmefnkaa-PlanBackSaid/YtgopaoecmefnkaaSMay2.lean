/- Who may do a step, as the document has it and as the laws have it. -/
import Derived.Test.YtgopaoecmefnkaaSReoB
namespace Go.Proofs.Ytgopaoecmefnkaa.S
open Go.RowKit Go.Shelf
end Go.Proofs.Ytgopaoecmefnkaa.S
