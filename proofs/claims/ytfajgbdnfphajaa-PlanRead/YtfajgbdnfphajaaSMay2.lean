/- Who may do a step, as the document has it and as the laws have it. -/
import Derived.Test.YtfajgbdnfphajaaSReoB
namespace Go.Proofs.Ytfajgbdnfphajaa.S
open Go.RowKit Go.Shelf
end Go.Proofs.Ytfajgbdnfphajaa.S
