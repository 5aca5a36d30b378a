/- sets.Whole. -/
import Derived.Test.YtlmpeacgjafcjaaQuietQ
namespace Go.Proofs.Ytlmpeacgjafcjaa
open Go.RowKit

end Go.Proofs.Ytlmpeacgjafcjaa
