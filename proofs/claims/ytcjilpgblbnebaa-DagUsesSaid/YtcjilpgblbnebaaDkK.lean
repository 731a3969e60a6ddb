/- What the laws ask of package dag. -/
import Derived.Test.YtcjilpgblbnebaaDkI
import Derived.Test.YtcjilpgblbnebaaDkJ
import Derived.Test.YtcjilpgblbnebaaDgF
namespace Go.Proofs.Ytcjilpgblbnebaa
open Go.RowKit
theorem dag_spec : DagSpec 10 9 12 :=
  ⟨fun nd A n c l Ad n' c' dn s t w hg hd hs ht => dagCount_any nd A n c l Ad n' c' dn s t w hg hd hs ht, fun nd A n c l Ad n' c' dn s t w hg hd hs ht => dagHops_any nd A n c l Ad n' c' dn s t w hg hd hs ht, fun nd A n c l Ad n' c' dn s t w hg hd hs ht => dagUses_any nd A n c l Ad n' c' dn s t w hg hd hs ht⟩
end Go.Proofs.Ytcjilpgblbnebaa
