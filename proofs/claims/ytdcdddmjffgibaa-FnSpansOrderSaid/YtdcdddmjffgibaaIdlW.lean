/- Ideals: both sides. -/
import Derived.Test.YtdcdddmjffgibaaIdlS
import Derived.Test.YtdcdddmjffgibaaIdlI
namespace Go.Proofs.Ytdcdddmjffgibaa
end Go.Proofs.Ytdcdddmjffgibaa
