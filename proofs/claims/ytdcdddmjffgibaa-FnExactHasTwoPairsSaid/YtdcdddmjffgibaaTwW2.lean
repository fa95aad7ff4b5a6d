/- Two pairs apart: both sides. -/
import Derived.Test.YtdcdddmjffgibaaTwS2
import Derived.Test.YtdcdddmjffgibaaGb
