/- Three items and one apart: both sides. -/
import Derived.Test.YtdcdddmjffgibaaTwS3
import Derived.Test.YtdcdddmjffgibaaGb
