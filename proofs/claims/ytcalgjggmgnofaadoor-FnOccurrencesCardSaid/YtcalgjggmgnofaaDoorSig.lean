/- What is proved here: nothing of its own: a signature in memory and lists of texts, together. No condition. -/
import Derived.Test.YtcalgjggmgnofaaDoorReads
import Derived.Test.YtcalgjggmgnofaaDoorSigBase
