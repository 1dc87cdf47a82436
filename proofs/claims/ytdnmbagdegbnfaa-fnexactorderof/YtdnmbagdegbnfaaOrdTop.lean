/- Both OrderOf. -/
import Derived.Test.YtdnmbagdegbnfaaOrdImpl
import Derived.Test.YtdnmbagdegbnfaaOrdSpec
