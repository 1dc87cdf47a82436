/- The walk of impl.Blocks. -/
import Derived.Test.YtmdjdkfdcbedoaaBlkPlain
import Derived.Test.YtmdjdkfdcbedoaaCutWalks
import Derived.Test.YtmdjdkfdcbedoaaStrOwn
namespace Go.Proofs.Ytmdjdkfdcbedoaa.Bk
open Go.RowKit
open Go.Proofs.Ytmdjdkfdcbedoaa.St (OwnS one_newS one_cellS app_one)
open Go.Proofs.Ytmdjdkfdcbedoaa.Nu (cut_any)

theorem hideK {p : Prop} (h : p) : Hid p := h

end Go.Proofs.Ytmdjdkfdcbedoaa.Bk
