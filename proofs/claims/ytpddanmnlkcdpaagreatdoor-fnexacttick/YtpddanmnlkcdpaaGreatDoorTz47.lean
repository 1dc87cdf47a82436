/- Texts put together: KpIn, KpCut, KpPiece, KqTop, PmAt, KhHave, KhTop, PlOwn. -/
import Derived.Test.YtpddanmnlkcdpaaGreatDoorTz31
import Derived.WalkKit
import Derived.ProofKit
import Derived.OpenShut
import Derived.ShutString
import Derived.ChangeOld
import Derived.Below
import Derived.ChangeSame
import Derived.Lib.SmallJoins
import Derived.Test.YtpddanmnlkcdpaaGreatDoorTz39
import Derived.Test.YtpddanmnlkcdpaaGreatDoorTz44
set_option maxRecDepth 100000
set_option maxHeartbeats 8000000
/- A Keep that is handed in, opened. -/
namespace Go.Proofs.YtpddanmnlkcdpaaGreatDoor.Kp
open Go.RowKit Go.ChangeShapes Go.WideShapes Go.ChangeAt Go.Deep
theorem cellsList:Tryz.prog.cellsOf 23=3:=by kernel_rfl
theorem cellsStr:Tryz.prog.cellsOf 9=1:=by kernel_rfl
theorem cellsI64:Tryz.prog.cellsOf 2=1:=by kernel_rfl
theorem cellsKeep:Tryz.prog.cellsOf 25=5:=by kernel_rfl
end Go.Proofs.YtpddanmnlkcdpaaGreatDoor.Kp


/- cutKeep, KeepSync, KeepRecover of the program. -/
namespace Go.Proofs.YtpddanmnlkcdpaaGreatDoor.Kp
open Go.RowKit
open Ls (HH hh_keep lV lowL blkL)
def syncV (fit:Rec->Bool) (z b:Int) (r s:ByteArray) (y:Int):Value:=if keepB fit z b r s y=true then kV z b r s s.size else kV z b r s y
def recoverV (fit:Rec->Bool) (z b:Int) (r s:ByteArray) (y:Int):Value:=if mayB z b r s=true then kV z b r (s.extract 0 (allR fit s).2) (allR fit s).2 else kV z b r s y
theorem keepB_yes {fit:Rec->Bool} {z b:Int} {r s:ByteArray} {y:Int} (h:keepB fit z b r s y=true):mayB z b r s=true/\(allR fit s).2=s.size/\spanB s y=true:=by
 unfold keepB atB at h
 simp only[Bool.and_eq_true,decide_eq_true_eq]at h
 exact⟨h.1.1,h.1.2,h.2⟩
end Go.Proofs.YtpddanmnlkcdpaaGreatDoor.Kp


/- PieceOf of the program. -/
namespace Go.Proofs.YtpddanmnlkcdpaaGreatDoor.Kp
open Go.RowKit
open Ls (HH hh_keep lV lowL blkL cells3 set3_all)
def pieceR (out:List Rec) (i:Int):Option ByteArray:=(out.find? fun x=>x.1==i).map (·.2.1)
def pieceV (fit:Rec->Bool) (z b:Int) (r s:ByteArray) (y i:Int):Value :=
 if keepB fit z b r s y=true then
  match pieceR (allR fit s).1 i with
  |some t=>.agg #[.string t,.int .i64 0,.int .i64 0]
  |none=>.agg #[.string ⟨#[]⟩,.int .i64 0,.int .i64 6]
 else .agg #[.string ⟨#[]⟩,.int .i64 0,.int .i64 1]
def tZ:Obj:=.cells #[.string ⟨#[]⟩,.int .i64 0,.int .i64 0] 179
end Go.Proofs.YtpddanmnlkcdpaaGreatDoor.Kp


namespace Go.Proofs.YtpddanmnlkcdpaaGreatDoor.Kp
open Go.RowKit
open Bi (is_yes is_no)
open Ls (rightB right_spec lV lowL blkL cells3 set3_all)
theorem keepB_no {fit:Rec->Bool} {z b:Int} {r s:ByteArray} {y:Int} (h:¬(rightB z b r=true/\s.size<=8000/\0<=y/\y<=s.size)):keepB fit z b r s y=false:=by
 rw[<-Bool.not_eq_true]
 intro h2
 obtain⟨h3,_,h5⟩:=keepB_yes h2
 unfold mayB at h3
 unfold spanB at h5
 simp only[Bool.and_eq_true,decide_eq_true_eq]at h3 h5
 exact h ⟨h3.1,h3.2,h5.1,h5.2⟩
theorem keepB_at {fit:Rec->Bool} {z b:Int} {r s:ByteArray} {y:Int} (h:rightB z b r=true/\s.size<=8000/\0<=y/\y<=s.size):keepB fit z b r s y=(((allR fit s).2:Int)==(s.size:Int)):=by
 unfold keepB atB mayB spanB
 rw[h.1,decide_eq_true h.2.1,decide_eq_true h.2.2.1,decide_eq_true h.2.2.2]
 by_cases he:(allR fit s).2=s.size
 ·rw[decide_eq_true he,he];simp
 ·rw[decide_eq_false he];simp;omega
theorem keepRight_spec (fit:Rec->Bool) (z b:Int) (r s:ByteArray) (y:Int) (w:World) (hs:s.size<=1048576) (hf:rightB z b r=true->FitS fit z b r w) :
  Calls Tryz.prog 58 #[kV z b r s y] w fun e w'=>e=.returned (.bool (keepB fit z b r s y))/\Below w.heap.size w w':=by
 have C0:=hideK ((Cx.nil w).new (kB z b r s y))
 have HR:=hideK (fun W=>right_spec z b r W)
 unfold kV
 unfold kB at C0
 unfold lV at HR
 cases hr:rightB z b r with
 |false =>
  have HK:=hideK (keepB_no (fit:=fit) (z:=z) (b:=b) (r:=r) (s:=s) (y:=y) (fun h=>by rw[hr]at h;exact Bool.false_ne_true h.1))
  rw[HK.out]
  rw[hr]at HR
  clear hr HK hf
  go_enter Tryz.func58,Tryz.ntmps58
  go_wp2_with fail
  refine(HR.out _).mono ?_
  rintro e w1 ⟨rfl,hb⟩
  have C1:=hideK (C0.out.call hb)
  clear hb C0
  go_wp2_with fail
  go_ret
  exact⟨rfl,C1.out.low⟩
 |true =>
  rw[hr]at HR
  by_cases h8:s.size<=8000
  ·have h8':¬((8000:Int)<s.size):=by omega
   have h8D:decide ((8000:Int)<s.size)=false:=by simp;omega
   by_cases hy:0<=y/\y<=s.size
   ·have HIS:=hideK (fun W=>is_yes y 0 s.size W hy.1 hy.2)
    have HK:=hideK (keepB_at (fit:=fit) ⟨hr,h8,hy.1,hy.2⟩)
    rw[HK.out]
    have HA:=hideK (fun W (h:Below w.heap.size w W)=>l08All_any fit z b r s W hs ((hf hr).later h))
    unfold AllOut lV at HA
    clear hr HK hf hy
    go_enter Tryz.func58,Tryz.ntmps58
    go_wp2_with fail
    refine(HR.out _).mono ?_
    rintro e w1 ⟨rfl,hb⟩
    have C1:=hideK (C0.out.call hb)
    clear hb C0
    obtain⟨l0,l1,l2,l3,l4⟩:=k_cells (C1.out.get 0 rfl)
    go_wp2_with fail
    refine(HIS.out _).mono ?_
    rintro e w2 ⟨rfl,hw⟩
    subst w2
    go_wp2_with fail
    refine(HA.out _ C1.out.low).mono ?_
    rintro e w3 ⟨⟨v,m,rfl,h1,h2,h3⟩,hb⟩
    obtain⟨a0,cap0,hv,_⟩:=h2.one
    subst hv
    have C3:=hideK (C1.out.call hb)
    clear hb h1 h2 h3 C1 l0 l1 l2 l3 l4 HA
    obtain⟨l0,l1,l2,l3,l4⟩:=k_cells (C3.out.get 0 rfl)
    go_wp2_with fail
    go_ret
    exact⟨rfl,C3.out.low⟩
   ·have HIS:=hideK (fun W=>is_no y 0 s.size W (by omega))
    have HK:=hideK (keepB_no (fit:=fit) (z:=z) (b:=b) (r:=r) (s:=s) (y:=y) (fun h=>hy ⟨h.2.2.1,h.2.2.2⟩))
    rw[HK.out]
    clear hr HK hf hy
    go_enter Tryz.func58,Tryz.ntmps58
    go_wp2_with fail
    refine(HR.out _).mono ?_
    rintro e w1 ⟨rfl,hb⟩
    have C1:=hideK (C0.out.call hb)
    clear hb C0
    obtain⟨l0,l1,l2,l3,l4⟩:=k_cells (C1.out.get 0 rfl)
    go_wp2_with fail
    refine(HIS.out _).mono ?_
    rintro e w2 ⟨rfl,hw⟩
    subst w2
    go_wp2_with fail
    go_ret
    exact⟨rfl,C1.out.low⟩
  ·have h8':(8000:Int)<s.size:=by omega
   have HK:=hideK (keepB_no (fit:=fit) (z:=z) (b:=b) (r:=r) (s:=s) (y:=y) (fun h=>h8 h.2.1))
   rw[HK.out]
   clear hr HK hf
   go_enter Tryz.func58,Tryz.ntmps58
   go_wp2_with fail
   refine(HR.out _).mono ?_
   rintro e w1 ⟨rfl,hb⟩
   have C1:=hideK (C0.out.call hb)
   clear hb C0
   obtain⟨l0,l1,l2,l3,l4⟩:=k_cells (C1.out.get 0 rfl)
   go_wp2_with fail
   go_ret
   exact⟨rfl,C1.out.low⟩
end Go.Proofs.YtpddanmnlkcdpaaGreatDoor.Kp


/- The number of another one, as the specification looks for it. -/
namespace Go.Proofs.YtpddanmnlkcdpaaGreatDoor.Pm
open Go.RowKit
open Kp (hideK lt_rowK)
open Pe
def atZ (l:List Oth) (nm:ByteArray):Int:=if hasN l nm=true then ((posN l nm:Nat):Int) else -1
end Go.Proofs.YtpddanmnlkcdpaaGreatDoor.Pm


/- Have of the program: the indexes that are there, rising. -/
namespace Go.Proofs.YtpddanmnlkcdpaaGreatDoor.Kp
open Go.RowKit
open Ls (HH hh_keep lV lowL blkL cells3)
open In (OwnI)
open In.Tryz (infoI2)
open Kh (sortZ)
def idxs (m:List MR):List Int:=m.map (·.1.1)
end Go.Proofs.YtpddanmnlkcdpaaGreatDoor.Kp


/- Have of the program: what it answers. -/
namespace Go.Proofs.YtpddanmnlkcdpaaGreatDoor.Kp
open Go.RowKit
open Ls (HH hh_keep lV lowL blkL cells3)
open In (OwnI)
open Kh (sortZ)
def haveL (fit:Rec->Bool) (z b:Int) (r s:ByteArray) (y:Int):List Int:=if keepB fit z b r s y=true then sortZ ((allR fit s).1.map (·.1)) else []
theorem idxs_recs (m:List MR):idxs m=(recs m).map (·.1):=by
 unfold idxs recs
 rw[List.map_map]
 rfl
end Go.Proofs.YtpddanmnlkcdpaaGreatDoor.Kp


/- Rows of the call's own, and blocks of other element types. -/
namespace Go.Proofs.YtpddanmnlkcdpaaGreatDoor.Pl
open Go.RowKit
open Kp
open In (Ints OwnI)
open Ap (KeepE keepE_own)
theorem own_ne_ty {W:World} {base n k g:Nat} {e:TypeId} {v:Value} {xs:List Value} {cs:Array Value} {T:TypeId} (h:W.ownsRow base e k v n xs) (hg:W.heap[g]? = some (.cells cs T (0,0))) (hT:T≠e):v.ownBlock≠some g:=fun hk=>by
 obtain⟨_,h⟩:=h
 rcases h with⟨rfl,_⟩|⟨k,cap,cur,rfl,_,hb,_⟩
 ·simp[Value.ownBlock]at hk
 ·simp[Value.ownBlock]at hk
  subst hk
  exact ty_ne hg hb hT rfl
theorem own_others {W W':World} {base n k g:Nat} {e:TypeId} {v:Value} {xs:List Value} {cs:Array Value} {T:TypeId} (h:W.ownsRow base e k v n xs) (hg:W.heap[g]? = some (.cells cs T (0,0))) (hT:T≠e) (hk:∀ k o,W.heap[k]? = some o->k≠g->W'.heap[k]? = some o):W'.ownsRow base e k v n xs:=by
 obtain⟨hl,h⟩:=h
 refine⟨hl,?_⟩
 rcases h with h|⟨q,cap,cur,hv,hkb,hb,rest⟩
 ·exact .inl h
 ·exact .inr ⟨q,cap,cur,hv,hkb,hk q _ hb (ty_ne hb hg (fun e=>hT e.symm)),rest⟩
end Go.Proofs.YtpddanmnlkcdpaaGreatDoor.Pl

