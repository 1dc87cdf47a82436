/- Texts put together: JoinLaws. -/
import Derived.Test.YtpddanmnlkcdpaaGreatDoorHz5
import Derived.Laws.CopyOwn
import Derived.WalkKit
/- A law on Go's copy of a text into a row of bytes that the call itself made, over any program; and what two such copies leave. -/
namespace Go.Proofs.YtpddanmnlkcdpaaGreatDoor.Nu
open Go.RowKit
theorem bv_one (l:List UInt8):∀ u∈l.map bv,u.oneCell'=true:=by
 intro u hu
 obtain⟨b,_,rfl⟩:=List.mem_map.1 hu
 rfl
theorem run_copy_string {P:Program} (w:World) (dT sT ty elem:TypeId) (dp:Option Addr) (g off dLen dCap:Nat) (s:ByteArray) (cur:List Value) (t:TypeId)
  (hu:P.underlying dT=some (.slice elem)) (hs:(P.info? elem).map (·.size)=some 1) (hg:w.heap[g]? = some (.cells cur.toArray t (0,0)))
  (hdp:0<s.size->dp=some ⟨g,off,none⟩) (hlen:s.size<=dLen) (hfit:off+s.size<=cur.length) :
  ∃ w',(Builtin.copy_ #[dT,sT] ty #[.slice dp dLen dCap,.string s]).run P w=.ok (goInt s.size) w'/\w'.heap[g]? = some (.cells (splice cur off (s.data.toList.map bv)).toArray t (0,0)) /\
   w'.os=w.os/\w'.tape=w.tape/\w'.output=w.output/\w'.heap.size=w.heap.size/\∀ k,k≠g->w'.heap[k]? = w.heap[k]?:=by
 cases hq:P.info? elem with
 |none=>simp[hq]at hs
 |some i =>
  have hmin:Nat.min s.size dLen=s.size:=Nat.min_eq_left hlen
  have hcs:(s.data.toList.map bv).length=s.size:=by simp
  by_cases h0:s.size=0
  ·have hnil:s.data.toList.map bv=[]:=List.eq_nil_of_length_eq_zero (by simpa using h0)
   refine⟨w,?_,?_,rfl,rfl,rfl,rfl,fun _ _=>rfl⟩
   ·have hd:s.data.toList=[]:=by simpa using hnil
    have hd':s.data=#[]:=by rw[<-Array.toArray_toList (xs:=s.data),hd]
    cases dp with
    |none=>simp[Builtin.copy_,run_underlying hu,Builtin.lenOf,Builtin.firstCells,Go.sizeOf,typeInfo,hq,hmin]
    |some a=>simp[Builtin.copy_,run_underlying hu,Builtin.lenOf,Builtin.firstCells,Go.sizeOf,typeInfo,hq,hmin,hd',storeCells]
   ·rw[hnil]
    simpa [splice] using hg
  ·obtain rfl:=hdp (by omega)
   have hst:=run_storeCells_at P g off t (s.data.toList.map bv) 0 cur.toArray w hg (by simpa using hfit) (bv_one _)
   refine⟨w.setRow g (splice cur off (s.data.toList.map bv)).toArray,?_,setRow_heap w g _ _ t _ hg,rfl,rfl,rfl,by simp[World.setRow],fun k hk=>setRow_other w g k _ hk⟩
   have hst':(storeCells ⟨g,off,none⟩ (s.data.toList.map fun b=>Value.int .u8 (b.toNat:Int))).run P w=.ok () (w.setRow g (splice cur off (s.data.toList.map bv)).toArray):=by
    refine Eq.trans hst ?_
    simp[splice]
   have htk:List.take s.size (List.map (fun b=>Value.int IntKind.u8 (b.toNat:Int)) s.data.toList)=s.data.toList.map fun b=>Value.int .u8 (b.toNat:Int) :=
    List.take_of_length_le (by simp)
   simp[Builtin.copy_,run_underlying hu,Builtin.lenOf,Builtin.firstCells,Go.sizeOf,typeInfo,hq,hmin]
   rw[htk,hst']
   rfl
theorem copy_below {B:Nat} {w w1 w2:World} (hb:Below B w w1) (k1:w2.os=w1.os) (k2:w2.tape=w1.tape) (k3:w2.output=w1.output) (k4:w2.heap.size=w1.heap.size)
  (k5:∀ k,k≠B->w2.heap[k]? = w1.heap[k]?):Below B w w2 :=
 hb.trans ⟨k1,k2,k3,by omega,fun k hk=>k5 k (by omega)⟩
theorem splice_two {α:Type} (cur A C:List α) (h:cur.length=A.length+C.length):splice (splice cur 0 A) A.length C=A++C:=by
 unfold splice
 simp
 omega
theorem made_block {w:World} {base e g n:Nat} {xs:List Value} (h:w.ownsRow base e 1 (.slice (some ⟨g,0,none⟩) n n) n xs) :
  ∃ cur:List Value,w.heap[g]? = some (.cells cur.toArray e (0,0))/\cur.length=n:=by
 obtain⟨_,h⟩:=h
 rcases h with⟨h,_⟩|⟨g',cap,cur,hv,_,hb,_,_,hsz,_⟩
 ·simp at h
 ·simp at hv
  obtain⟨rfl,rfl⟩:=hv
  exact⟨cur.toList,by simpa using hb,by simpa using hsz⟩
theorem join_eq (a b:ByteArray):(⟨(a.data.toList++b.data.toList).toArray⟩:ByteArray)=a++b:=by
 have:=ByteArray.mk_append_mk a.data.toList b.data.toList
 simpa using this.symm
theorem join_facts {P:Program} {w w1:World} {B dT sT ty e:TypeId} {a b:ByteArray} {cur:List Value} {dp:Option Addr} {n dLen dCap:Nat}
  (hu:P.underlying dT=some (.slice e)) (he:P.underlying e=some (.int .u8)) (hd:P.underlying sT=some .string) (hs:(P.info? e).map (·.size)=some 1)
  (hblk:w1.heap[B]? = some (.cells cur.toArray e (0,0))) (hlen:cur.length=n) (hn:n=a.size+b.size) (hbel:Below B w w1)
  (hdp:0<b.size->dp=some ⟨B,a.size,none⟩) (hdl:b.size<=dLen) :
  ∃ w2 w3,(Builtin.copy_ #[dT,sT] ty #[.slice (some ⟨B,0,none⟩) n n,.string a]).run P w1=.ok (goInt a.size) w2 /\
   (Builtin.copy_ #[dT,sT] ty #[.slice dp dLen dCap,.string b]).run P w2=.ok (goInt b.size) w3 /\
   (convert dT sT (.slice (some ⟨B,0,none⟩) n n)).run P w3=.ok (.string (a++b)) w3/\Below B w w3:=by
 obtain⟨w2,hcp,hb2,k1,k2,k3,k4,k5⟩:=run_copy_string (P:=P) w1 dT sT ty e (some ⟨B,0,none⟩) B 0 n n a cur e hu hs hblk (fun _=>rfl) (by omega) (by omega)
 have hbel2:=copy_below hbel k1 k2 k3 k4 k5
 have hl2:(splice cur 0 (a.data.toList.map bv)).length=n:=by rw[length_splice _ _ _ (by simp;omega)];exact hlen
 obtain⟨w3,hcp3,hb3,m1,m2,m3,m4,m5⟩:=run_copy_string (P:=P) w2 dT sT ty e dp B a.size dLen dCap b _ e hu hs hb2 hdp hdl (by omega)
 refine⟨w2,w3,hcp,hcp3,?_,copy_below hbel2 m1 m2 m3 m4 m5⟩
 have hsp:splice (splice cur 0 (a.data.toList.map bv)) a.size (b.data.toList.map bv)=(a.data.toList++b.data.toList).map bv:=by
  have:=splice_two cur (a.data.toList.map bv) (b.data.toList.map bv) (by simp;omega)
  simpa using this
 rw[hsp]at hb3
 have hll:(a.data.toList++b.data.toList).length=n:=by simp;omega
 have:=arr_string (P:=P) (src:=dT) (dst:=sT) (a.data.toList++b.data.toList) n hb3 (List.take_of_length_le (by simp)) hu he hd
 rw[hll,join_eq]at this
 exact this
theorem cut_facts {P:Program} {w w1:World} {B dT sT ty e:TypeId} {a:ByteArray} {cur:List Value} {n:Nat}
  (hu:P.underlying dT=some (.slice e)) (he:P.underlying e=some (.int .u8)) (hd:P.underlying sT=some .string) (hs:(P.info? e).map (·.size)=some 1)
  (hblk:w1.heap[B]? = some (.cells cur.toArray e (0,0))) (hlen:cur.length=n) (hn:n=a.size) (hbel:Below B w w1) :
  ∃ w2,(Builtin.copy_ #[dT,sT] ty #[.slice (some ⟨B,0,none⟩) n n,.string a]).run P w1=.ok (goInt a.size) w2 /\
   (convert dT sT (.slice (some ⟨B,0,none⟩) n n)).run P w2=.ok (.string a) w2/\Below B w w2:=by
 obtain⟨w2,hcp,hb2,k1,k2,k3,k4,k5⟩:=run_copy_string (P:=P) w1 dT sT ty e (some ⟨B,0,none⟩) B 0 n n a cur e hu hs hblk (fun _=>rfl) (by omega) (by omega)
 refine⟨w2,hcp,?_,copy_below hbel k1 k2 k3 k4 k5⟩
 have hsp:splice cur 0 (a.data.toList.map bv)=a.data.toList.map bv:=by
  unfold splice
  simp
  omega
 rw[hsp]at hb2
 have hll:a.data.toList.length=n:=by simp;omega
 have:=arr_string (P:=P) (src:=dT) (dst:=sT) a.data.toList n hb2 (List.take_of_length_le (by simp)) hu he hd
 rw[hll]at this
 simpa using this
end Go.Proofs.YtpddanmnlkcdpaaGreatDoor.Nu

