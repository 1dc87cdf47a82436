/- Texts put together: ShaPlain, ShaTurn, ShaPlain2, ShaSpread, ShaVar, ShaPlain3, ShaIdx, ShaLaws2, AppFresh, SoStill. -/
import Derived.Laws.BitsAllLaws
import Derived.Test.YtpddanmnlkcdpaaGreatDoorChecked
import Derived.WalkKit
import Derived.WalkSpells
import Derived.WalkLawsBesides
import Derived.Test.YtpddanmnlkcdpaaGreatDoorTz2
import Derived.BigRegion
import Derived.BigQuiet
import Derived.Deep.QuietTactic
import Derived.StillTailTactics
import Derived.Laws.AppendOwn
import Derived.Below
import Derived.StillTail
import Derived.OrdersIn
import Derived.CallsIn
import Derived.OwnWalkIn
import Derived.TacticsInMore
set_option maxRecDepth 100000
set_option maxHeartbeats 8000000
/- Plain mathematics of SHA-256, in the spellings of the model's own operations on numbers of 32 bits: turns, the spread of a chunk, the rounds. -/
namespace Go.Proofs.YtpddanmnlkcdpaaGreatDoor.Sh
def rot (x:Int) (k:Nat):Int:=bits BinOp.or IntKind.u32 (x/2 ^ k) (x*2 ^ (32-k)%4294967296)
def rotI (x K:Int):Int:=rot x K.toNat
theorem or_comm32 (a b:Int):bits BinOp.or IntKind.u32 a b=bits BinOp.or IntKind.u32 b a:=by
 show IntKind.u32.wrap ((BitVec.ofInt 32 a ||| BitVec.ofInt 32 b).toNat:Int)=IntKind.u32.wrap ((BitVec.ofInt 32 b ||| BitVec.ofInt 32 a).toNat:Int)
 rw[BitVec.or_comm]
theorem neg_mask (k m:Nat) (hk:0<k) (hm:0<m) (h:k+m=32):bits BinOp.and IntKind.u64 (IntKind.u64.wrap (-(k:Int))) 31=(m:Int):=by
 have e:IntKind.u64.wrap (-(k:Int))=((18446744073709551616-k:Nat):Int):=by
  simp[IntKind.wrap,IntKind.bits,IntKind.signed]
  omega
 rw[e]
 have:=u64_and_nat (18446744073709551616-k) 31 (by omega) (by decide)
 rw[nat_mask5]at this
 refine Eq.trans this ?_
 omega
end Go.Proofs.YtpddanmnlkcdpaaGreatDoor.Sh


/- The walks of the functions that turn a number of 32 bits. -/
namespace Go.Proofs.YtpddanmnlkcdpaaGreatDoor.Sh
open Go.RowKit
theorem ret_int {k:IntKind} {a b:Int} (h:a=b):Ending.returned (.int k a)=.returned (.int k b):=by rw[h]
theorem turn_spec (x:Int) (k:Nat) (w:World) (hk:0<k) (hk2:k<32) :
  Calls Tryz.prog 207 #[.int .u32 x,.int .u64 k] w fun e w'=>e=.returned (.int .u32 (rot x k))/\w'=w:=by
 go_enter Tryz.func207,Tryz.ntmps207
 go_wp2
 go_ret
 exact⟨rfl,rfl⟩
theorem turn_bits (x:Int) (k m:Nat) (w:World) (hk:0<k) (hm:0<m) (h:k+m=32) :
  Calls Tryz.prog 243 #[.int .u32 x,.int .i64 (-k)] w fun e w'=>e=.returned (.int .u32 (rot x k))/\w'=w:=by
 have HR:Hid (bits BinOp.or IntKind.u32 (x*2 ^ m%4294967296) (x/2 ^ k)=rot x k):=by
  unfold Hid rot
  rw[or_comm32]
  obtain rfl:m=32-k:=by omega
  rfl
 have he:=neg_mask k m hk hm h
 have hs:32-(m:Int)=(k:Int):=by omega
 go_enter Tryz.func243,Tryz.ntmps243
 go_wp2
 go_ret
 exact⟨ret_int HR.out,rfl⟩
theorem turn_impl (x:Int) (k:Nat) (w:World) (hk:0<k) (h:k<32) :
  Calls Tryz.prog 241 #[.int .u32 x,.int .i64 k] w fun e w'=>e=.returned (.int .u32 (rot x k))/\w'=w:=by
 go_enter Tryz.func241,Tryz.ntmps241
 go_wp2_with fail
 refine(turn_bits x k (32-k) _ hk (by omega) (by omega)).mono ?_
 rintro e w' ⟨rfl,hw⟩
 subst w'
 go_wp2
 go_ret
 exact⟨rfl,rfl⟩
theorem turnI_impl (x K:Int) (w:World) (h0:0<K) (h1:K<32) :
  Calls Tryz.prog 241 #[.int .u32 x,.int .i64 K] w fun e w'=>e=.returned (.int .u32 (rotI x K))/\w'=w:=by
 obtain⟨k,rfl⟩:=Int.eq_ofNat_of_zero_le (show 0<=K from by omega)
 exact turn_impl x k w (by omega) (by omega)
theorem turnI_spec (x K:Int) (w:World) (h0:0<K) (h1:K<32) :
  Calls Tryz.prog 207 #[.int .u32 x,.int .u64 K] w fun e w'=>e=.returned (.int .u32 (rotI x K))/\w'=w:=by
 obtain⟨k,rfl⟩:=Int.eq_ofNat_of_zero_le (show 0<=K from by omega)
 exact turn_spec x k w (by omega) (by omega)
end Go.Proofs.YtpddanmnlkcdpaaGreatDoor.Sh


/- Plain mathematics of SHA-256: the numbers of a chunk, their spread over the rounds. -/
namespace Go.Proofs.YtpddanmnlkcdpaaGreatDoor.Sh
def part (B:Nat->Nat) (i:Nat):Nat->Nat
 |0=>0
 |j+1=>part B i j*256+B (4*i+j)
def word (B:Nat->Nat) (i:Nat):Nat:=part B i 4
theorem part_lt (B:Nat->Nat) (hB:∀ j,B j<256) (i:Nat):∀ j,part B i j<256 ^ j
 |0=>by simp[part]
 |j+1=>by
  have h:=part_lt B hB i j
  have h2:=hB (4*i+j)
  simp only[part,Nat.pow_succ]
  omega
theorem part_lt24 (B:Nat->Nat) (hB:∀ j,B j<256) (i j:Nat) (hj:j<4):part B i j<16777216:=by
 have h:=part_lt B hB i j
 have:(256:Nat) ^ j<=256 ^ 3:=Nat.pow_le_pow_right (by decide) (by omega)
 omega
theorem or_step (x b:Nat) (hx:x<16777216) (hb:b<256):bits BinOp.or IntKind.u32 ((x:Int)*256) (b:Int)=((x*256+b:Nat):Int):=by
 have:=u32_or_nat (x*256) b (by omega) (by omega)
 rw[nat_join 8 (x*256) b (by omega) (by omega)]at this
 rw[<-this]
 simp
def sm0 (x:Int):Int:=bits BinOp.xor IntKind.u32 (bits BinOp.xor IntKind.u32 (rotI x 7) (rotI x 18)) (x/8)
def sm1 (x:Int):Int:=bits BinOp.xor IntKind.u32 (bits BinOp.xor IntKind.u32 (rotI x 17) (rotI x 19)) (x/1024)
def wv (B:Nat->Nat) (i:Nat):Int :=
 if i<16 then (word B i:Nat)
 else (wv B (i-16)+sm0 (wv B (i-15))+wv B (i-7)+sm1 (wv B (i-2)))%4294967296
termination_by i
decreasing_by all_goals omega
theorem wv_lo (B:Nat->Nat) (i:Nat) (h:i<16):wv B i=(word B i:Nat):=by rw[wv,if_pos h]
theorem wv_hi (B:Nat->Nat) (i:Nat) (h:¬i<16):wv B i=(wv B (i-16)+sm0 (wv B (i-15))+wv B (i-7)+sm1 (wv B (i-2)))%4294967296:=by rw[wv,if_neg h]
end Go.Proofs.YtpddanmnlkcdpaaGreatDoor.Sh


namespace Go.Proofs.YtpddanmnlkcdpaaGreatDoor.Sh
open Go.RowKit
def lows (B:Nat->Nat) (k:Nat):Nat->Int:=fun j=>if j<k then (word B j:Nat) else 0
def highs (B:Nat->Nat) (k:Nat):Nat->Int:=fun j=>if j<k then wv B j else 0
theorem lows_start (B:Nat->Nat) (k j:Nat):upd (lows B k) k ((part B k 0:Nat):Int) j=lows B k j:=by
 unfold upd lows part
 by_cases e:j=k
 ·subst e;simp
 ·simp[e]
theorem lows_end (B:Nat->Nat) (k j:Nat):upd (lows B k) k ((part B k 4:Nat):Int) j=lows B (k+1) j:=by
 unfold upd lows word
 by_cases e:j=k
 ·subst e;simp
 ·have:(j<k+1)=(j<k):=propext ⟨fun h=>by omega,fun h=>by omega⟩
  simp[e,this]
theorem highs_start (B:Nat->Nat) (j:Nat):lows B 16 j=highs B 16 j:=by
 unfold lows highs
 by_cases e:j<16
 ·rw[if_pos e,if_pos e,wv_lo B j e]
 ·rw[if_neg e,if_neg e]
theorem highs_end (B:Nat->Nat) (k j:Nat) (v:Int) (hv:v=wv B k):upd (highs B k) k v j=highs B (k+1) j:=by
 subst hv
 unfold upd highs
 by_cases e:j=k
 ·subst e;simp
 ·have:(j<k+1)=(j<k):=propext ⟨fun h=>by omega,fun h=>by omega⟩
  simp[e,this]
theorem highs_at (B:Nat->Nat) (k j:Nat) (h:j<k):highs B k j=wv B j:=by simp[highs,h]
theorem Tryz.size300:(Tryz.prog.info? 300).map (·.size)=some 64:=by kernel_rfl
theorem hideS {p:Prop} (h:p):Hid p:=h
theorem zero64:(#[.int .u32 0,.int .u32 0,.int .u32 0,.int .u32 0,.int .u32 0,.int .u32 0,.int .u32 0,.int .u32 0,.int .u32 0,.int .u32 0,.int .u32 0,.int .u32 0,.int .u32 0,.int .u32 0,.int .u32 0,.int .u32 0,
 .int .u32 0,.int .u32 0,.int .u32 0,.int .u32 0,.int .u32 0,.int .u32 0,.int .u32 0,.int .u32 0,.int .u32 0,.int .u32 0,.int .u32 0,.int .u32 0,.int .u32 0,.int .u32 0,.int .u32 0,.int .u32 0,
 .int .u32 0,.int .u32 0,.int .u32 0,.int .u32 0,.int .u32 0,.int .u32 0,.int .u32 0,.int .u32 0,.int .u32 0,.int .u32 0,.int .u32 0,.int .u32 0,.int .u32 0,.int .u32 0,.int .u32 0,.int .u32 0,
 .int .u32 0,.int .u32 0,.int .u32 0,.int .u32 0,.int .u32 0,.int .u32 0,.int .u32 0,.int .u32 0,.int .u32 0,.int .u32 0,.int .u32 0,.int .u32 0,.int .u32 0,.int .u32 0,.int .u32 0,.int .u32 0]:Array Value)=rowF .u32 64 (fun _=>0):=by rfl
theorem spread_any (b off c:Nat) (B:Nat->Nat) (w:World) (hB:∀ j,B j<256) (hb:b<w.heap.size) (hc:∀ j,j<64->w.cell? ⟨b,off+j,none⟩=some (.int .u8 (B j:Nat))) (hcap:64<=c) :
  Calls Tryz.prog 240 #[.slice (some ⟨b,off,none⟩) 64 c] w fun e w'=>e=.returned (.agg (rowF .u32 64 (wv B)))/\Below w.heap.size w w':=by
 have HC:=hideS hc
 have HBB:=hideS hB
 clear hc hB
 go_enter Tryz.func240,Tryz.ntmps240
 go_wp2
 go_loopw [12] (fun i wr=>∃ k:Nat,i=.int .i64 k/\k<=16/\IsB wr (w.heap.size+1) 300 .u32 64 (lows B k)/\IsB wr w.heap.size 300 .u32 64 (fun _=>0)/\Below w.heap.size w wr/\wr.heap.size=w.heap.size+2) (fun i _=>16-(intOf i).toNat)
 case atStart =>
  refine⟨0,rfl,by omega,?_,?_,((Below.refl _ _).alloc (Nat.le_refl _) _).alloc (by simp) _,by simp⟩
  ·have:=IsB.of_list (w.alloc (.cells (rowF .u32 64 (fun _=>0)) 300)) 300 .u32 64 (lows B 0) _ (zero64.trans (rowF_congr (fun j _=>by simp[lows])))
   simpa [zero64] using this
  ·exact(IsB.of_list w 300 .u32 64 (fun _=>0) _ zero64).alloc _
 case round =>
  obtain⟨k,rfl,hk,h1,h0,hbel,hsz⟩:=hrel
  have H1:=hideS h1
  have H0:=hideS h0
  clear h1 h0
  by_cases hlt:k<16
  ·have hs1:(4*(k:Int)).toNat=4*k:=by omega
   have hs2:(4*(k:Int)+4).toNat=4*k+4:=by omega
   go_wp2
   go_loopw [23] (fun j w2=>∃ m:Nat,j=.int .i64 m/\m<=4/\IsB w2 (w.heap.size+1) 300 .u32 64 (upd (lows B k) k (part B k m:Nat))/\IsB w2 w.heap.size 300 .u32 64 (fun _=>0)/\Below w.heap.size w w2/\w2.heap.size=w.heap.size+2) (fun i _=>4-(intOf i).toNat)
   case atStart =>
    refine⟨0,rfl,by omega,H1.out.congr (fun j _=>?_),H0.out,hbel,hsz⟩
    exact(lows_start B k j).symm
   case round =>
    obtain⟨m,rfl,hm,h1,h0,hbel2,hsz2⟩:=hrel
    have G1:=hideS h1
    have G0:=hideS h0
    by_cases hlm:m<4
    ·have hcell:wr.cell? ⟨w.heap.size+1,k,none⟩=some (.int .u32 (part B k m:Nat)):=by
      have:=h1.cell (j:=k) (by omega)
      rwa[upd_same]at this
     have hfz:=h1.frozen k
     have hby:wr.cell? ⟨b,off+4*k+m,none⟩=some (.int .u8 (B (4*k+m):Nat)):=by
      rw[hbel2.cell (p:=⟨b,off+4*k+m,none⟩) hb,Nat.add_assoc]
      exact HC.out _ (by omega)
     have hx:=part_lt24 B HBB.out k m hlm
     have hbb:=HBB.out (4*k+m)
     have HO:=hideS (or_step _ _ hx hbb)
     clear h1 h0
     go_wp2
     go_roundw
     case rel =>
      have:=G1.out.set k (part B k (m+1):Nat)
      rw[upd_upd]at this
      refine⟨m+1,by go_num,by omega,?_,G0.out.set_other _ _ (by simp),hbel2.setCell (by simp) _,by simp[hsz2]⟩
      rw[HO.out]
      exact this
     case measure=>simp[intOf];omega
    ·obtain rfl:m=4:=by omega
     have G2:=hideS (h1.congr (fun j _=>lows_end B k j))
     clear h1 h0
     go_wp2
     go_roundw
     case rel=>exact⟨k+1,by go_num,by omega,G2.out,G0.out,hbel2,hsz2⟩
     case measure=>simp[intOf];omega
  ·have H2:Hid (IsB wr (w.heap.size+1) 300 .u32 64 (highs B 16)):=by
    have e:k=16:=by omega
    have h:=H1.out
    rw[e]at h
    exact h.congr (fun j _=>highs_start B j)
   clear H1
   go_wp2
   go_loopw [7] (fun i wr=>∃ k:Nat,i=.int .i64 k/\16<=k/\k<=64/\IsB wr (w.heap.size+1) 300 .u32 64 (highs B k)/\IsB wr w.heap.size 300 .u32 64 (fun _=>0)/\Below w.heap.size w wr/\wr.heap.size=w.heap.size+2) (fun i _=>64-(intOf i).toNat)
   case atStart=>exact⟨16,rfl,by omega,by omega,H2.out,H0.out,hbel,hsz⟩
   case round =>
    obtain⟨k,rfl,hk1,hk2,h1,h0,hbel2,hsz2⟩:=hrel
    have G1:=hideS h1
    have G0:=hideS h0
    by_cases hlt:k<64
    ·have e15:((k:Int)-15).toNat=k-15:=by omega
     have e2:((k:Int)-2).toNat=k-2:=by omega
     have e16:((k:Int)-16).toNat=k-16:=by omega
     have e7:((k:Int)-7).toNat=k-7:=by omega
     obtain⟨x15,hx15⟩:∃ x,x=wv B (k-15):=⟨_,rfl⟩
     obtain⟨x2,hx2⟩:∃ x,x=wv B (k-2):=⟨_,rfl⟩
     obtain⟨x16,hx16⟩:∃ x,x=wv B (k-16):=⟨_,rfl⟩
     obtain⟨x7,hx7⟩:∃ x,x=wv B (k-7):=⟨_,rfl⟩
     have HV:Hid ((x16+sm0 x15+x7+sm1 x2)%4294967296=wv B k):=by
      unfold Hid
      rw[wv_hi B k (by omega),hx15,hx2,hx16,hx7]
     have c15:wr.cell? ⟨w.heap.size+1,k-15,none⟩=some (.int .u32 x15):=by rw[h1.cell (by omega),highs_at B k _ (by omega),hx15]
     have c2:wr.cell? ⟨w.heap.size+1,k-2,none⟩=some (.int .u32 x2):=by rw[h1.cell (by omega),highs_at B k _ (by omega),hx2]
     have c16:wr.cell? ⟨w.heap.size+1,k-16,none⟩=some (.int .u32 x16):=by rw[h1.cell (by omega),highs_at B k _ (by omega),hx16]
     have c7:wr.cell? ⟨w.heap.size+1,k-7,none⟩=some (.int .u32 x7):=by rw[h1.cell (by omega),highs_at B k _ (by omega),hx7]
     have ck:=h1.cell (j:=k) (by omega)
     have hfz:=h1.frozen k
     clear h1 h0 hx15 hx2 hx16 hx7
     go_wp2_with fail
     go_region
     go_wp2_with (go_at_call 241;refine(turnI_impl _ _ _ (by decide) (by decide)).mono ?_;rintro e w' ⟨rfl,hw⟩;subst w')
     go_region
     go_wp2_with fail
     go_roundw
     case rel =>
      have hb3:=hbel2.setCell (p:=⟨w.heap.size+1,k,none⟩) (by simp) (.int .u32 (wv B k))
      have hs3:(wr.setCell ⟨w.heap.size+1,k,none⟩ (.int .u32 (wv B k))).heap.size=w.heap.size+2:=by simp[hsz2]
      have e:=HV.out
      simp only[sm0,sm1]at e
      rw[e]
      exact⟨k+1,by go_num,by omega,by omega,IsB.congr (G1.out.set k _) (fun j _=>highs_end B k j _ rfl),G0.out.set_other ⟨w.heap.size+1,k,none⟩ _ (by simp),⟨hb3.os,hb3.tape,hb3.output,hb3.size,hb3.block⟩,hs3⟩
     case measure=>simp[intOf];omega
    ·obtain rfl:k=64:=by omega
     clear h1 h0
     go_wp2_with (first|((with_reducible refine wpList_load_row G1.out Tryz.underlying300 Tryz.size300 ?_ ?_);(· rfl))|((with_reducible refine wpList_store_row G0.out Tryz.size300 (highs B 64) ?_ ?_ ?_);(· rfl);(· rfl)))
     refine bodyPost_ret (v:=.agg (rowF .u32 64 (highs B 64))) (results_row rfl _ rfl (G0.out.row _) Tryz.underlying300 Tryz.size300) rfl ⟨?_,below_row hbel2 (Nat.le_refl _) _⟩
     rw[rowF_congr (fun j hj=>highs_at B 64 j hj)]
end Go.Proofs.YtpddanmnlkcdpaaGreatDoor.Sh


/- A package variable that holds a row of numbers: its block bears whatever mark. -/
namespace Go.Proofs.YtpddanmnlkcdpaaGreatDoor.Sh
open Go.RowKit
def IsV (w:World) (g:Nat) (k:IntKind) (n:Nat) (f:Nat->Int):Prop:=∃ t fr,w.heap[g]? = some (.cells (rowF k n f) t fr)
theorem IsV.cell {w:World} {g:Nat} {k:IntKind} {n:Nat} {f:Nat->Int} (h:IsV w g k n f) {j:Nat} (hj:j<n):w.cell? ⟨g,j,none⟩=some (.int k (f j)):=by
 obtain⟨t,fr,h⟩:=h
 rw[cell_of_row w g j _ t fr h,rowF_get k n f j hj]
theorem IsV.lt {w:World} {g:Nat} {k:IntKind} {n:Nat} {f:Nat->Int} (h:IsV w g k n f):g<w.heap.size:=by
 obtain⟨t,fr,h⟩:=h
 exact(Array.getElem?_eq_some_iff.1 h).1
theorem IsV.of_heap {w w':World} {g:Nat} {k:IntKind} {n:Nat} {f:Nat->Int} (h:IsV w g k n f) (e:w'.heap[g]? = w.heap[g]?):IsV w' g k n f:=by
 obtain⟨t,fr,h⟩:=h
 exact⟨t,fr,by rw[e];exact h⟩
theorem IsV.below {w w':World} {g B:Nat} {k:IntKind} {n:Nat} {f:Nat->Int} (h:IsV w g k n f) (b:Below B w w') (hg:g<B):IsV w' g k n f:=h.of_heap (b.block g hg)
theorem wpList_load_var {P:Program} {w:World} {ops:Array Oper} {rest:List Oper} {a:Act} {Q:Exit->Act->World->Prop} {d:Tmp} {p:Operand} {ty tt:TypeId} {pos:String} {af:Array Edge}
  {g:Nat} {k:IntKind} {n:Nat} {f:Nat->Int} {e:TypeId} (hb:IsV w g k n f) (hu:P.underlying ty=some (.array n e)) (hi:(P.info? ty).map (·.size)=some n)
  (hp:a.eval p=.pointer (some ⟨g,0,none⟩)) (h:wpList P ops Q rest (a.put (some d) (.agg (rowF k n f))) w) :
  wpList P ops Q (⟨some d,.load ty p,tt,pos,af,none⟩ :: rest) a w:=by
 refine wpList_plain rfl fun K hK=>?_
 obtain⟨t,fr,hb⟩:=hb
 have hl:(Instr.loadAt ty (.pointer (some ⟨g,0,none⟩))).run P w=.ok (.agg (rowF k n f)) w:=by
  simp only[Instr.loadAt,Instr.sureAddr,Sem.run_bind,Sem.run_pure,Result.andThen]
  exact run_loadVar_row w g t ty _ fr _ hb hu rfl (by rw[rowF_size];exact hi)
 unfold Oper.wp
 simp[execOp,hp,hl,Result.andThen]
 exact hK _ _ h
end Go.Proofs.YtpddanmnlkcdpaaGreatDoor.Sh


/- Plain mathematics of SHA-256: the numbers of the rounds, a round, a block taken into a state. -/
namespace Go.Proofs.YtpddanmnlkcdpaaGreatDoor.Sh
def keyL:List Int:=[1116352408,1899447441,3049323471,3921009573,961987163,1508970993,2453635748,2870763221,3624381080,310598401,607225278,1426881987,1925078388,2162078206,2614888103,3248222580,3835390401,4022224774,264347078,604807628,770255983,1249150122,1555081692,1996064986,2554220882,2821834349,2952996808,3210313671,3336571891,3584528711,113926993,338241895,666307205,773529912,1294757372,1396182291,1695183700,1986661051,2177026350,2456956037,2730485921,2820302411,3259730800,3345764771,3516065817,3600352804,4094571909,275423344,430227734,506948616,659060556,883997877,958139571,1322822218,1537002063,1747873779,1955562222,2024104815,2227730452,2361852424,2428436474,2756734187,3204031479,3329325298]
def keyF (j:Nat):Int:=keyL.getD j 0
def firstL:List Int:=[1779033703,3144134277,1013904242,2773480762,1359893119,2600822924,528734635,1541459225]
def firstF (j:Nat):Int:=firstL.getD j 0
structure St where
 a:Int
 b:Int
 c:Int
 d:Int
 e:Int
 f:Int
 g:Int
 h:Int
def bx (x y:Int):Int:=bits BinOp.xor IntKind.u32 x y
def ba (x y:Int):Int:=bits BinOp.and IntKind.u32 x y
def big1 (e:Int):Int:=bx (bx (rotI e 6) (rotI e 11)) (rotI e 25)
def big0 (a:Int):Int:=bx (bx (rotI a 2) (rotI a 13)) (rotI a 22)
def pick (e f g:Int):Int:=bx (ba e f) (ba (bx IntKind.u32.max e) g)
def most (a b c:Int):Int:=bx (bx (ba a b) (ba a c)) (ba b c)
def t1 (s:St) (K W:Int):Int:=s.h+big1 s.e+pick s.e s.f s.g+K+W
def t2 (s:St):Int:=big0 s.a+most s.a s.b s.c
def stepS (s:St) (K W:Int):St:=⟨(t1 s K W+t2 s)%4294967296,s.a,s.b,s.c,(s.d+t1 s K W)%4294967296,s.e,s.f,s.g⟩
def start (s:Nat->Int):St:=⟨s 0,s 1,s 2,s 3,s 4,s 5,s 6,s 7⟩
def run (B:Nat->Nat) (s:Nat->Int):Nat->St
 |0=>start s
 |k+1=>stepS (run B s k) (keyF k) (wv B k)
def St.at (x:St) (j:Nat):Int:=[x.a,x.b,x.c,x.d,x.e,x.f,x.g,x.h].getD j 0
def blk (B:Nat->Nat) (s:Nat->Int) (j:Nat):Int:=(s j+(run B s 64).at j)%4294967296
def addF (x:St) (s:Nat->Int) (j:Nat):Nat->Int:=fun i=>if i<j then (s i+x.at i)%4294967296 else s i
theorem addF_zero (x:St) (s:Nat->Int) (i:Nat):s i=addF x s 0 i:=by simp[addF]
theorem addF_at (x:St) (s:Nat->Int) (j:Nat):addF x s j j=s j:=by simp[addF]
theorem addF_next (x:St) (s:Nat->Int) (j i:Nat) (upd':Nat->Int) (h1:upd' j=(s j+x.at j)%4294967296) (h2:∀ i,i≠j->upd' i=addF x s j i):upd' i=addF x s (j+1) i:=by
 by_cases e:i=j
 ·subst e;rw[h1];simp[addF]
 ·rw[h2 i e]
  have:(i<j+1)=(i<j):=propext ⟨fun h=>by omega,fun h=>by omega⟩
  simp[addF,this]
theorem addF_end (B:Nat->Nat) (s:Nat->Int) (x:St) (hx:x=run B s 64) (i:Nat) (hi:i<8):addF x s 8 i=blk B s i:=by
 simp[addF,blk,hi,hx]
theorem step_walk (xa xb xc xd xe xf xg xh kk wk:Int) :
  (⟨((xh+big1 xe+pick xe xf xg+kk+wk)%4294967296+(big0 xa+most xa xb xc)%4294967296)%4294967296,xa,xb,xc,(xd+(xh+big1 xe+pick xe xf xg+kk+wk)%4294967296)%4294967296,xe,xf,xg⟩:St)
   = stepS ⟨xa,xb,xc,xd,xe,xf,xg,xh⟩ kk wk:=by
 simp[stepS,t1,t2]
end Go.Proofs.YtpddanmnlkcdpaaGreatDoor.Sh


namespace Go.Proofs.YtpddanmnlkcdpaaGreatDoor.Sh
open Go.RowKit
theorem idx8 (xa xb xc xd xe xf xg xh:Int) (j:Nat) (hj:j<8) (u:World) :
  (Instr.index 293 (.agg #[.int .u32 xa,.int .u32 xb,.int .u32 xc,.int .u32 xd,.int .u32 xe,.int .u32 xf,.int .u32 xg,.int .u32 xh]) (.int .i64 (j:Int))).run Tryz.prog u
   = .ok (.int .u32 ((⟨xa,xb,xc,xd,xe,xf,xg,xh⟩:St).at j)) u:=by
 have hs:∀ u:World,(Go.sizeOf 199).run Tryz.prog u=.ok 1 u:=fun u=>by kernel_rfl
 have:j=0∨j=1∨j=2∨j=3∨j=4∨j=5∨j=6∨j=7:=by omega
 rcases this with rfl|rfl|rfl|rfl|rfl|rfl|rfl|rfl <;>
 simp[Instr.index,asIntOf,underlying,Tryz.underlying293,Tryz.underlying199,Result.andThen,hs,St.at,Go.part,isAgg]
end Go.Proofs.YtpddanmnlkcdpaaGreatDoor.Sh


/- A law on one operation in the still head of a region that draws its order: a whole array of numbers loaded out of its block. -/
namespace Go.Proofs.YtpddanmnlkcdpaaGreatDoor.Sh
open Go.RowKit
theorem wpStill_load_row {P:Program} {w:World} {ops:Array Oper} {rest:List Oper} {a:Act} {Q:Act->Prop} {d:Tmp} {p:Operand} {ty tt:TypeId} {pos:String} {af:Array Edge}
  {g:Nat} {t:TypeId} {k:IntKind} {n:Nat} {f:Nat->Int} {e:TypeId} (hb:IsB w g t k n f) (hu:P.underlying ty=some (.array n e)) (hi:(P.info? ty).map (·.size)=some n)
  (hp:a.eval p=.pointer (some ⟨g,0,none⟩)) (h:wpStill P ops w Q rest (a.put (some d) (.agg (rowF k n f)))) :
  wpStill P ops w Q (⟨some d,.load ty p,tt,pos,af,none⟩ :: rest) a:=by
 refine wpStill_step fun K hK=>?_
 have hl:=hb.loadAt (P:=P) ty e hu hi
 simp[Region.wanted,Oper.still,Oper.stillUpon,execOp,hp,hl,Result.andThen]
 exact hK _ h
end Go.Proofs.YtpddanmnlkcdpaaGreatDoor.Sh


/- An append of some things onto a row of the call's own, or onto one that is empty and has no room: the row behind it lies above a mark. -/
namespace Go.Proofs.YtpddanmnlkcdpaaGreatDoor.Ap
open Go.RowKit
def Own0 (w:World) (base:Nat) (e:TypeId) (size:Nat) (v:Value) (n:Nat) (xs:List Value):Prop :=
 (∃ b,v=.slice (some b) 0 0/\n=0/\xs=[])∨w.ownsRow base e size v n xs
theorem Own0.below {w w':World} {base:Nat} {e:TypeId} {size:Nat} {v:Value} {n:Nat} {xs:List Value} (h:Own0 w base e size v n xs) (b:Below w.heap.size w w'):Own0 w' base e size v n xs:=by
 rcases h with h|⟨hl,h⟩
 ·exact .inl h
 ·refine .inr ⟨hl,?_⟩
  rcases h with h|⟨g,cap,cur,hv,hg,hb,rest⟩
  ·exact .inl h
  ·exact .inr ⟨g,cap,cur,hv,hg,by rw[b.block g (Array.getElem?_eq_some_iff.1 hb).1];exact hb,rest⟩
end Go.Proofs.YtpddanmnlkcdpaaGreatDoor.Ap


/- A region that draws its order inside the widest fence: what only reads comes first, in the order of the text; the rest comes behind, one after another. -/
namespace Go.Proofs.YtpddanmnlkcdpaaGreatDoor.So
open Go.RowKit
section
variable {P : Program} {md : Region.Mode} {ops : Array Oper} {w : World}
theorem wpIn_of_still {n:Nat} {o:Oper} {a:Act} {K:Act->Prop} {K':Act->World->Prop} {Q':Exit->Act->World->Prop} (h:∀ a,K a->K' a w) (hh:o.still P a w K):o.wpIn Fence.wide n P a w K' Q':=by
 refine⟨fun _ _=>trivial,?_⟩
 unfold Oper.still at hh
 have e:(o.semAt Fence.wide.round a.eval)=execOp a.eval o:=rfl
 rw[e]
 generalize (execOp a.eval o).run P w=r at hh
 cases r with
 |ok nx w' =>
  cases nx with
  |value v =>
   simp only[Oper.stillUpon]at hh
   obtain⟨rfl,hh⟩:=hh
   exact h _ hh
  |skip =>
   simp only[Oper.stillUpon]at hh
   obtain⟨rfl,hh⟩:=hh
   exact h _ hh
  |enter f args =>
   simp only[Oper.stillUpon]at hh
   obtain⟨rfl,v,hc,hh⟩:=hh
   refine⟨fun hx=>(by cases hx),callsIn_wide.2 (hc.mono ?_)⟩
   rintro e w'' ⟨rfl,rfl⟩
   exact h _ hh
  |_=>simp only[Oper.stillUpon]at hh
 |_=>simp only[Oper.stillUpon]at hh
theorem wpOpIn_of_stOp {n i:Nat} {a:Act} {K:Act->Prop} {K':Act->World->Prop} {Q':Exit->Act->World->Prop} (h:∀ a,K a->K' a w) (hh:stOp P ops w i K a):wpOpIn Fence.wide n P ops Q' i K' a w:=by
 unfold stOp at hh
 unfold wpOpIn
 split
 ·rename_i ho;simp only[ho]at hh;exact h _ hh
 ·rename_i o ho
  simp only[ho]at hh
  split
  ·rename_i hw;simp only[hw,if_true]at hh;exact wpIn_of_still h hh
  ·rename_i hw;simp only[hw]at hh;exact⟨fun _ _=>trivial,h _ hh⟩
theorem wpAnyIn_of_head {n k g:Nat} {L:Array Bool->Act->Prop} {Q':Exit->Act->World->Prop} (hL:∀ listed a,L listed a->wpAnyIn Fence.wide k P md ops Q' g listed a w) :
  ∀ (f:Nat) (listed:Array Bool) (a:Act),wpAnyL P md ops w n L f listed a->wpAnyIn Fence.wide k P md ops Q' (f+g) listed a w
 |0,listed,a,h=>by rw[Nat.zero_add];exact hL _ _ h
 |f+1,listed,a,h=>by
  rw[show f+1+g=(f+g)+1 by omega]
  exact⟨fun h0=>absurd h0 h.1,fun i hi=>wpOpIn_of_stOp (fun a' h'=>wpAnyIn_of_head hL f _ a' h') (h.2 i hi).2⟩
theorem wpAnyIn_of_seq {k0:Nat} {Q':Exit->Act->World->Prop}:∀ (l:List Oper) (k:Nat) (listed:Array Bool) (a:Act) (w:World),(∀ j,l[j]? = ops[k+j]?) ->
  Region.seqB md ops l.length k listed=true->wpListIn Fence.wide k0 P ops Q' l a w->wpAnyIn Fence.wide k0 P md ops Q' l.length listed a w
 |[],_,_,_,_,_,hB,h=>⟨by simpa [Region.seqB] using hB,h⟩
 |o :: l,k,listed,a,w,hl,hB,h=>by
  have h0:ops[k]? = some o:=by simpa using (hl 0).symm
  simp only[List.length_cons,Region.seqB,Bool.and_eq_true,decide_eq_true_eq]at hB
  refine⟨fun h1=>(by rw[hB.1]at h1;cases h1),fun i hi=>?_⟩
  rw[hB.1]at hi
  have hik:i=k:=by simpa using hi
  subst hik
  have hw:wpOpIn Fence.wide k0 P ops Q' i (wpListIn Fence.wide k0 P ops Q' l) a w:=by unfold wpOpIn;simp only[h0];exact h
  exact wpOpIn_mono (fun a' w' h'=>wpAnyIn_of_seq l (i+1) _ a' w' (fun j=>by have:=hl (j+1);simpa [Nat.add_assoc,Nat.add_comm 1 j] using this) hB.2 h') hw
theorem wpIn_region_still_tail {id k0:Nat} {Q:Exit->Act->World->Prop} {a:Act} {l:List Oper} (n:Nat) (hm:P.follows .mixedOrders=true) (hB:Region.lexTailB .any l.toArray n=true)
  (h:wpStill P l.toArray w.drew (fun a'=>wpListIn Fence.wide k0 P l.toArray Q (l.drop n) a' w.drew) (l.take n) a):(Code.region id l.toArray true).wpIn Fence.wide k0 P Q a w:=by
 simp only[Region.lexTailB,Bool.and_eq_true,decide_eq_true_eq]at hB
 obtain⟨⟨⟨⟨hsel,hn⟩,hs⟩,hc⟩,hlex⟩:=hB
 have hn':n<l.length:=by simpa using hn
 have htl:(l.take n).length=n:=by simp;omega
 have hdl:(l.drop n).length=l.toArray.size-n:=by simp
 have inv0:HeadInv .any l.toArray n (Array.replicate l.toArray.size false) :=
  ⟨by simp,fun j oj _ hl=>(by rw[getD_replicate_false]at hl;cases hl),fun t _ ht=>getD_in (by simpa using ht) (getD_replicate_false _ _)⟩
 have H:=wpAnyL_lex (md:=.any) (g:=l.toArray.size-n) hsel hs hc hn (l.take n) 0 _ a (fun j hj=>by
  have hj':j<n:=by rw[htl]at hj;exact hj
  simp[hj']) (by simpa using htl) inv0 (by rw[htl];exact hlex) h
 refine wpIn_region_any hm ?_
 have:=wpAnyIn_of_head (k:=k0) (Q':=Q) (g:=l.toArray.size-n) (fun listed a' hL=>by
  have:=wpAnyIn_of_seq (k0:=k0) (md:=.any) (Q':=Q) (l.drop n) n listed a' w.drew (fun j=>by simp[List.getElem?_drop]) (by rw[hdl];exact hL.1) hL.2
  rwa[hdl]at this) _ _ _ H
 rw[htl,show n+(l.toArray.size-n)=l.toArray.size by omega]at this
 exact this
end
end Go.Proofs.YtpddanmnlkcdpaaGreatDoor.So

