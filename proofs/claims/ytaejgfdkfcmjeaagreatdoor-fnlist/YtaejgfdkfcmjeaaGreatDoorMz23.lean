import Derived.Laws.BitsAllLaws
import Derived.Test.YtaejgfdkfcmjeaaGreatDoorChecked
import Derived.WalkSpells
import Derived.WalkLawsBesides
import Derived.Test.YtaejgfdkfcmjeaaGreatDoorMz1
import Derived.BigRegion
import Derived.BigQuiet
import Derived.Deep.QuietTactic
import Derived.Scope
import Derived.WalkMore
import Derived.Shelf.SlSortCmp.InsertionK
set_option maxRecDepth 100000
set_option maxHeartbeats 8000000
namespace Go.Proofs.YtaejgfdkfcmjeaaGreatDoor
open Go.RowKit
open Go.Proofs.Tryz
namespace Sh
def rot (x:Int) (k:Nat):Int:=bits BinOp.or IntKind.u32 (x/2 ^ k) (x*2 ^ (32-k)%4294967296)
def rotI (x K:Int):Int:=rot x K.toNat
theorem or_comm32 (a b:Int):bits BinOp.or IntKind.u32 a b=bits BinOp.or IntKind.u32 b a:=by
 show IntKind.u32.wrap ((BitVec.ofInt 32 a ||| BitVec.ofInt 32 b).toNat:Int)=IntKind.u32.wrap ((BitVec.ofInt 32 b ||| BitVec.ofInt 32 a).toNat:Int)
 rw[BitVec.or_comm]
theorem neg_mask (k m:Nat) (hk:0<k) (hm:0<m) (h:k+m=32):bits BinOp.and IntKind.u64 (IntKind.u64.wrap (-(k:Int))) 31=(m:Int):=by
 have e:IntKind.u64.wrap (-(k:Int))=((18446744073709551616-k:Nat):Int):=by
  simp[IntKind.wrap,IntKind.bits,IntKind.signed];omega
 rw[e]
 have:=u64_and_nat (18446744073709551616-k) 31 (by omega) (by decide)
 rw[nat_mask5]at this;refine Eq.trans this ?_;omega
theorem ret_int {k:IntKind} {a b:Int} (h:a=b):Ending.returned (.int k a)=.returned (.int k b):=by rw[h]
theorem turn_spec (x:Int) (k:Nat) (w:World) (hk:0<k) (hk2:k<32) :
  Calls prog 190 #[.int .u32 x,.int .u64 k] w fun e w'=>e=.returned (.int .u32 (rot x k))/\w'=w:=by
 go_enter func190,ntmps190
 go_wp2
 go_ret;exact⟨rfl,rfl⟩
theorem turn_bits (x:Int) (k m:Nat) (w:World) (hk:0<k) (hm:0<m) (h:k+m=32) :
  Calls prog 218 #[.int .u32 x,.int .i64 (-k)] w fun e w'=>e=.returned (.int .u32 (rot x k))/\w'=w:=by
 have HR:Hid (bits BinOp.or IntKind.u32 (x*2 ^ m%4294967296) (x/2 ^ k)=rot x k):=by
  unfold Hid rot;rw[or_comm32]
  obtain rfl:m=32-k:=by omega
  rfl
 have he:=neg_mask k m hk hm h
 have hs:32-(m:Int)=(k:Int):=by omega
 go_enter func218,ntmps218
 go_wp2
 go_ret;exact⟨ret_int HR.o,rfl⟩
theorem turn_impl (x:Int) (k:Nat) (w:World) (hk:0<k) (h:k<32) :
  Calls prog 189 #[.int .u32 x,.int .i64 k] w fun e w'=>e=.returned (.int .u32 (rot x k))/\w'=w:=by
 go_enter func189,ntmps189
 go_wp2_with fail
 refine(turn_bits x k (32-k) _ hk (by omega) (by omega)).mono ?_;rintro e w' ⟨rfl,hw⟩;subst w'
 go_wp2
 go_ret;exact⟨rfl,rfl⟩
theorem turnI_impl (x K:Int) (w:World) (h0:0<K) (h1:K<32) :
  Calls prog 189 #[.int .u32 x,.int .i64 K] w fun e w'=>e=.returned (.int .u32 (rotI x K))/\w'=w:=by
 obtain⟨k,rfl⟩:=Int.eq_ofNat_of_zero_le (show 0<=K from by omega);exact turn_impl x k w (by omega) (by omega)
theorem turnI_spec (x K:Int) (w:World) (h0:0<K) (h1:K<32) :
  Calls prog 190 #[.int .u32 x,.int .u64 K] w fun e w'=>e=.returned (.int .u32 (rotI x K))/\w'=w:=by
 obtain⟨k,rfl⟩:=Int.eq_ofNat_of_zero_le (show 0<=K from by omega);exact turn_spec x k w (by omega) (by omega)
def part (B:Nat->Nat) (i:Nat):Nat->Nat
 |0=>0
 |j+1=>part B i j*256+B (4*i+j)
def word (B:Nat->Nat) (i:Nat):Nat:=part B i 4
theorem part_lt (B:Nat->Nat) (hB:∀ j,B j<256) (i:Nat):∀ j,part B i j<256 ^ j
 |0=>by simp[part]
 |j+1=>by
  have h:=part_lt B hB i j;have h2:=hB (4*i+j);simp only[part,Nat.pow_succ];omega
theorem part_lt24 (B:Nat->Nat) (hB:∀ j,B j<256) (i j:Nat) (hj:j<4):part B i j<16777216:=by
 have h:=part_lt B hB i j
 have:(256:Nat) ^ j<=256 ^ 3:=Nat.pow_le_pow_right (by decide) (by omega)
 omega
theorem or_step (x b:Nat) (hx:x<16777216) (hb:b<256):bits BinOp.or IntKind.u32 ((x:Int)*256) (b:Int)=((x*256+b:Nat):Int):=by
 have:=u32_or_nat (x*256) b (by omega) (by omega)
 rw[nat_join 8 (x*256) b (by omega) (by omega)]at this;rw[<-this];simp
def sm0 (x:Int):Int:=bits BinOp.xor IntKind.u32 (bits BinOp.xor IntKind.u32 (rotI x 7) (rotI x 18)) (x/8)
def sm1 (x:Int):Int:=bits BinOp.xor IntKind.u32 (bits BinOp.xor IntKind.u32 (rotI x 17) (rotI x 19)) (x/1024)
def wv (B:Nat->Nat) (i:Nat):Int :=
 if i<16 then (word B i:Nat)
 else (wv B (i-16)+sm0 (wv B (i-15))+wv B (i-7)+sm1 (wv B (i-2)))%4294967296
termination_by i
decreasing_by all_goals omega
theorem wv_lo (B:Nat->Nat) (i:Nat) (h:i<16):wv B i=(word B i:Nat):=by rw[wv,if_pos h]
theorem wv_hi (B:Nat->Nat) (i:Nat) (h:¬i<16):wv B i=(wv B (i-16)+sm0 (wv B (i-15))+wv B (i-7)+sm1 (wv B (i-2)))%4294967296:=by rw[wv,if_neg h]
def lows (B:Nat->Nat) (k:Nat):Nat->Int:=fun j=>if j<k then (word B j:Nat) else 0
def highs (B:Nat->Nat) (k:Nat):Nat->Int:=fun j=>if j<k then wv B j else 0
theorem lows_start (B:Nat->Nat) (k j:Nat):upd (lows B k) k ((part B k 0:Nat):Int) j=lows B k j:=by
 unfold upd lows part;by_cases e:j=k
 ·subst e;simp
 ·simp[e]
theorem lows_end (B:Nat->Nat) (k j:Nat):upd (lows B k) k ((part B k 4:Nat):Int) j=lows B (k+1) j:=by
 unfold upd lows word;by_cases e:j=k
 ·subst e;simp
 ·have:(j<k+1)=(j<k):=propext ⟨fun h=>by omega,fun h=>by omega⟩
  simp[e,this]
theorem highs_start (B:Nat->Nat) (j:Nat):lows B 16 j=highs B 16 j:=by
 unfold lows highs;by_cases e:j<16
 ·rw[if_pos e,if_pos e,wv_lo B j e]
 ·rw[if_neg e,if_neg e]
theorem highs_end (B:Nat->Nat) (k j:Nat) (v:Int) (hv:v=wv B k):upd (highs B k) k v j=highs B (k+1) j:=by
 subst hv;unfold upd highs;by_cases e:j=k
 ·subst e;simp
 ·have:(j<k+1)=(j<k):=propext ⟨fun h=>by omega,fun h=>by omega⟩
  simp[e,this]
theorem highs_at (B:Nat->Nat) (k j:Nat) (h:j<k):highs B k j=wv B j:=by simp[highs,h]
theorem Tryz.size197:(prog.info? 197).map (·.size)=some 64:=by kernel_rfl
theorem hideS {p:Prop} (h:p):Hid p:=h
theorem zero64:(#[.int .u32 0,.int .u32 0,.int .u32 0,.int .u32 0,.int .u32 0,.int .u32 0,.int .u32 0,.int .u32 0,.int .u32 0,.int .u32 0,.int .u32 0,.int .u32 0,.int .u32 0,.int .u32 0,.int .u32 0,.int .u32 0,
 .int .u32 0,.int .u32 0,.int .u32 0,.int .u32 0,.int .u32 0,.int .u32 0,.int .u32 0,.int .u32 0,.int .u32 0,.int .u32 0,.int .u32 0,.int .u32 0,.int .u32 0,.int .u32 0,.int .u32 0,.int .u32 0,
 .int .u32 0,.int .u32 0,.int .u32 0,.int .u32 0,.int .u32 0,.int .u32 0,.int .u32 0,.int .u32 0,.int .u32 0,.int .u32 0,.int .u32 0,.int .u32 0,.int .u32 0,.int .u32 0,.int .u32 0,.int .u32 0,
 .int .u32 0,.int .u32 0,.int .u32 0,.int .u32 0,.int .u32 0,.int .u32 0,.int .u32 0,.int .u32 0,.int .u32 0,.int .u32 0,.int .u32 0,.int .u32 0,.int .u32 0,.int .u32 0,.int .u32 0,.int .u32 0]:Array Value)=rowF .u32 64 (fun _=>0):=by rfl
theorem spread_any (b off c:Nat) (B:Nat->Nat) (w:World) (hB:∀ j,B j<256) (hb:b<w.heap.size) (hc:∀ j,j<64->w.cell? ⟨b,off+j,none⟩=some (.int .u8 (B j:Nat))) (hcap:64<=c) :
  Calls prog 188 #[.slice (some ⟨b,off,none⟩) 64 c] w fun e w'=>e=.returned (.agg (rowF .u32 64 (wv B)))/\Below w.heap.size w w':=by
 have HC:=hideS hc;have HBB:=hideS hB;clear hc hB;go_enter func188,ntmps188
 go_wp2
 go_loopw [12] (fun i wr=>∃ k:Nat,i=.int .i64 k/\k<=16/\IsB wr (w.heap.size+1) 197 .u32 64 (lows B k)/\IsB wr w.heap.size 197 .u32 64 (fun _=>0)/\Below w.heap.size w wr/\wr.heap.size=w.heap.size+2) (fun i _=>16-(intOf i).toNat)
 case atStart =>
  refine⟨0,rfl,by omega,?_,?_,((Below.refl _ _).alloc nl _).alloc (by simp) _,by simp⟩
  ·have:=IsB.of_list (w.alloc (.cells (rowF .u32 64 (fun _=>0)) 197)) 197 .u32 64 (lows B 0) _ (zero64.trans (rowF_congr (fun j _=>by simp[lows])))
   simpa [zero64] using this
  ·exact(IsB.of_list w 197 .u32 64 (fun _=>0) _ zero64).alloc _
 case round =>
  obtain⟨k,rfl,hk,h1,h0,hbel,hsz⟩:=hrel;have H1:=hideS h1;have H0:=hideS h0;clear h1 h0;by_cases hlt:k<16
  ·have hs1:(4*(k:Int)).toNat=4*k:=by omega
   have hs2:(4*(k:Int)+4).toNat=4*k+4:=by omega
   go_wp2
   go_loopw [23] (fun j w2=>∃ m:Nat,j=.int .i64 m/\m<=4/\IsB w2 (w.heap.size+1) 197 .u32 64 (upd (lows B k) k (part B k m:Nat))/\IsB w2 w.heap.size 197 .u32 64 (fun _=>0)/\Below w.heap.size w w2/\w2.heap.size=w.heap.size+2) (fun i _=>4-(intOf i).toNat)
   case atStart =>
    refine⟨0,rfl,by omega,H1.o.congr (fun j _=>?_),H0.o,hbel,hsz⟩;exact(lows_start B k j).symm
   case round =>
    obtain⟨m,rfl,hm,h1,h0,hbel2,hsz2⟩:=hrel;have G1:=hideS h1;have G0:=hideS h0;by_cases hlm:m<4
    ·have hcell:wr.cell? ⟨w.heap.size+1,k,none⟩=some (.int .u32 (part B k m:Nat)):=by
      have:=h1.cell (j:=k) (by omega)
      rwa[upd_same]at this
     have hfz:=h1.frozen k
     have hby:wr.cell? ⟨b,off+4*k+m,none⟩=some (.int .u8 (B (4*k+m):Nat)):=by
      rw[hbel2.cell (p:=⟨b,off+4*k+m,none⟩) hb,Nat.add_assoc];exact HC.o _ (by omega)
     have hx:=part_lt24 B HBB.o k m hlm;have hbb:=HBB.o (4*k+m);have HO:=hideS (or_step _ _ hx hbb);clear h1 h0
     go_wp2
     go_roundw
     case rel =>
      have:=G1.o.set k (part B k (m+1):Nat)
      rw[upd_upd]at this;refine⟨m+1,by go_num,by omega,?_,G0.o.set_other _ _ (by simp),hbel2.setCell (by simp) _,by simp[hsz2]⟩;rw[HO.o];exact this
     case measure=>simp[intOf];omega
    ·obtain rfl:m=4:=by omega
     have G2:=hideS (h1.congr (fun j _=>lows_end B k j));clear h1 h0
     go_wp2
     go_roundw
     case rel=>exact⟨k+1,by go_num,by omega,G2.o,G0.o,hbel2,hsz2⟩
     case measure=>simp[intOf];omega
  ·have H2:Hid (IsB wr (w.heap.size+1) 197 .u32 64 (highs B 16)):=by
    have e:k=16:=by omega
    have h:=H1.o;rw[e]at h;exact h.congr (fun j _=>highs_start B j)
   clear H1
   go_wp2
   go_loopw [7] (fun i wr=>∃ k:Nat,i=.int .i64 k/\16<=k/\k<=64/\IsB wr (w.heap.size+1) 197 .u32 64 (highs B k)/\IsB wr w.heap.size 197 .u32 64 (fun _=>0)/\Below w.heap.size w wr/\wr.heap.size=w.heap.size+2) (fun i _=>64-(intOf i).toNat)
   case atStart=>exact⟨16,rfl,by omega,by omega,H2.o,H0.o,hbel,hsz⟩
   case round =>
    obtain⟨k,rfl,hk1,hk2,h1,h0,hbel2,hsz2⟩:=hrel;have G1:=hideS h1;have G0:=hideS h0;by_cases hlt:k<64
    ·have e15:((k:Int)-15).toNat=k-15:=by omega
     have e2:((k:Int)-2).toNat=k-2:=by omega
     have e16:((k:Int)-16).toNat=k-16:=by omega
     have e7:((k:Int)-7).toNat=k-7:=by omega
     obtain⟨x15,hx15⟩:∃ x,x=wv B (k-15):=⟨_,rfl⟩;obtain⟨x2,hx2⟩:∃ x,x=wv B (k-2):=⟨_,rfl⟩;obtain⟨x16,hx16⟩:∃ x,x=wv B (k-16):=⟨_,rfl⟩;obtain⟨x7,hx7⟩:∃ x,x=wv B (k-7):=⟨_,rfl⟩
     have HV:Hid ((x16+sm0 x15+x7+sm1 x2)%4294967296=wv B k):=by
      unfold Hid;rw[wv_hi B k (by omega),hx15,hx2,hx16,hx7]
     have c15:wr.cell? ⟨w.heap.size+1,k-15,none⟩=some (.int .u32 x15):=by rw[h1.cell (by omega),highs_at B k _ (by omega),hx15]
     have c2:wr.cell? ⟨w.heap.size+1,k-2,none⟩=some (.int .u32 x2):=by rw[h1.cell (by omega),highs_at B k _ (by omega),hx2]
     have c16:wr.cell? ⟨w.heap.size+1,k-16,none⟩=some (.int .u32 x16):=by rw[h1.cell (by omega),highs_at B k _ (by omega),hx16]
     have c7:wr.cell? ⟨w.heap.size+1,k-7,none⟩=some (.int .u32 x7):=by rw[h1.cell (by omega),highs_at B k _ (by omega),hx7]
     have ck:=h1.cell (j:=k) (by omega);have hfz:=h1.frozen k;clear h1 h0 hx15 hx2 hx16 hx7;(go_wp2_with fail)
     go_region
     go_wp2_with (go_at_call 189;refine(turnI_impl _ _ _ (by decide) (by decide)).mono ?_;rintro e w' ⟨rfl,hw⟩;subst w')
     go_region
     (go_wp2_with fail)
     go_roundw
     case rel =>
      have hb3:=hbel2.setCell (p:=⟨w.heap.size+1,k,none⟩) (by simp) (.int .u32 (wv B k));have hs3:(wr.setCell ⟨w.heap.size+1,k,none⟩ (.int .u32 (wv B k))).heap.size=w.heap.size+2:=(by simp[hsz2]);have e:=HV.o;simp only[sm0,sm1]at e;rw[e];exact⟨k+1,by go_num,by omega,by omega,IsB.congr (G1.o.set k _) (fun j _=>highs_end B k j _ rfl),G0.o.set_other ⟨w.heap.size+1,k,none⟩ _ (by simp),⟨hb3.os,hb3.tape,hb3.output,hb3.size,hb3.block⟩,hs3⟩
     case measure=>simp[intOf];omega
    ·obtain rfl:k=64:=by omega
     clear h1 h0
     go_wp2_with (first|((with_reducible refine wpList_load_row G1.o underlying197 Tryz.size197 ?_ ?_);(· rfl))|((with_reducible refine wpList_store_row G0.o Tryz.size197 (highs B 64) ?_ ?_ ?_);(· rfl);(· rfl)))
     refine bodyPost_ret (v:=.agg (rowF .u32 64 (highs B 64))) (results_row rfl _ rfl (G0.o.row _) underlying197 Tryz.size197) rfl ⟨?_,below_row hbel2 nl _⟩;rw[rowF_congr (fun j hj=>highs_at B 64 j hj)]
def IsV (w:World) (g:Nat) (k:IntKind) (n:Nat) (f:Nat->Int):Prop:=∃ t fr,w.heap[g]? = some (.cells (rowF k n f) t fr)
theorem IsV.cell {w:World} {g:Nat} {k:IntKind} {n:Nat} {f:Nat->Int} (h:IsV w g k n f) {j:Nat} (hj:j<n):w.cell? ⟨g,j,none⟩=some (.int k (f j)):=by
 obtain⟨t,fr,h⟩:=h;rw[cell_of_row w g j _ t fr h,rowF_get k n f j hj]
theorem IsV.lt {w:World} {g:Nat} {k:IntKind} {n:Nat} {f:Nat->Int} (h:IsV w g k n f):g<w.heap.size:=by
 obtain⟨t,fr,h⟩:=h;exact(Array.getElem?_eq_some_iff.1 h).1
theorem IsV.of_heap {w w':World} {g:Nat} {k:IntKind} {n:Nat} {f:Nat->Int} (h:IsV w g k n f) (e:w'.heap[g]? = w.heap[g]?):IsV w' g k n f:=by
 obtain⟨t,fr,h⟩:=h;exact⟨t,fr,by rw[e];exact h⟩
theorem IsV.below {w w':World} {g B:Nat} {k:IntKind} {n:Nat} {f:Nat->Int} (h:IsV w g k n f) (b:Below B w w') (hg:g<B):IsV w' g k n f:=h.of_heap (b.block g hg)
theorem wpList_load_var {P:Program} {w:World} {ops:Array Oper} {rest:List Oper} {a:Act} {Q:Exit->Act->World->Prop} {d:Tmp} {p:Operand} {ty tt:TypeId} {pos:String} {af:Array Edge}
  {g:Nat} {k:IntKind} {n:Nat} {f:Nat->Int} {e:TypeId} (hb:IsV w g k n f) (hu:P.underlying ty=some (.array n e)) (hi:(P.info? ty).map (·.size)=some n)
  (hp:a.eval p=.pointer (some ⟨g,0,none⟩)) (h:wpList P ops Q rest (a.put (some d) (.agg (rowF k n f))) w) :
  wpList P ops Q (⟨some d,.load ty p,tt,pos,af,none⟩ :: rest) a w:=by
 refine wpList_plain rfl fun K hK=>?_;obtain⟨t,fr,hb⟩:=hb
 have hl:(Instr.loadAt ty (.pointer (some ⟨g,0,none⟩))).run P w=.ok (.agg (rowF k n f)) w:=by
  simp only[Instr.loadAt,Instr.sureAddr,Sem.run_bind,Sem.run_pure,Result.andThen];exact run_loadVar_row w g t ty _ fr _ hb hu rfl (by rw[rowF_size];exact hi)
 unfold Oper.wp;simp[execOp,hp,hl,Result.andThen];exact hK _ _ h
def keyL:List Int:=[1116352408,1899447441,3049323471,3921009573,961987163,1508970993,2453635748,2870763221,3624381080,310598401,607225278,1426881987,1925078388,2162078206,2614888103,3248222580,3835390401,4022224774,264347078,604807628,770255983,1249150122,1555081692,1996064986,2554220882,2821834349,2952996808,3210313671,3336571891,3584528711,113926993,338241895,666307205,773529912,1294757372,1396182291,1695183700,1986661051,2177026350,2456956037,2730485921,2820302411,3259730800,3345764771,3516065817,3600352804,4094571909,275423344,430227734,506948616,659060556,883997877,958139571,1322822218,1537002063,1747873779,1955562222,2024104815,2227730452,2361852424,2428436474,2756734187,3204031479,3329325298]
def keyF (j:Nat):Int:=keyL.getD j 0
def firstL:List Int:=[1779033703,3144134277,1013904242,2773480762,1359893119,2600822924,528734635,1541459225]
def firstF (j:Nat):Int:=firstL.getD j 0
structure St where
 a:Int
 b:Int
 c:Int
 d:Int
 e:Int
 f:Int
 g:Int
 h:Int
def bx (x y:Int):Int:=bits BinOp.xor IntKind.u32 x y
def ba (x y:Int):Int:=bits BinOp.and IntKind.u32 x y
def big1 (e:Int):Int:=bx (bx (rotI e 6) (rotI e 11)) (rotI e 25)
def big0 (a:Int):Int:=bx (bx (rotI a 2) (rotI a 13)) (rotI a 22)
def pick (e f g:Int):Int:=bx (ba e f) (ba (bx IntKind.u32.max e) g)
def most (a b c:Int):Int:=bx (bx (ba a b) (ba a c)) (ba b c)
def t1 (s:St) (K W:Int):Int:=s.h+big1 s.e+pick s.e s.f s.g+K+W
def t2 (s:St):Int:=big0 s.a+most s.a s.b s.c
def stepS (s:St) (K W:Int):St:=⟨(t1 s K W+t2 s)%4294967296,s.a,s.b,s.c,(s.d+t1 s K W)%4294967296,s.e,s.f,s.g⟩
def start (s:Nat->Int):St:=⟨s 0,s 1,s 2,s 3,s 4,s 5,s 6,s 7⟩
def run (B:Nat->Nat) (s:Nat->Int):Nat->St
 |0=>start s
 |k+1=>stepS (run B s k) (keyF k) (wv B k)
def St.at (x:St) (j:Nat):Int:=[x.a,x.b,x.c,x.d,x.e,x.f,x.g,x.h].getD j 0
def blk (B:Nat->Nat) (s:Nat->Int) (j:Nat):Int:=(s j+(run B s 64).at j)%4294967296
def addF (x:St) (s:Nat->Int) (j:Nat):Nat->Int:=fun i=>if i<j then (s i+x.at i)%4294967296 else s i
theorem addF_zero (x:St) (s:Nat->Int) (i:Nat):s i=addF x s 0 i:=by simp[addF]
theorem addF_at (x:St) (s:Nat->Int) (j:Nat):addF x s j j=s j:=by simp[addF]
theorem addF_next (x:St) (s:Nat->Int) (j i:Nat) (upd':Nat->Int) (h1:upd' j=(s j+x.at j)%4294967296) (h2:∀ i,i≠j->upd' i=addF x s j i):upd' i=addF x s (j+1) i:=by
 by_cases e:i=j
 ·subst e;rw[h1];simp[addF]
 ·rw[h2 i e]
  have:(i<j+1)=(i<j):=propext ⟨fun h=>by omega,fun h=>by omega⟩
  simp[addF,this]
theorem addF_end (B:Nat->Nat) (s:Nat->Int) (x:St) (hx:x=run B s 64) (i:Nat) (hi:i<8):addF x s 8 i=blk B s i:=by
 simp[addF,blk,hi,hx]
theorem step_walk (xa xb xc xd xe xf xg xh kk wk:Int) :
  (⟨((xh+big1 xe+pick xe xf xg+kk+wk)%4294967296+(big0 xa+most xa xb xc)%4294967296)%4294967296,xa,xb,xc,(xd+(xh+big1 xe+pick xe xf xg+kk+wk)%4294967296)%4294967296,xe,xf,xg⟩:St)
   = stepS ⟨xa,xb,xc,xd,xe,xf,xg,xh⟩ kk wk:=by
 simp[stepS,t1,t2]
theorem idx8 (xa xb xc xd xe xf xg xh:Int) (j:Nat) (hj:j<8) (u:World) :
  (Instr.index 163 (.agg #[.int .u32 xa,.int .u32 xb,.int .u32 xc,.int .u32 xd,.int .u32 xe,.int .u32 xf,.int .u32 xg,.int .u32 xh]) (.int .i64 (j:Int))).run prog u
   = .ok (.int .u32 ((⟨xa,xb,xc,xd,xe,xf,xg,xh⟩:St).at j)) u:=by
 have hs:∀ u:World,(Go.sizeOf 162).run prog u=.ok 1 u:=fun u=>by kernel_rfl
 have:j=0∨j=1∨j=2∨j=3∨j=4∨j=5∨j=6∨j=7:=by omega
 rcases this with rfl|rfl|rfl|rfl|rfl|rfl|rfl|rfl <;>
 simp[Instr.index,asIntOf,underlying,underlying163,underlying162,Result.andThen,hs,St.at,Go.part,isAgg]
end Sh
namespace Jump
open Go
def toLabel (J:Nat->Act->World->Prop) (Q:Exit->Act->World->Prop):Exit->Act->World->Prop
 |.goto l,a,w=>J l a w
 |e,a,w=>Q e a w
theorem toLabel_ret {J:Nat->Act->World->Prop} {Q:Exit->Act->World->Prop}:toLabel J Q Exit.ret=Q Exit.ret:=rfl
theorem wp_scope_labels {P:Program} {c:Code} {a:Act} {w:World} {Q:Exit->Act->World->Prop} (J:Nat->Act->World->Prop) (μ:Nat->Act->World->Nat)
  (first:c.wp P (toLabel J Q) a w)
  (pass:∀ l a w,J l a w->∃ r,findLabel c l=some r/\r.wp P (toLabel (fun l' a' w'=>J l' a' w'/\μ l' a' w' < μ l a w) Q) a w):(Code.scope c).wp P Q a w:=by
 intro b k cs
 have key:∀ n l a w,μ l a w=n->J l a w->∃ r,findLabel c l=some r/\∃ e a' w',Q e a' w'/\Arrives P (lone (b.at a (.code r :: .inScope c :: k)) cs w) b k cs e a' w':=by
  intro n
  induction n using Nat.strongRecOn with
  |_ n ih =>
   intro l a w hn hJ;obtain⟨r,hf,hp⟩:=pass l a w hJ;refine⟨r,hf,?_⟩;obtain⟨e,a₁,w₁,hq,harr⟩:=hp b (.inScope c :: k) cs
   cases e with
   |normal=>exact⟨.normal,a₁,w₁,hq,Steps.trans harr (.one step_inScope)⟩
   |exit id=>exact⟨.exit id,a₁,w₁,hq,fun k' hk=>harr k' (by simp[exitTo,hk])⟩
   |goto l' =>
    obtain⟨hJ',hlt⟩:=hq;obtain⟨r',hf',e₂,a₂,w₂,hq₂,harr₂⟩:=ih _ (by omega) l' a₁ w₁ rfl hJ';have hg:gotoIn l' (.inScope c :: k)=some (.code r' :: .inScope c :: k):=(by simp[gotoIn,hf']);exact⟨e₂,a₂,w₂,hq₂,.of_steps (harr _ hg) harr₂⟩
   |ret=>exact⟨_,a₁,w₁,hq,harr⟩
   |panic ch=>exact⟨_,a₁,w₁,hq,harr⟩
   |outgrown=>exact⟨_,a₁,w₁,hq,harr⟩
 obtain⟨e,a₁,w₁,hq,harr⟩:=first b (.inScope c :: k) cs
 cases e with
 |normal=>exact⟨.normal,a₁,w₁,hq,.head step_scope (Steps.trans harr (.one step_inScope))⟩
 |exit id=>exact⟨.exit id,a₁,w₁,hq,fun k' hk=>.head step_scope (harr k' (by simp[exitTo,hk]))⟩
 |goto l' =>
  obtain⟨r',hf',e₂,a₂,w₂,hq₂,harr₂⟩:=key _ l' a₁ w₁ rfl hq
  have hg:gotoIn l' (.inScope c :: k)=some (.code r' :: .inScope c :: k):=by simp[gotoIn,hf']
  exact⟨e₂,a₂,w₂,hq₂,.of_steps (.head step_scope (harr _ hg)) harr₂⟩
 |ret=>exact⟨_,a₁,w₁,hq,.of_steps (.one step_scope) harr⟩
 |panic ch=>exact⟨_,a₁,w₁,hq,.of_steps (.one step_scope) harr⟩
 |outgrown=>exact⟨_,a₁,w₁,hq,.of_steps (.one step_scope) harr⟩
end Jump
namespace Hf
abbrev Tree:=Nat × List Nat
def wt (l:List Tree) (i:Nat):Nat:=(l.getD i (0,[])).1
def least (l:List Tree):Nat->Nat
 |0=>0
 |i+1=>if wt l i<wt l (least l i) then i else least l i
theorem least_le (l:List Tree):∀ i,least l i<=i-1
 |0=>nl
 |i+1=>by
  rw[least]
  have:=least_le l i
  split<;>omega
theorem least_lt (l:List Tree) (h:0<l.length):least l l.length<l.length:=by
 have:=least_le l l.length
 omega
theorem least_min (l:List Tree):∀ i j,j<i->wt l (least l i)<=wt l j
 |0,j,h=>by omega
 |i+1,j,h=>by
  rw[least];by_cases hj:j=i
  ·subst hj
   split<;>omega
  ·have:=least_min l i j (by omega)
   split<;>omega
def at0 (l:List Tree) (i:Nat):Tree:=l.getD i (0,[])
def first (l:List Tree):Tree:=at0 l (least l l.length)
def rest1 (l:List Tree):List Tree:=l.eraseIdx (least l l.length)
def second (l:List Tree):Tree:=first (rest1 l)
def rest2 (l:List Tree):List Tree:=rest1 (rest1 l)
def both (l:List Tree):Tree:=((first l).1+(second l).1,(first l).2++(second l).2)
def join (l:List Tree):List Tree:=rest2 l++[both l]
theorem rest1_length (l:List Tree) (h:0<l.length):(rest1 l).length=l.length-1:=by
 unfold rest1;rw[List.length_eraseIdx,if_pos (least_lt l h)]
theorem rest2_length (l:List Tree) (h:2<=l.length):(rest2 l).length=l.length-2:=by
 unfold rest2;rw[rest1_length _ (by rw[rest1_length l (by omega)];omega),rest1_length l (by omega)];omega
theorem join_length (l:List Tree) (h:2<=l.length):(join l).length=l.length-1:=by
 unfold join;rw[List.length_append,rest2_length l h];simp;omega
def incs (d:List Nat) (s:List Nat):List Nat:=s.foldl (fun d k=>d.set k (d.getD k 0+1)) d
theorem incs_length (s:List Nat):∀ d,(incs d s).length=d.length:=by
 unfold incs
 induction s with
 |nil=>intro d;rfl
 |cons k s ih =>
  intro d;rw[List.foldl_cons,ih,List.length_set]
theorem getD_set (d:List Nat) (k j v:Nat) (hk:k<d.length):(d.set k v).getD j 0=if j=k then v else d.getD j 0:=by
 rw[List.getD_eq_getElem?_getD,List.getElem?_set];by_cases h:k=j
 ·subst h
  rw[if_pos rfl,if_pos hk,if_pos rfl];rfl
 ·rw[if_neg h,if_neg (fun e=>h e.symm),List.getD_eq_getElem?_getD]
theorem incs_at (s:List Nat):∀ (d:List Nat) (j:Nat),s.Nodup->(∀ k∈s,k<d.length)->(incs d s).getD j 0=if j∈s then d.getD j 0+1 else d.getD j 0:=by
 unfold incs
 induction s with
 |nil=>intro d j _ _;simp
 |cons k s ih =>
  intro d j hn hk;obtain⟨h1,h2⟩:=List.nodup_cons.1 hn;have hkd:=hk k (List.mem_cons_self ..);rw[List.foldl_cons,ih (d.set k (d.getD k 0+1)) j h2 (fun x hx=>by rw[List.length_set];exact hk x (List.mem_cons_of_mem _ hx)),getD_set _ _ _ _ hkd];by_cases hj:j=k
  ·subst hj
   rw[if_neg h1,if_pos rfl,if_pos (List.mem_cons_self ..)]
  ·rw[if_neg hj]
   by_cases hs:j∈s
   ·rw[if_pos hs,if_pos (List.mem_cons_of_mem _ hs)]
   ·rw[if_neg hs,if_neg (fun h=>by rcases List.mem_cons.1 h with h|h;exact hj h;exact hs h)]
def run:Nat->List Tree->List Nat->List Nat
 |0,_,d=>d
 |f+1,l,d=>if l.length<=1 then d else run f (join l) (incs (incs d (first l).2) (second l).2)
theorem run_done (f:Nat) (l:List Tree) (d:List Nat) (h:l.length<=1):run f l d=d:=by
 cases f with
 |zero=>rfl
 |succ f=>rw[run,if_pos h]
theorem run_more (l:List Tree) (d:List Nat) (h:¬l.length<=1):run l.length l d=run (join l).length (join l) (incs (incs d (first l).2) (second l).2):=by
 rw[join_length l (by omega)];obtain⟨f,hf⟩:∃ f,l.length=f+1:=⟨l.length-1,by omega⟩;rw[hf,run,if_neg h];rfl
def fib:Nat->Nat
 |0=>0
 |1=>1
 |n+2=>fib n+fib (n+1)
theorem fib_le (n:Nat):fib n<=fib (n+1):=by
 cases n with
 |zero=>decide
 |succ n =>
  rw[show fib (n+1+1)=fib n+fib (n+1) from rfl];omega
theorem fib_mono {m n:Nat} (h:m<=n):fib m<=fib n:=by
 induction n with
 |zero =>
  have:m=0:=by omega
  rw[this];exact nl
 |succ n ih =>
  by_cases hm:m=n+1
  ·rw[hm]
   exact nl
  ·exact Nat.le_trans (ih (by omega)) (fib_le n)
def dep (d:List Nat) (s:Nat):Nat:=d.getD s 0
def sep (d:List Nat) (t u:Tree):Prop:=(∀ s∈t.2,fib (dep d s+1)<=u.1)/\(∀ s∈u.2,fib (dep d s+1)<=t.1)/\∀ s∈t.2,s ∉ u.2
theorem sep_symm {d:List Nat} {t u:Tree} (h:sep d t u):sep d u t:=⟨h.2.1,h.1,fun s hs ht=>h.2.2 s ht hs⟩
structure Inv (l:List Tree) (d:List Nat) (n:Nat):Prop where
 own:∀ t∈l,∀ s∈t.2,fib (dep d s+2)<=t.1
 nd:∀ t∈l,t.2.Nodup
 lt:∀ t∈l,∀ s∈t.2,s<d.length
 pw:l.Pairwise (sep d)
 sum:(l.map (·.1)).sum=n
 o:∀ s,(∀ t∈l,s ∉ t.2)->dep d s=0
theorem Inv.perm {l l':List Tree} {d:List Nat} {n:Nat} (h:Inv l d n) (p:l.Perm l'):Inv l' d n :=
 ⟨fun t ht=>h.own t (p.mem_iff.2 ht),fun t ht=>h.nd t (p.mem_iff.2 ht),fun t ht=>h.lt t (p.mem_iff.2 ht),(p.pairwise_iff sep_symm).1 h.pw,(p.map _).sum_nat.symm.trans h.sum,fun s hs=>h.o s fun t ht=>hs t (p.mem_iff.1 ht)⟩
theorem first_mem (l:List Tree) (h:0<l.length):first l=l[least l l.length]'(least_lt l h):=by
 unfold first at0;rw[List.getD_eq_getElem?_getD,List.getElem?_eq_getElem (least_lt l h)];rfl
theorem erase_perm:∀ (l:List Tree) (i:Nat) (h:i<l.length),l.Perm (l[i] :: l.eraseIdx i)
 |[],i,h=>absurd h (Nat.not_lt_zero i)
 |_ :: _,0,_=>List.Perm.refl _
 |x :: l,i+1,h=>((erase_perm l i (Nat.lt_of_succ_lt_succ h)).cons x).trans (List.Perm.swap _ _ _)
theorem le_sum:∀ (l:List Nat) (x:Nat),x∈l->x<=l.sum
 |[],x,h=>absurd h (List.not_mem_nil)
 |y :: l,x,h=>by
  rw[List.sum_cons]
  rcases List.mem_cons.1 h with rfl|h
  ·omega
  ·have:=le_sum l x h
   omega
theorem first_perm (l:List Tree) (h:0<l.length):l.Perm (first l :: rest1 l):=by
 rw[first_mem l h];exact erase_perm l _ (least_lt l h)
theorem first_min (l:List Tree) (t:Tree) (ht:t∈l):(first l).1<=t.1:=by
 obtain⟨j,hj,rfl⟩:=List.getElem_of_mem ht
 have:=least_min l l.length j hj
 unfold wt at this;rw[show (l.getD j (0,[]))=l[j] by rw[List.getD_eq_getElem?_getD,List.getElem?_eq_getElem hj];rfl]at this;exact this
theorem two_perm (l:List Tree) (h:2<=l.length):l.Perm (first l :: second l :: rest2 l) :=
 (first_perm l (by omega)).trans ((first_perm (rest1 l) (by rw[rest1_length l (by omega)];omega)).cons _)
theorem join_perm (l:List Tree):(join l).Perm (both l :: rest2 l):=List.perm_append_comm
theorem two_dep (d a b:List Nat) (ha:a.Nodup) (hb:b.Nodup) (hab:∀ s∈a,s ∉ b) (la:∀ s∈a,s<d.length) (lb:∀ s∈b,s<d.length) (s:Nat):dep (incs (incs d a) b) s=if s∈a++b then dep d s+1 else dep d s:=by
 unfold dep;rw[incs_at b _ s hb (fun k hk=>by rw[incs_length];exact lb k hk),incs_at a d s ha la];by_cases h1:s∈a
 ·rw[if_neg (hab s h1),if_pos h1,if_pos (List.mem_append_left _ h1)]
 ·by_cases h2:s∈b
  ·rw[if_pos h2,if_neg h1,if_pos (List.mem_append_right _ h2)]
  ·rw[if_neg h2,if_neg h1,if_neg (fun h=>by rcases List.mem_append.1 h with h|h;exact h1 h;exact h2 h)]
theorem Inv.two {a b:Tree} {r:List Tree} {d:List Nat} {n:Nat} (h:Inv (a :: b :: r) d n) (hm:∀ c∈r,a.1<=c.1/\b.1<=c.1):Inv ((a.1+b.1,a.2++b.2) :: r) (incs (incs d a.2) b.2) n:=by
 have ma:a∈a :: b :: r:=List.mem_cons_self ..;have mb:b∈a :: b :: r:=List.mem_cons_of_mem _ (List.mem_cons_self ..);have mr:∀ c∈r,c∈a :: b :: r:=fun c hc=>List.mem_cons_of_mem _ (List.mem_cons_of_mem _ hc);obtain⟨pa,pb'⟩:=List.pairwise_cons.1 h.pw;obtain⟨pb,pr⟩:=List.pairwise_cons.1 pb';have sab:=pa b (List.mem_cons_self ..);have hd:=two_dep d a.2 b.2 (h.nd a ma) (h.nd b mb) sab.2.2 (h.lt a ma) (h.lt b mb)
 have hlen:(incs (incs d a.2) b.2).length=d.length:=by rw[incs_length,incs_length]
 have hout:∀ c∈r,∀ s∈c.2,dep (incs (incs d a.2) b.2) s=dep d s:=fun c hc s hs=>by
  rw[hd,if_neg];intro hx
  rcases List.mem_append.1 hx with hx|hx
  ·exact(pa c (List.mem_cons_of_mem _ hc)).2.2 s hx hs
  ·exact(pb c hc).2.2 s hx hs
 refine⟨?_,?_,?_,?_,?_,?_⟩
 ·intro t ht s hs
  rcases List.mem_cons.1 ht with rfl|ht
  ·rw[hd,if_pos hs,show fib (dep d s+1+2)=fib (dep d s+1)+fib (dep d s+2) from rfl]
   show _<=a.1+b.1
   rcases List.mem_append.1 hs with hs|hs
   ·have h1:=sab.1 s hs
    have h2:=h.own a ma s hs;omega
   ·have h1:=sab.2.1 s hs
    have h2:=h.own b mb s hs;omega
  ·rw[hout t ht s hs]
   exact h.own t (mr t ht) s hs
 ·intro t ht
  rcases List.mem_cons.1 ht with rfl|ht
  ·exact List.nodup_append.2 ⟨h.nd a ma,h.nd b mb,fun x hx y hy e=>sab.2.2 x hx (e ▸ hy)⟩
  ·exact h.nd t (mr t ht)
 ·intro t ht s hs
  rw[hlen]
  rcases List.mem_cons.1 ht with rfl|ht
  ·rcases List.mem_append.1 hs with hs|hs
   ·exact h.lt a ma s hs
   ·exact h.lt b mb s hs
  ·exact h.lt t (mr t ht) s hs
 ·refine List.pairwise_cons.2 ⟨fun c hc=>⟨?_,?_,?_⟩,?_⟩
  ·intro s hs
   rw[hd,if_pos hs]
   rcases List.mem_append.1 hs with hs|hs
   ·exact Nat.le_trans (h.own a ma s hs) (hm c hc).1
   ·exact Nat.le_trans (h.own b mb s hs) (hm c hc).2
  ·intro s hs
   rw[hout c hc s hs]
   have:=(pa c (List.mem_cons_of_mem _ hc)).2.1 s hs
   show _<=a.1+b.1
   omega
  ·intro s hs hc'
   rcases List.mem_append.1 hs with hs|hs
   ·exact(pa c (List.mem_cons_of_mem _ hc)).2.2 s hs hc'
   ·exact(pb c hc).2.2 s hs hc'
  ·refine List.Pairwise.imp_of_mem ?_ pr
   intro c c' hc hc' hs;refine⟨fun s x=>?_,fun s x=>?_,hs.2.2⟩
   ·rw[hout c hc s x]
    exact hs.1 s x
   ·rw[hout c' hc' s x]
    exact hs.2.1 s x
 ·have:=h.sum
  simp only[List.map_cons,List.sum_cons]at this ⊢;omega
 ·intro s hs
  have h0:=hs _ (List.mem_cons_self ..);rw[hd,if_neg h0];refine h.o s fun t ht hts=>?_
  rcases List.mem_cons.1 ht with rfl|ht
  ·exact h0 (List.mem_append_left _ hts)
  ·rcases List.mem_cons.1 ht with rfl|ht
   ·exact h0 (List.mem_append_right _ hts)
   ·exact hs t (List.mem_cons_of_mem _ ht) hts
theorem Inv.join {l:List Tree} {d:List Nat} {n:Nat} (h:Inv l d n) (h2:2<=l.length):Inv (join l) (incs (incs d (first l).2) (second l).2) n:=by
 refine Inv.perm (Inv.two (h.perm (two_perm l h2)) fun c hc=>⟨?_,?_⟩) (join_perm l).symm
 ·exact first_min l c ((two_perm l h2).mem_iff.2 (List.mem_cons_of_mem _ (List.mem_cons_of_mem _ hc)))
 ·refine first_min (rest1 l) c ?_
  have hp:=first_perm (rest1 l) (by rw[rest1_length l (by omega)];omega);exact hp.mem_iff.2 (List.mem_cons_of_mem _ hc)
theorem Inv.bound {l:List Tree} {d:List Nat} {n:Nat} (h:Inv l d n) (s:Nat):dep d s=0∨fib (dep d s+2)<=n:=by
 by_cases hs:∀ t∈l,s ∉ t.2
 ·exact .inl (h.o s hs)
 ·refine .inr ?_
  obtain⟨t,ht⟩:∃ t,¬(t∈l->s ∉ t.2):=Classical.not_forall.1 hs;obtain⟨hl,hst⟩:t∈l/\s∈t.2:=⟨Classical.byContradiction fun e=>ht fun h=>absurd h e,Classical.byContradiction fun e=>ht fun _=>e⟩;refine Nat.le_trans (h.own t hl s hst) ?_;rw[<-h.sum];exact le_sum _ _ (List.mem_map.2 ⟨t,hl,rfl⟩)
theorem run_bound (f:Nat):∀ (l:List Tree) (d:List Nat) (n:Nat),Inv l d n->∀ s,dep (run f l d) s=0∨fib (dep (run f l d) s+2)<=n:=by
 induction f with
 |zero=>intro l d n h s;exact h.bound s
 |succ f ih =>
  intro l d n h s;rw[run]
  split
  ·exact h.bound s
  ·exact ih _ _ _ (h.join (by omega)) s
theorem run_length (f:Nat):∀ (l:List Tree) (d:List Nat),(run f l d).length=d.length:=by
 induction f with
 |zero=>intro l d;rfl
 |succ f ih =>
  intro l d;rw[run]
  split
  ·rfl
  ·rw[ih,incs_length,incs_length]
def trees (c:List Nat):Nat->List Tree
 |0=>[]
 |i+1=>if 0<c.getD i 0 then trees c i++[(c.getD i 0,[i])] else trees c i
theorem trees_length (c:List Nat):∀ i,(trees c i).length<=i
 |0=>nl
 |i+1=>by
  rw[trees]
  have:=trees_length c i
  split
  ·rw[List.length_append]
   simp;exact this
  ·omega
theorem trees_mem (c:List Nat):∀ i t,t∈trees c i->∃ j,j<i/\0<c.getD j 0/\t=(c.getD j 0,[j])
 |0,t,h=>absurd h (List.not_mem_nil)
 |i+1,t,h=>by
  rw[trees]at h
  split at h
  ·rcases List.mem_append.1 h with h|h
   ·obtain⟨j,hj,hr⟩:=trees_mem c i t h
    exact⟨j,by omega,hr⟩
   ·exact⟨i,by omega,by assumption,List.mem_singleton.1 h⟩
  ·obtain⟨j,hj,hr⟩:=trees_mem c i t h
   exact⟨j,by omega,hr⟩
def zeros (n:Nat):List Nat:=List.replicate n 0
theorem dep_zeros (n s:Nat):dep (zeros n) s=0:=by
 unfold dep zeros;rw[List.getD_eq_getElem?_getD,List.getElem?_replicate]
 split<;>rfl
theorem sum_take (c:List Nat) (i:Nat) (h:i<c.length):(c.take (i+1)).sum=(c.take i).sum+c.getD i 0:=by
 rw[List.take_add_one,List.getElem?_eq_getElem h,List.sum_append,List.getD_eq_getElem?_getD,List.getElem?_eq_getElem h];simp
theorem trees_inv (c:List Nat):∀ i,i<=c.length->Inv (trees c i) (zeros c.length) (c.take i).sum
 |0,_=>⟨fun t h=>absurd h (List.not_mem_nil),fun t h=>absurd h (List.not_mem_nil),fun t h=>absurd h (List.not_mem_nil),List.Pairwise.nil,rfl,fun s _=>dep_zeros _ _⟩
 |i+1,h=>by
  have ih:=trees_inv c i (by omega);rw[sum_take c i (by omega),trees];by_cases h0:0<c.getD i 0
  ·rw[if_pos h0]
   refine⟨?_,?_,?_,?_,?_,fun s _=>dep_zeros _ _⟩
   ·intro t ht s hs
    rw[dep_zeros];obtain⟨j,_,hj,rfl⟩:=trees_mem c (i+1) t (by rw[trees,if_pos h0];exact ht);exact hj
   ·intro t ht
    obtain⟨j,_,hj,rfl⟩:=trees_mem c (i+1) t (by rw[trees,if_pos h0];exact ht);simp
   ·intro t ht s hs
    obtain⟨j,hji,hj,rfl⟩:=trees_mem c (i+1) t (by rw[trees,if_pos h0];exact ht);rw[List.mem_singleton.1 hs,show (zeros c.length).length=c.length from List.length_replicate ..];omega
   ·refine List.pairwise_append.2 ⟨ih.pw,List.pairwise_singleton _ _,fun t ht u hu=>?_⟩
    obtain⟨j,hji,hj,rfl⟩:=trees_mem c i t ht;rw[List.mem_singleton.1 hu];refine⟨fun s _=>?_,fun s _=>?_,fun s hs hs'=>?_⟩
    ·rw[dep_zeros]
     exact h0
    ·rw[dep_zeros]
     exact hj
    ·have e1:=List.mem_singleton.1 hs
     have e2:=List.mem_singleton.1 hs';omega
   ·rw[List.map_append,List.sum_append,ih.sum]
    simp
  ·rw[if_neg h0,show c.getD i 0=0 by omega]
   exact ih
def depths (c:List Nat):List Nat :=
 if (trees c c.length).length=1 then (zeros c.length).set ((at0 (trees c c.length) 0).2.getD 0 0) 1 else run (trees c c.length).length (trees c c.length) (zeros c.length)
theorem depths_length (c:List Nat):(depths c).length=c.length:=by
 unfold depths
 split
 ·rw[List.length_set]
  exact List.length_replicate ..
 ·rw[run_length]
  exact List.length_replicate ..
theorem depths_bound (c:List Nat) (s:Nat):dep (depths c) s<=1∨fib (dep (depths c) s+2)<=c.sum:=by
 unfold depths
 split
 ·refine .inl ?_
  unfold dep;rw[List.getD_eq_getElem?_getD,List.getElem?_set]
  split
  ·split
   ·exact nl
   ·exact Nat.zero_le _
  ·have:=dep_zeros c.length s
   unfold dep at this;rw[List.getD_eq_getElem?_getD]at this;omega
 ·have h:=trees_inv c c.length nl
  rw[List.take_length]at h
  rcases run_bound (trees c c.length).length _ _ _ h s with h|h
  ·exact .inl (by omega)
  ·exact .inr h
def okay (d:List Nat):Bool:=d.all (fun x=>decide (x<=12))
theorem sum_le (c:List Nat) (m:Nat) (h:∀ x∈c,x<=m):c.sum<=m*c.length:=by
 induction c with
 |nil=>simp
 |cons x c ih =>
  have h1:=ih fun y hy=>h y (List.mem_cons_of_mem _ hy);have h2:=h x (List.mem_cons_self ..);rw[List.sum_cons,List.length_cons,Nat.mul_add];omega
theorem okay_small (c:List Nat) (h:∀ x∈c,x<=2) (hl:c.length<=257):okay (depths c)=true:=by
 unfold okay;rw[List.all_eq_true];intro x hx;obtain⟨j,hj,rfl⟩:=List.getElem_of_mem hx
 have hd:dep (depths c) j=(depths c)[j]:=by
  unfold dep;rw[List.getD_eq_getElem?_getD,List.getElem?_eq_getElem hj];rfl
 have hs:=sum_le c 2 h;rw[<-hd]
 rcases depths_bound c j with h1|h1
 ·exact decide_eq_true (by omega)
 ·refine decide_eq_true (Nat.le_of_not_lt fun h12=>?_)
  have h2:=fib_mono (show 15<=dep (depths c) j+2 by omega);rw[show fib 15=610 from rfl]at h2;omega
def flat (c:List Nat):List Nat:=c.map fun x=>if 0<x then x/2+1 else 0
theorem flat_length (c:List Nat):(flat c).length=c.length:=by
 unfold flat;rw[List.length_map]
theorem flat_le (c:List Nat):(flat c).sum<=c.sum:=by
 unfold flat
 induction c with
 |nil=>exact nl
 |cons x c ih =>
  rw[List.map_cons,List.sum_cons,List.sum_cons]
  split<;>omega
theorem flat_lt (c:List Nat) (h:∃ x∈c,3<=x):(flat c).sum<c.sum:=by
 induction c with
 |nil =>
  obtain⟨x,hx,_⟩:=h
  cases hx
 |cons x c ih =>
  have hle:=flat_le c;unfold flat at hle ih ⊢;rw[List.map_cons,List.sum_cons,List.sum_cons];obtain⟨y,hy,h3⟩:=h
  rcases List.mem_cons.1 hy with rfl|hy
  ·rw[if_pos (by omega)]
   omega
  ·have:=ih ⟨y,hy,h3⟩
   split<;>omega
theorem flat_more (c:List Nat) (hl:c.length<=257) (h:¬okay (depths c)=true):(flat c).sum<c.sum:=by
 refine flat_lt c (Classical.byContradiction fun hn=>h (okay_small c (fun x hx=>?_) hl));refine Nat.le_of_not_lt fun h3=>hn ⟨x,hx,h3⟩
def ofN:Nat->List Nat->List Nat
 |0,c=>depths c
 |f+1,c=>if okay (depths c)=true then depths c else ofN f (flat c)
theorem ofN_more (f:Nat):∀ (c:List Nat) (g:Nat),c.length<=257->c.sum<=f->c.sum<=g->ofN f c=ofN g c:=by
 induction f with
 |zero =>
  intro c g hl hf _
  have hz:okay (depths c)=true:=Classical.byContradiction fun h=>by
   have:=flat_more c hl h
   omega
  cases g with
  |zero=>rfl
  |succ g=>rw[ofN,ofN,if_pos hz]
 |succ f ih =>
  intro c g hl hf hg;rw[ofN];by_cases h:okay (depths c)=true
  ·rw[if_pos h]
   cases g with
   |zero=>rfl
   |succ g=>rw[ofN,if_pos h]
  ·have hlt:=flat_more c hl h
   rw[if_neg h]
   cases g with
   |zero=>omega
   |succ g =>
    rw[ofN,if_neg h];exact ih (flat c) g (by rw[flat_length];exact hl) (by omega) (by omega)
def lenOf (c:List Nat):List Nat:=ofN c.sum c
theorem lenOf_yes (c:List Nat) (h:okay (depths c)=true):lenOf c=depths c:=by
 unfold lenOf
 cases c.sum with
 |zero=>rfl
 |succ f=>rw[ofN,if_pos h]
theorem lenOf_no (c:List Nat) (hl:c.length<=257) (h:¬okay (depths c)=true):lenOf c=lenOf (flat c):=by
 have hlt:=flat_more c hl h;unfold lenOf;obtain⟨f,hf⟩:∃ f,c.sum=f+1:=⟨c.sum-1,by omega⟩;rw[hf,ofN,if_neg h];exact ofN_more f (flat c) _ (by rw[flat_length];exact hl) (by omega) nl
end Hf
namespace So
def seg (f:Nat->Nat) (a b:Nat):List Nat:=(List.range' a (b-a)).map f
theorem seg_mem {f:Nat->Nat} {a b x:Nat}:x∈seg f a b↔∃ i,a<=i/\i<b/\f i=x:=by
 unfold seg;rw[List.mem_map]
 constructor
 ·rintro⟨i,hi,e⟩
  have:=List.mem_range'_1.1 hi
  exact⟨i,by omega,by omega,e⟩
 ·rintro⟨i,h1,h2,e⟩
  exact⟨i,List.mem_range'_1.2 ⟨h1,by omega⟩,e⟩
theorem seg_split (f:Nat->Nat) {a m b:Nat} (h1:a<=m) (h2:m<=b):seg f a b=seg f a m++seg f m b:=by
 unfold seg
 have:=List.range'_append_1 (s:=a) (m:=m-a) (n:=b-m)
 rw[show a+(m-a)=m by omega,show m-a+(b-m)=b-a by omega]at this;rw[<-this,List.map_append]
theorem seg_congr {f g:Nat->Nat} {a b:Nat} (h:∀ i,a<=i->i<b->f i=g i):seg f a b=seg g a b:=by
 unfold seg
 apply List.map_congr_left
 intro i hi
 have:=List.mem_range'_1.1 hi
 exact h i (by omega) (by omega)
theorem seg_shift {f g:Nat->Nat} {a a' n:Nat} (h:∀ i,i<n->g (a' + i)=f (a+i)):seg g a' (a' + n)=seg f a (a+n):=by
 unfold seg
 apply List.ext_getElem
 ·simp
 ·intro k h1 h2
  simp at h1 h2;simp;exact h k (by omega)
def PermF (a b:Nat) (f g:Nat->Nat):Prop:=(seg g a b).Perm (seg f a b)/\∀ i,i<a∨b<=i->g i=f i
theorem PermF.refl (a b:Nat) (f:Nat->Nat):PermF a b f f:=⟨List.Perm.refl _,fun _ _=>rfl⟩
theorem PermF.trans {a b:Nat} {f g h:Nat->Nat} (h1:PermF a b f g) (h2:PermF a b g h):PermF a b f h :=
 ⟨h2.1.trans h1.1,fun i hi=>(h2.2 i hi).trans (h1.2 i hi)⟩
theorem PermF.mono {a b a' b':Nat} {f g:Nat->Nat} (h:PermF a b f g) (ha:a'<=a) (hab:a<=b) (hb:b<=b'):PermF a' b' f g:=by
 refine⟨?_,fun i hi=>h.2 i (by omega)⟩;rw[seg_split g (show a'<=a from ha) (show a<=b' by omega),seg_split f (show a'<=a from ha) (show a<=b' by omega),seg_split g hab hb,seg_split f hab hb];rw[seg_congr (f:=g) (g:=f) (a:=a') (b:=a) fun i _ h2=>h.2 i (by omega),seg_congr (f:=g) (g:=f) (a:=b) (b:=b') fun i h1 _=>h.2 i (by omega)];exact(List.Perm.refl _).append (h.1.append (List.Perm.refl _))
theorem PermF.all {a b:Nat} {f g:Nat->Nat} (h:PermF a b f g) {p:Nat->Prop} (hp:∀ i,a<=i->i<b->p (f i)):∀ i,a<=i->i<b->p (g i):=by
 intro i h1 h2;have hm:g i∈seg g a b:=seg_mem.2 ⟨i,h1,h2,rfl⟩;obtain⟨k,k1,k2,e⟩:=seg_mem.1 (h.1.mem_iff.1 hm);rw[<-e];exact hp k k1 k2
def rotF (a m b:Nat) (f:Nat->Nat):Nat->Nat:=fun k =>
 if k<a then f k else if k<a+(b-m) then f (k-a+m) else if k<b then f (k-(b-m)) else f k
theorem rot_out {a m b:Nat} (f:Nat->Nat) (k:Nat) (h:k<a∨b<=k) (h1:a<=m) (h2:m<=b):rotF a m b f k=f k:=by
 unfold rotF
 rcases h with h|h
 ·rw[if_pos h]
 ·rw[if_neg (by omega),if_neg (by omega),if_neg (by omega)]
theorem rot_first {a m b:Nat} (f:Nat->Nat) (k:Nat) (h1:a<=k) (h2:k<a+(b-m)):rotF a m b f k=f (k-a+m):=by
 unfold rotF;rw[if_neg (by omega),if_pos h2]
theorem rot_second {a m b:Nat} (f:Nat->Nat) (k:Nat) (h0:a<=k) (h1:a+(b-m)<=k) (h2:k<b):rotF a m b f k=f (k-(b-m)):=by
 unfold rotF;rw[if_neg (by omega),if_neg (by omega),if_pos h2]
theorem rot_perm {a m b:Nat} (f:Nat->Nat) (h1:a<=m) (h2:m<=b):PermF a b f (rotF a m b f):=by
 refine⟨?_,fun i hi=>rot_out f i hi h1 h2⟩;rw[seg_split (rotF a m b f) (show a<=a+(b-m) by omega) (show a+(b-m)<=b by omega),seg_split f h1 h2]
 have e1:seg (rotF a m b f) a (a+(b-m))=seg f m b:=by
  have:=seg_shift (f:=f) (g:=rotF a m b f) (a:=m) (a':=a) (n:=b-m) fun i hi=>by
   rw[rot_first f (a+i) (by omega) (by omega)]
   congr 1
   omega
  rw[this]
  congr 1
  omega
 have e2:seg (rotF a m b f) (a+(b-m)) b=seg f a m:=by
  have:=seg_shift (f:=f) (g:=rotF a m b f) (a:=a) (a':=a+(b-m)) (n:=m-a) fun i hi=>by
   rw[rot_second f (a+(b-m)+i) (by omega) (by omega) (by omega)]
   congr 1
   omega
  rw[show a+(b-m)+(m-a)=b by omega]at this;rw[this]
  congr 1
  omega
 rw[e1,e2];exact List.perm_append_comm
def swpR (p q n:Nat) (f:Nat->Nat):Nat->Nat:=fun k =>
 if p<=k/\k<p+n then f (k-p+q) else if q<=k/\k<q+n then f (k-q+p) else f k
def swp (f:Nat->Nat) (i j:Nat):Nat->Nat:=fun k=>if k=j then f i else if k=i then f j else f k
theorem swpR_zero (p q:Nat) (f:Nat->Nat):swpR p q 0 f=f:=by
 funext k
 unfold swpR;rw[if_neg (by omega),if_neg (by omega)]
theorem swpR_next (p q n:Nat) (f:Nat->Nat) (h:p+n<q):swp (swpR p q n f) (p+n) (q+n)=swpR p q (n+1) f:=by
 funext k
 unfold swp;by_cases e1:k=q+n
 ·subst e1
  rw[if_pos rfl];unfold swpR;rw[if_neg (by omega),if_neg (by omega),if_neg (by omega),if_pos (by omega)]
  congr 1
  omega
 ·rw[if_neg e1]
  by_cases e2:k=p+n
  ·subst e2
   rw[if_pos rfl];unfold swpR;rw[if_neg (by omega),if_neg (by omega),if_pos (by omega)]
   congr 1
   omega
  ·rw[if_neg e2]
   unfold swpR;by_cases h1:p<=k/\k<p+n
   ·rw[if_pos h1,if_pos (by omega)]
   ·rw[if_neg h1,if_neg (show ¬(p<=k/\k<p+(n+1)) by omega)]
    by_cases h2:q<=k/\k<q+n
    ·rw[if_pos h2,if_pos (by omega)]
    ·rw[if_neg h2,if_neg (by omega)]
theorem rot_long (m i j:Nat) (f:Nat->Nat) (hj:j<i) (hi:i<=m):rotF (m-(i-j)) m (m+j) (swpR (m-i) m j f)=rotF (m-i) m (m+j) f:=by
 funext k
 unfold rotF swpR
 repeat' split
 all_goals first|omega|(congr 1;omega)|rfl
theorem rot_short (m i j:Nat) (f:Nat->Nat) (hj:i<j) (hi:i<=m):rotF (m-i) m (m+(j-i)) (swpR (m-i) (m+j-i) i f)=rotF (m-i) m (m+j) f:=by
 funext k
 unfold rotF swpR
 repeat' split
 all_goals first|omega|(congr 1;omega)|rfl
theorem rot_even (m i:Nat) (f:Nat->Nat) (hi:i<=m):swpR (m-i) m i f=rotF (m-i) m (m+i) f:=by
 funext k
 unfold rotF swpR
 repeat' split
 all_goals first|omega|(congr 1;omega)|rfl
theorem rot_up (a k:Nat) (f:Nat->Nat) (h:a<=k):swp (rotF a (a+1) (k+1) f) k (k+1)=rotF a (a+1) (k+2) f:=by
 funext i
 unfold swp rotF
 repeat' split
 all_goals first|omega|(congr 1;omega)|rfl
theorem rot_up0 (a:Nat) (f:Nat->Nat):rotF a (a+1) (a+1) f=f:=by
 funext i
 unfold rotF
 repeat' split
 all_goals first|omega|(congr 1;omega)|rfl
theorem rot_down (k m:Nat) (f:Nat->Nat) (h:k+1<=m):swp (rotF (k+1) m (m+1) f) (k+1) k=rotF k m (m+1) f:=by
 funext i
 unfold swp rotF
 repeat' split
 all_goals first|omega|(congr 1;omega)|rfl
theorem rot_down0 (m:Nat) (f:Nat->Nat):rotF m m (m+1) f=f:=by
 funext i
 unfold rotF
 repeat' split
 all_goals first|omega|(congr 1;omega)|rfl
structure Weak (cl:Nat->Nat->Bool):Prop where
 irrefl:∀ x,cl x x=false
 trans:∀ x y z,cl x y=true->cl y z=true->cl x z=true
 ntrans:∀ x y z,cl x y=false->cl y z=false->cl x z=false
def lx (cl:Nat->Nat->Bool) (x y:Nat):Prop:=cl x y=true∨cl y x=false/\x<y
theorem lx_trans {cl:Nat->Nat->Bool} (h:Weak cl) {x y z:Nat} (h1:lx cl x y) (h2:lx cl y z):lx cl x z:=by
 rcases h1 with h1|⟨h1,l1⟩
 ·rcases h2 with h2|⟨h2,l2⟩
  ·exact .inl (h.trans _ _ _ h1 h2)
  ·cases e:cl x z with
   |true=>exact .inl e
   |false=>have:=h.ntrans _ _ _ e h2;rw[this]at h1;cases h1
 ·rcases h2 with h2|⟨h2,l2⟩
  ·cases e:cl x z with
   |true=>exact .inl e
   |false=>have:=h.ntrans _ _ _ h1 e;rw[this]at h2;cases h2
  ·exact .inr ⟨h.ntrans _ _ _ h2 h1,by omega⟩
theorem lx_asymm {cl:Nat->Nat->Bool} (h:Weak cl) {x y:Nat} (h1:lx cl x y) (h2:lx cl y x):False:=by
 have:=lx_trans h h1 h2
 rcases this with e|⟨_,e⟩
 ·rw[h.irrefl]at e;cases e
 ·omega
theorem lx_yes {cl:Nat->Nat->Bool} {x y:Nat} (e:cl x y=true):lx cl x y:=.inl e
theorem lx_no {cl:Nat->Nat->Bool} {x y:Nat} (e:cl x y=false) (h:y<x):lx cl y x:=.inr ⟨e,h⟩
def Ris (cl:Nat->Nat->Bool) (a b:Nat) (f:Nat->Nat):Prop:=∀ i j,a<=i->i<j->j<b->lx cl (f i) (f j)
theorem Ris.sub {cl:Nat->Nat->Bool} {a b a' b':Nat} {f:Nat->Nat} (h:Ris cl a b f) (ha:a<=a') (hb:b'<=b):Ris cl a' b' f :=
 fun i j h1 h2 h3=>h i j (by omega) h2 (by omega)
theorem Ris.congr {cl:Nat->Nat->Bool} {a b:Nat} {f g:Nat->Nat} (h:Ris cl a b f) (e:∀ i,a<=i->i<b->g i=f i):Ris cl a b g :=
 fun i j h1 h2 h3=>by rw[e i h1 (by omega),e j (by omega) h3];exact h i j h1 h2 h3
theorem Ris.le {cl:Nat->Nat->Bool} {a b:Nat} {f:Nat->Nat} (h:Ris cl a b f) {i j:Nat} (h1:a<=i) (h2:i<=j) (h3:j<b) {x:Nat} (hw:Weak cl) (hx:lx cl (f j) x):lx cl (f i) x:=by
 rcases Nat.lt_or_ge i j with e|e
 ·exact lx_trans hw (h i j h1 e h3) hx
 ·rw[show i=j by omega];exact hx
theorem Ris.ge {cl:Nat->Nat->Bool} {a b:Nat} {f:Nat->Nat} (h:Ris cl a b f) {i j:Nat} (h1:a<=i) (h2:i<=j) (h3:j<b) {x:Nat} (hw:Weak cl) (hx:lx cl x (f i)):lx cl x (f j):=by
 rcases Nat.lt_or_ge i j with e|e
 ·exact lx_trans hw hx (h i j h1 e h3)
 ·rw[<-show i=j by omega];exact hx
theorem Ris.join {cl:Nat->Nat->Bool} {a m b:Nat} {f:Nat->Nat} (h1:Ris cl a m f) (h2:Ris cl m b f) (h:∀ i j,a<=i->i<m->m<=j->j<b->lx cl (f i) (f j)):Ris cl a b f:=by
 intro i j hi hij hj
 rcases Nat.lt_or_ge j m with e|e
 ·exact h1 i j hi hij e
 ·rcases Nat.lt_or_ge i m with e2|e2
  ·exact h i j hi e2 e hj
  ·exact h2 i j e2 hij hj
def Sep (a m b:Nat) (f:Nat->Nat):Prop:=∀ i j,a<=i->i<m->m<=j->j<b->f i<f j
theorem down_ris {cl:Nat->Nat->Bool} (hw:Weak cl) {a m i:Nat} {f:Nat->Nat} (hr:Ris cl a m f) (hai:a<=i) (him:i<=m)
  (hlo:∀ k,a<=k->k<i->lx cl (f k) (f m)) (hhi:∀ k,i<=k->k<m->lx cl (f m) (f k)):Ris cl a (m+1) (rotF i m (m+1) f):=by
 have _:=hw;intro p q h1 h2 h3
 have e:∀ k,a<=k->k<m+1->rotF i m (m+1) f k=if k<i then f k else if k=i then f m else f (k-1):=by
  intro k k1 k2;unfold rotF
  repeat' split
  all_goals first|omega|(congr 1;omega)|rfl
 rw[e p h1 (by omega),e q (by omega) h3]
 repeat' split
 all_goals first|omega|exact hr _ _ (by omega) (by omega) (by omega)|exact hlo _ (by omega) (by omega)|exact hhi _ (by omega) (by omega)
theorem up_ris {cl:Nat->Nat->Bool} (hw:Weak cl) {a b i:Nat} {f:Nat->Nat} (hr:Ris cl (a+1) b f) (hai:a+1<=i) (hib:i<=b)
  (hlo:∀ k,a+1<=k->k<i->lx cl (f k) (f a)) (hhi:∀ k,i<=k->k<b->lx cl (f a) (f k)):Ris cl a b (rotF a (a+1) i f):=by
 have _:=hw;intro p q h1 h2 h3
 have e:∀ k,a<=k->k<b->rotF a (a+1) i f k=if k+1<i then f (k+1) else if k+1=i then f a else f k:=by
  intro k k1 k2;unfold rotF
  repeat' split
  all_goals first|omega|(congr 1;omega)|rfl
 rw[e p h1 (by omega),e q (by omega) h3]
 repeat' split
 all_goals first|omega|exact hr _ _ (by omega) (by omega) (by omega)|exact hlo _ (by omega) (by omega)|exact hhi _ (by omega) (by omega)
end So
namespace So
open Go.RowKit Go.Sort Go.Proofs
theorem hideO {p:Prop} (h:p):Hid p:=h
def dF (d:Array Nat):Nat->Nat:=fun i=>d[i]!
theorem dF_swp (d:Array Nat) (i j:Nat) (hi:i<d.size) (hj:j<d.size):dF (Go.Sort.swp d i j)=So.swp (dF d) i j:=by
 funext k
 unfold dF So.swp;rw[Go.Sort.swp_get d hi hj]
theorem dF_out (d:Array Nat) (i:Nat) (h:d.size<=i):dF d i=0:=by
 unfold dF;rw[getElem!_neg d i (by omega)];rfl
theorem mixed:prog.follows .mixedOrders=true:=by kernel_rfl
def encT (T:Nat->ByteArray) (x:Nat):List Value:=[.int .i64 x,.string (T x)]
theorem encT_len (T:Nat->ByteArray):∀ x,(encT T x).length=2:=fun _=>rfl
theorem cells_T {T:Nat->ByteArray} {w:World} {blk:Nat} {d:Array Nat} (h:HoldsK (encT T) 2 w blk 0 d) {i:Nat} (hi:i<d.size) :
  w.cell? ⟨blk,i*2,none⟩=some (.int .i64 (d[i]!:Nat))/\w.frozen? ⟨blk,i*2,none⟩=false/\w.cell? ⟨blk,i*2+1,none⟩=some (.string (T d[i]!))/\w.frozen? ⟨blk,i*2+1,none⟩=false:=by
 have x0:=h.cell (i:=i) (c:=0) hi (by omega);have x1:=h.cell (i:=i) (c:=1) hi (by omega);rw[Nat.zero_add,Nat.add_zero]at x0;rw[Nat.zero_add]at x1;exact⟨x0.1,x0.2,x1.1,x1.2⟩
def encI (x:Nat):List Value:=[.int .i64 x]
theorem encI_len:∀ x,(encI x).length=1:=fun _=>rfl
section
variable {enc : Nat → List Value} {k : Nat} {w : World} {blk off : Nat} {d : Array Nat}
theorem world_self (h:HoldsK enc k w blk off d):w=sortWorldK enc k w blk off 0 d #[]:=by
 unfold sortWorldK;rw[grow_empty];exact(putRowK_self enc k w blk off d h).symm
theorem world_holds (h:HoldsK enc k w blk off d) (hb:blk<w.heap.size) (m:Nat) (d':Array Nat) (os:Array Obj) (hs:d'.size=d.size):HoldsK enc k (sortWorldK enc k w blk off m d' os) blk off d' :=
 holdsK_sortWorldK_c enc k w blk off d d' m os h hb hs
theorem world_size (m:Nat) (d':Array Nat) (os:Array Obj):w.heap.size<=(sortWorldK enc k w blk off m d' os).heap.size:=size_sortWorldK_c enc k w blk off m d' os
theorem world_world (m n:Nat) (d' d'':Array Nat) (os os':Array Obj) (hb:blk<w.heap.size) (hs:d''.size=d'.size) :
  sortWorldK enc k (sortWorldK enc k w blk off m d' os) blk off n d'' os'=sortWorldK enc k w blk off (m+n) d'' (os++os'):=by
 unfold sortWorldK;exact grow_step_growK enc k w os os' m n blk off d' d'' hb hs
theorem world_block (m:Nat) (d':Array Nat) (os:Array Obj) {j:Nat} (hj:j<w.heap.size) (hne:j≠blk):(sortWorldK enc k w blk off m d' os).heap[j]? = w.heap[j]?:=by
 unfold sortWorldK;rw[heap_grow_old _ _ (by rw[size_putRowK];exact hj)];unfold putRowK putRow mapBlock;simp only[Array.getElem?_modify];rw[if_neg (fun h=>hne h.symm)];rfl
theorem world_below (m:Nat) (d':Array Nat) (os:Array Obj) {B:Nat} (hB:B<=blk) (hw:B<=w.heap.size):Below B w (sortWorldK enc k w blk off m d' os) :=
 ⟨rfl,rfl,rfl,world_size m d' os,fun j hj=>world_block m d' os (by omega) (by omega)⟩
theorem holds_block {w':World} (h:HoldsK enc k w blk off d) (e:w'.heap[blk]? = w.heap[blk]?):HoldsK enc k w' blk off d:=by
 intro j hj
 have:=h j hj
 simp only[World.cell?,World.frozen?]at this ⊢;rw[e];exact this
end
end So
namespace So
open Go.RowKit Go.Sort Go.Proofs
theorem bless_eq:∀ (x y:List UInt8),Op.bytesLess x y=decide (x<y)
 |[],[]=>by simp[Op.bytesLess]
 |_ :: _,[]=>by simp[Op.bytesLess]
 |[],_ :: _=>by simp[Op.bytesLess]
 |a :: x,b :: y=>by
  rw[Op.bytesLess,bless_eq x y];simp only[List.cons_lt_cons_iff];by_cases h1:a<b<;>by_cases h2:a=b<;>simp[h1,h2]
def clT (T:Nat->ByteArray) (x y:Nat):Bool:=Op.bytesLess (T x).toList (T y).toList
theorem clT_weak (T:Nat->ByteArray):Weak (clT T) where
 irrefl x:=by simp[clT,bless_eq,List.lt_irrefl]
 trans x y z h1 h2:=by
  simp only[clT,bless_eq,decide_eq_true_eq]at *;exact List.lt_trans h1 h2
 ntrans x y z h1 h2:=by
  simp only[clT,bless_eq,decide_eq_false_iff_not,List.not_lt]at *;exact List.le_trans h2 h1
def cfT (T:Nat->ByteArray) (x y:Nat):Int:=if Op.bytesLess (T x).toList (T y).toList=true then -1 else if ((T x).toList==(T y).toList)=true then 0 else 1
theorem cfT_neg (T:Nat->ByteArray) (x y:Nat):decide (cfT T x y<0)=clT T x y:=by
 unfold cfT clT
 cases Op.bytesLess (T x).toList (T y).toList with
 |true=>rfl
 |false =>
  cases ((T x).toList==(T y).toList)<;>rfl
theorem nan_S (s:ByteArray) (w:World):Calls prog 232 #[.string s] w fun e w'=>e=.returned (.bool false)/\w'=w:=by
 go_enter func232,ntmps232
 go_wp2_with fail
 go_ret;exact⟨rfl,rfl⟩
theorem compare_S (s t:ByteArray) (w:World):Calls prog 221 #[.string s,.string t] w fun e w'=>e=.returned (.int .i64 (if Op.bytesLess s.toList t.toList=true then -1 else if (s.toList==t.toList)=true then 0 else 1))/\w'=w:=by
 cases h1:Op.bytesLess s.toList t.toList with
 |true =>
  rw[if_pos rfl];go_enter func221,ntmps221
  go_wp2_with fail
  refine(nan_S s w).mono ?_;rintro e w' ⟨rfl,hw⟩;subst w'
  go_wp2_with fail
  refine(nan_S t w).mono ?_;rintro e w' ⟨rfl,hw⟩;subst w'
  go_wp2_with fail
  go_ret;exact⟨rfl,rfl⟩
 |false =>
  rw[if_neg Bool.false_ne_true]
  cases h2:(s.toList==t.toList) with
  |true =>
   rw[if_pos rfl]
   have h3:(!(Op.bytesLess s.toList t.toList || s.toList==t.toList))=false:=by rw[h1,h2];rfl
   go_enter func221,ntmps221
   go_wp2_with fail
   refine(nan_S s w).mono ?_;rintro e w' ⟨rfl,hw⟩;subst w'
   go_wp2_with fail
   refine(nan_S t w).mono ?_;rintro e w' ⟨rfl,hw⟩;subst w'
   go_wp2_with fail
   go_ret;exact⟨rfl,rfl⟩
  |false =>
   rw[if_neg Bool.false_ne_true]
   have h3:(!(Op.bytesLess s.toList t.toList || s.toList==t.toList))=true:=by rw[h1,h2];rfl
   go_enter func221,ntmps221
   go_wp2_with fail
   refine(nan_S s w).mono ?_;rintro e w' ⟨rfl,hw⟩;subst w'
   go_wp2_with fail
   refine(nan_S t w).mono ?_;rintro e w' ⟨rfl,hw⟩;subst w'
   go_wp2_with fail
   go_ret;exact⟨rfl,rfl⟩
theorem alloc2_grow (w:World) (o p:Obj):(w.alloc o).alloc p=grow (w.drewN 0) #[o,p]:=by
 have e:(w.heap.push o).push p=w.heap++#[o,p]:=by
  apply Array.ext'
  simp
 unfold World.alloc grow World.drewN
 simp only
 rw[e];rfl
theorem cmp_T (T:Nat->ByteArray) (x y:Nat) (w:World):Calls prog 194 #[.agg (encT T x).toArray,.agg (encT T y).toArray] w fun e w'=>e=.returned (.int .i64 (cfT T x y))/\∃ q os',w'=grow (w.drewN q) os':=by
 have HC:=hideO (fun W=>compare_S (T x) (T y) W);unfold cfT;generalize (if Op.bytesLess (T x).toList (T y).toList=true then (-1:Int) else if ((T x).toList==(T y).toList)=true then 0 else 1)=r at HC ⊢;unfold encT;go_enter func194,ntmps194
 go_wp2_with fail
 refine(HC.o _).mono ?_;rintro e w' ⟨rfl,hw⟩;subst w'
 go_wp2_with fail
 go_ret;exact⟨rfl,0,_,alloc2_grow _ _ _⟩
end So
namespace Cr
def step (x:Nat):Nat:=if x%2=1 then (x/2) ^^^ 3988292384 else x/2
def stepN:Nat->Nat->Nat
 |0,x=>x
 |k+1,x=>step (stepN k x)
def crc8 (r c:Nat):Nat:=stepN 8 (r ^^^ c)
def crcL (r:Nat) (l:List UInt8):Nat:=l.foldl (fun r b=>crc8 r b.toNat) r
def fin (r:Nat):Nat:=r ^^^ 4294967295
theorem xor_lt {a b:Nat} (ha:a<4294967296) (hb:b<4294967296):a ^^^ b<4294967296 :=
 Nat.xor_lt_two_pow (n:=32) ha hb
theorem step_lt {x:Nat} (h:x<4294967296):step x<4294967296:=by
 unfold step
 split
 ·exact xor_lt (by omega) (by decide)
 ·omega
theorem stepN_lt {x:Nat} (h:x<4294967296) (k:Nat):stepN k x<4294967296:=by
 induction k with
 |zero=>exact h
 |succ k ih=>exact step_lt ih
theorem crc8_lt {r c:Nat} (h:r<4294967296) (hc:c<256):crc8 r c<4294967296 :=
 stepN_lt (xor_lt h (by omega)) 8
theorem crcL_lt (l:List UInt8):∀ r,r<4294967296->crcL r l<4294967296:=by
 induction l with
 |nil=>intro r h;exact h
 |cons b l ih=>intro r h;exact ih _ (crc8_lt h b.toNat_lt)
theorem crcL_snoc (r:Nat) (l:List UInt8) (b:UInt8):crcL r (l++[b])=crc8 (crcL r l) b.toNat:=by
 simp[crcL,List.foldl_append]
theorem take_snoc (s:ByteArray) (k:Nat) (h:k<s.size):s.data.toList.take (k+1)=s.data.toList.take k++[s[k]]:=by
 rw[List.take_succ_eq_append_getElem (by simpa using h)];rfl
theorem crcL_take (r:Nat) (s:ByteArray) (k:Nat) (h:k<s.size):crcL r (s.data.toList.take (k+1))=crc8 (crcL r (s.data.toList.take k)) (s[k]).toNat:=by
 rw[take_snoc s k h,crcL_snoc]
theorem fin_lt {r:Nat} (h:r<4294967296):fin r<4294967296:=xor_lt h (by decide)
def implS (x c k:Nat):Nat:=if (x ^^^ c/2 ^ k)%2=1 then (x/2) ^^^ 3988292384 else x/2
theorem inv_step (x c k:Nat):implS x c k ^^^ (c/2 ^ (k+1))=step (x ^^^ c/2 ^ k):=by
 have e:c/2 ^ (k+1)=(c/2 ^ k)/2:=by rw[Nat.pow_succ,Nat.div_div_eq_div_mul]
 unfold implS step;rw[e,Nat.xor_div_two]
 split
 ·rw[Nat.xor_assoc,Nat.xor_assoc,Nat.xor_comm 3988292384]
 ·rfl
theorem implS_lt {x:Nat} (c k:Nat) (h:x<4294967296):implS x c k<4294967296:=by
 unfold implS
 split
 ·exact xor_lt (by omega) (by decide)
 ·omega
theorem nat_pow_cast (c k:Nat):((c:Int)/2 ^ k)=((c/2 ^ k:Nat):Int):=by
 rw[Int.natCast_ediv,Int.natCast_pow];rfl
theorem turned_eq (x c k:Nat) (hx:x<4294967296) (hc:c<256) :
  bits BinOp.and IntKind.u32 (bits BinOp.xor IntKind.u32 (x:Int) ((c:Int)/2 ^ k%4294967296)) 1=(((x ^^^ c/2 ^ k)%2:Nat):Int):=by
 have h1:c/2 ^ k<4294967296:=Nat.lt_of_le_of_lt (Nat.div_le_self _ _) (by omega)
 have e:((c:Int)/2 ^ k%4294967296)=((c/2 ^ k:Nat):Int):=by
  rw[nat_pow_cast];generalize c/2 ^ k=q at h1 ⊢;omega
 rw[e,u32_xor_nat _ _ hx h1]
 have:=u32_and_nat (x ^^^ c/2 ^ k) 1 (xor_lt hx h1) (by decide)
 rw[nat_mask1]at this;exact this
theorem half_xor (x:Nat) (hx:x<4294967296):bits BinOp.xor IntKind.u32 ((x:Int)/2) 3988292384=(((x/2) ^^^ 3988292384:Nat):Int):=by
 have e:((x:Int)/2)=((x/2:Nat):Int):=by omega
 rw[e];exact u32_xor_nat (x/2) 3988292384 (by omega) (by decide)
theorem low_eq (x:Nat) (hx:x<4294967296):bits BinOp.and IntKind.u32 (x:Int) 1=((x%2:Nat):Int):=by
 have:=u32_and_nat x 1 hx (by decide)
 rw[nat_mask1]at this;exact this
theorem not_eq (x:Nat) (hx:x<4294967296):bits BinOp.xor IntKind.u32 (x:Int) 4294967295=((fin x:Nat):Int) :=
 u32_xor_nat x 4294967295 hx (by decide)
theorem not_eq' (x:Nat) (hx:x<4294967296):bits BinOp.xor IntKind.u32 IntKind.u32.max (x:Int)=((fin x:Nat):Int):=by
 rw[fin,Nat.xor_comm,show IntKind.u32.max=((4294967295:Nat):Int) from rfl];exact u32_xor_nat 4294967295 x (by decide) hx
end Cr
end Go.Proofs.YtaejgfdkfcmjeaaGreatDoor
