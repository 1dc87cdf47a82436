/- Texts put together: ShaPlain, ShaTurn, ShaPlain2, ShaVar, ShaPlain3, ShaIdx, GetPlain, GetV, GotoLaw, CrcPlain, ShaStill, NumMath. -/
import Derived.Laws.BitsAllLaws
import Derived.Test.YtpddanmnlkcdpaaGreatDoorChecked
import Derived.WalkKit
import Derived.WalkSpells
import Derived.WalkLawsBesides
import Derived.Test.YtpddanmnlkcdpaaGreatDoorHz2
import Derived.Test.YtpddanmnlkcdpaaGreatDoorProg
import Derived.Scope
import Derived.WalkMore
import Derived.StillTailTactics
import Derived.Test.YtpddanmnlkcdpaaGreatDoorHz5
set_option maxRecDepth 100000
set_option maxHeartbeats 8000000
/- Plain mathematics of SHA-256, in the spellings of the model's own operations on numbers of 32 bits: turns, the spread of a chunk, the rounds. -/
namespace Go.Proofs.YtpddanmnlkcdpaaGreatDoor.Sh
def rot (x:Int) (k:Nat):Int:=bits BinOp.or IntKind.u32 (x/2 ^ k) (x*2 ^ (32-k)%4294967296)
def rotI (x K:Int):Int:=rot x K.toNat
theorem or_comm32 (a b:Int):bits BinOp.or IntKind.u32 a b=bits BinOp.or IntKind.u32 b a:=by
 show IntKind.u32.wrap ((BitVec.ofInt 32 a ||| BitVec.ofInt 32 b).toNat:Int)=IntKind.u32.wrap ((BitVec.ofInt 32 b ||| BitVec.ofInt 32 a).toNat:Int)
 rw[BitVec.or_comm]
theorem neg_mask (k m:Nat) (hk:0<k) (hm:0<m) (h:k+m=32):bits BinOp.and IntKind.u64 (IntKind.u64.wrap (-(k:Int))) 31=(m:Int):=by
 have e:IntKind.u64.wrap (-(k:Int))=((18446744073709551616-k:Nat):Int):=by
  simp[IntKind.wrap,IntKind.bits,IntKind.signed]
  omega
 rw[e]
 have:=u64_and_nat (18446744073709551616-k) 31 (by omega) (by decide)
 rw[nat_mask5]at this
 refine Eq.trans this ?_
 omega
end Go.Proofs.YtpddanmnlkcdpaaGreatDoor.Sh


/- The walks of the functions that turn a number of 32 bits. -/
namespace Go.Proofs.YtpddanmnlkcdpaaGreatDoor.Sh
open Go.RowKit
theorem ret_int {k:IntKind} {a b:Int} (h:a=b):Ending.returned (.int k a)=.returned (.int k b):=by rw[h]
theorem turn_spec (x:Int) (k:Nat) (w:World) (hk:0<k) (hk2:k<32) :
  Calls Tryz.prog 207 #[.int .u32 x,.int .u64 k] w fun e w'=>e=.returned (.int .u32 (rot x k))/\w'=w:=by
 go_enter Tryz.func207,Tryz.ntmps207
 go_wp2
 go_ret
 exact⟨rfl,rfl⟩
theorem turn_bits (x:Int) (k m:Nat) (w:World) (hk:0<k) (hm:0<m) (h:k+m=32) :
  Calls Tryz.prog 243 #[.int .u32 x,.int .i64 (-k)] w fun e w'=>e=.returned (.int .u32 (rot x k))/\w'=w:=by
 have HR:Hid (bits BinOp.or IntKind.u32 (x*2 ^ m%4294967296) (x/2 ^ k)=rot x k):=by
  unfold Hid rot
  rw[or_comm32]
  obtain rfl:m=32-k:=by omega
  rfl
 have he:=neg_mask k m hk hm h
 have hs:32-(m:Int)=(k:Int):=by omega
 go_enter Tryz.func243,Tryz.ntmps243
 go_wp2
 go_ret
 exact⟨ret_int HR.out,rfl⟩
theorem turn_impl (x:Int) (k:Nat) (w:World) (hk:0<k) (h:k<32) :
  Calls Tryz.prog 241 #[.int .u32 x,.int .i64 k] w fun e w'=>e=.returned (.int .u32 (rot x k))/\w'=w:=by
 go_enter Tryz.func241,Tryz.ntmps241
 go_wp2_with fail
 refine(turn_bits x k (32-k) _ hk (by omega) (by omega)).mono ?_
 rintro e w' ⟨rfl,hw⟩
 subst w'
 go_wp2
 go_ret
 exact⟨rfl,rfl⟩
theorem turnI_impl (x K:Int) (w:World) (h0:0<K) (h1:K<32) :
  Calls Tryz.prog 241 #[.int .u32 x,.int .i64 K] w fun e w'=>e=.returned (.int .u32 (rotI x K))/\w'=w:=by
 obtain⟨k,rfl⟩:=Int.eq_ofNat_of_zero_le (show 0<=K from by omega)
 exact turn_impl x k w (by omega) (by omega)
theorem turnI_spec (x K:Int) (w:World) (h0:0<K) (h1:K<32) :
  Calls Tryz.prog 207 #[.int .u32 x,.int .u64 K] w fun e w'=>e=.returned (.int .u32 (rotI x K))/\w'=w:=by
 obtain⟨k,rfl⟩:=Int.eq_ofNat_of_zero_le (show 0<=K from by omega)
 exact turn_spec x k w (by omega) (by omega)
end Go.Proofs.YtpddanmnlkcdpaaGreatDoor.Sh


/- Plain mathematics of SHA-256: the numbers of a chunk, their spread over the rounds. -/
namespace Go.Proofs.YtpddanmnlkcdpaaGreatDoor.Sh
def part (B:Nat->Nat) (i:Nat):Nat->Nat
 |0=>0
 |j+1=>part B i j*256+B (4*i+j)
def word (B:Nat->Nat) (i:Nat):Nat:=part B i 4
theorem part_lt (B:Nat->Nat) (hB:∀ j,B j<256) (i:Nat):∀ j,part B i j<256 ^ j
 |0=>by simp[part]
 |j+1=>by
  have h:=part_lt B hB i j
  have h2:=hB (4*i+j)
  simp only[part,Nat.pow_succ]
  omega
theorem part_lt24 (B:Nat->Nat) (hB:∀ j,B j<256) (i j:Nat) (hj:j<4):part B i j<16777216:=by
 have h:=part_lt B hB i j
 have:(256:Nat) ^ j<=256 ^ 3:=Nat.pow_le_pow_right (by decide) (by omega)
 omega
theorem or_step (x b:Nat) (hx:x<16777216) (hb:b<256):bits BinOp.or IntKind.u32 ((x:Int)*256) (b:Int)=((x*256+b:Nat):Int):=by
 have:=u32_or_nat (x*256) b (by omega) (by omega)
 rw[nat_join 8 (x*256) b (by omega) (by omega)]at this
 rw[<-this]
 simp
def sm0 (x:Int):Int:=bits BinOp.xor IntKind.u32 (bits BinOp.xor IntKind.u32 (rotI x 7) (rotI x 18)) (x/8)
def sm1 (x:Int):Int:=bits BinOp.xor IntKind.u32 (bits BinOp.xor IntKind.u32 (rotI x 17) (rotI x 19)) (x/1024)
def wv (B:Nat->Nat) (i:Nat):Int :=
 if i<16 then (word B i:Nat)
 else (wv B (i-16)+sm0 (wv B (i-15))+wv B (i-7)+sm1 (wv B (i-2)))%4294967296
termination_by i
decreasing_by all_goals omega
theorem wv_lo (B:Nat->Nat) (i:Nat) (h:i<16):wv B i=(word B i:Nat):=by rw[wv,if_pos h]
theorem wv_hi (B:Nat->Nat) (i:Nat) (h:¬i<16):wv B i=(wv B (i-16)+sm0 (wv B (i-15))+wv B (i-7)+sm1 (wv B (i-2)))%4294967296:=by rw[wv,if_neg h]
end Go.Proofs.YtpddanmnlkcdpaaGreatDoor.Sh


/- A package variable that holds a row of numbers: its block bears whatever mark. -/
namespace Go.Proofs.YtpddanmnlkcdpaaGreatDoor.Sh
open Go.RowKit
def IsV (w:World) (g:Nat) (k:IntKind) (n:Nat) (f:Nat->Int):Prop:=∃ t fr,w.heap[g]? = some (.cells (rowF k n f) t fr)
theorem IsV.cell {w:World} {g:Nat} {k:IntKind} {n:Nat} {f:Nat->Int} (h:IsV w g k n f) {j:Nat} (hj:j<n):w.cell? ⟨g,j,none⟩=some (.int k (f j)):=by
 obtain⟨t,fr,h⟩:=h
 rw[cell_of_row w g j _ t fr h,rowF_get k n f j hj]
theorem IsV.lt {w:World} {g:Nat} {k:IntKind} {n:Nat} {f:Nat->Int} (h:IsV w g k n f):g<w.heap.size:=by
 obtain⟨t,fr,h⟩:=h
 exact(Array.getElem?_eq_some_iff.1 h).1
theorem IsV.of_heap {w w':World} {g:Nat} {k:IntKind} {n:Nat} {f:Nat->Int} (h:IsV w g k n f) (e:w'.heap[g]? = w.heap[g]?):IsV w' g k n f:=by
 obtain⟨t,fr,h⟩:=h
 exact⟨t,fr,by rw[e];exact h⟩
theorem IsV.below {w w':World} {g B:Nat} {k:IntKind} {n:Nat} {f:Nat->Int} (h:IsV w g k n f) (b:Below B w w') (hg:g<B):IsV w' g k n f:=h.of_heap (b.block g hg)
theorem wpList_load_var {P:Program} {w:World} {ops:Array Oper} {rest:List Oper} {a:Act} {Q:Exit->Act->World->Prop} {d:Tmp} {p:Operand} {ty tt:TypeId} {pos:String} {af:Array Edge}
  {g:Nat} {k:IntKind} {n:Nat} {f:Nat->Int} {e:TypeId} (hb:IsV w g k n f) (hu:P.underlying ty=some (.array n e)) (hi:(P.info? ty).map (·.size)=some n)
  (hp:a.eval p=.pointer (some ⟨g,0,none⟩)) (h:wpList P ops Q rest (a.put (some d) (.agg (rowF k n f))) w) :
  wpList P ops Q (⟨some d,.load ty p,tt,pos,af,none⟩ :: rest) a w:=by
 refine wpList_plain rfl fun K hK=>?_
 obtain⟨t,fr,hb⟩:=hb
 have hl:(Instr.loadAt ty (.pointer (some ⟨g,0,none⟩))).run P w=.ok (.agg (rowF k n f)) w:=by
  simp only[Instr.loadAt,Instr.sureAddr,Sem.run_bind,Sem.run_pure,Result.andThen]
  exact run_loadVar_row w g t ty _ fr _ hb hu rfl (by rw[rowF_size];exact hi)
 unfold Oper.wp
 simp[execOp,hp,hl,Result.andThen]
 exact hK _ _ h
end Go.Proofs.YtpddanmnlkcdpaaGreatDoor.Sh


/- Plain mathematics of SHA-256: the numbers of the rounds, a round, a block taken into a state. -/
namespace Go.Proofs.YtpddanmnlkcdpaaGreatDoor.Sh
def keyL:List Int:=[1116352408,1899447441,3049323471,3921009573,961987163,1508970993,2453635748,2870763221,3624381080,310598401,607225278,1426881987,1925078388,2162078206,2614888103,3248222580,3835390401,4022224774,264347078,604807628,770255983,1249150122,1555081692,1996064986,2554220882,2821834349,2952996808,3210313671,3336571891,3584528711,113926993,338241895,666307205,773529912,1294757372,1396182291,1695183700,1986661051,2177026350,2456956037,2730485921,2820302411,3259730800,3345764771,3516065817,3600352804,4094571909,275423344,430227734,506948616,659060556,883997877,958139571,1322822218,1537002063,1747873779,1955562222,2024104815,2227730452,2361852424,2428436474,2756734187,3204031479,3329325298]
def keyF (j:Nat):Int:=keyL.getD j 0
def firstL:List Int:=[1779033703,3144134277,1013904242,2773480762,1359893119,2600822924,528734635,1541459225]
def firstF (j:Nat):Int:=firstL.getD j 0
structure St where
 a:Int
 b:Int
 c:Int
 d:Int
 e:Int
 f:Int
 g:Int
 h:Int
def bx (x y:Int):Int:=bits BinOp.xor IntKind.u32 x y
def ba (x y:Int):Int:=bits BinOp.and IntKind.u32 x y
def big1 (e:Int):Int:=bx (bx (rotI e 6) (rotI e 11)) (rotI e 25)
def big0 (a:Int):Int:=bx (bx (rotI a 2) (rotI a 13)) (rotI a 22)
def pick (e f g:Int):Int:=bx (ba e f) (ba (bx IntKind.u32.max e) g)
def most (a b c:Int):Int:=bx (bx (ba a b) (ba a c)) (ba b c)
def t1 (s:St) (K W:Int):Int:=s.h+big1 s.e+pick s.e s.f s.g+K+W
def t2 (s:St):Int:=big0 s.a+most s.a s.b s.c
def stepS (s:St) (K W:Int):St:=⟨(t1 s K W+t2 s)%4294967296,s.a,s.b,s.c,(s.d+t1 s K W)%4294967296,s.e,s.f,s.g⟩
def start (s:Nat->Int):St:=⟨s 0,s 1,s 2,s 3,s 4,s 5,s 6,s 7⟩
def run (B:Nat->Nat) (s:Nat->Int):Nat->St
 |0=>start s
 |k+1=>stepS (run B s k) (keyF k) (wv B k)
def St.at (x:St) (j:Nat):Int:=[x.a,x.b,x.c,x.d,x.e,x.f,x.g,x.h].getD j 0
def blk (B:Nat->Nat) (s:Nat->Int) (j:Nat):Int:=(s j+(run B s 64).at j)%4294967296
def addF (x:St) (s:Nat->Int) (j:Nat):Nat->Int:=fun i=>if i<j then (s i+x.at i)%4294967296 else s i
theorem addF_zero (x:St) (s:Nat->Int) (i:Nat):s i=addF x s 0 i:=by simp[addF]
theorem addF_at (x:St) (s:Nat->Int) (j:Nat):addF x s j j=s j:=by simp[addF]
theorem addF_next (x:St) (s:Nat->Int) (j i:Nat) (upd':Nat->Int) (h1:upd' j=(s j+x.at j)%4294967296) (h2:∀ i,i≠j->upd' i=addF x s j i):upd' i=addF x s (j+1) i:=by
 by_cases e:i=j
 ·subst e;rw[h1];simp[addF]
 ·rw[h2 i e]
  have:(i<j+1)=(i<j):=propext ⟨fun h=>by omega,fun h=>by omega⟩
  simp[addF,this]
theorem addF_end (B:Nat->Nat) (s:Nat->Int) (x:St) (hx:x=run B s 64) (i:Nat) (hi:i<8):addF x s 8 i=blk B s i:=by
 simp[addF,blk,hi,hx]
theorem step_walk (xa xb xc xd xe xf xg xh kk wk:Int) :
  (⟨((xh+big1 xe+pick xe xf xg+kk+wk)%4294967296+(big0 xa+most xa xb xc)%4294967296)%4294967296,xa,xb,xc,(xd+(xh+big1 xe+pick xe xf xg+kk+wk)%4294967296)%4294967296,xe,xf,xg⟩:St)
   = stepS ⟨xa,xb,xc,xd,xe,xf,xg,xh⟩ kk wk:=by
 simp[stepS,t1,t2]
end Go.Proofs.YtpddanmnlkcdpaaGreatDoor.Sh


namespace Go.Proofs.YtpddanmnlkcdpaaGreatDoor.Sh
open Go.RowKit
theorem idx8 (xa xb xc xd xe xf xg xh:Int) (j:Nat) (hj:j<8) (u:World) :
  (Instr.index 293 (.agg #[.int .u32 xa,.int .u32 xb,.int .u32 xc,.int .u32 xd,.int .u32 xe,.int .u32 xf,.int .u32 xg,.int .u32 xh]) (.int .i64 (j:Int))).run Tryz.prog u
   = .ok (.int .u32 ((⟨xa,xb,xc,xd,xe,xf,xg,xh⟩:St).at j)) u:=by
 have hs:∀ u:World,(Go.sizeOf 199).run Tryz.prog u=.ok 1 u:=fun u=>by kernel_rfl
 have:j=0∨j=1∨j=2∨j=3∨j=4∨j=5∨j=6∨j=7:=by omega
 rcases this with rfl|rfl|rfl|rfl|rfl|rfl|rfl|rfl <;>
 simp[Instr.index,asIntOf,underlying,Tryz.underlying293,Tryz.underlying199,Result.andThen,hs,St.at,Go.part,isAgg]
end Go.Proofs.YtpddanmnlkcdpaaGreatDoor.Sh


/- Plain mathematics of reading a number: what stands at a place of a text, byte by byte. -/
namespace Go.Proofs.YtpddanmnlkcdpaaGreatDoor.Gn
def byteN (s:ByteArray) (p:Nat):Nat:=(s.data.toList.getD p 0).toNat
theorem byteN_eq (s:ByteArray) (p:Nat) (h:p<s.size):s[p].toNat=byteN s p:=by
 have h':p<s.data.toList.length:=by simpa using h
 unfold byteN
 rw[List.getD_eq_getElem?_getD,List.getElem?_eq_getElem h']
 rfl
def run (s:ByteArray):Nat->Nat->Nat->Nat->Nat × Nat × Int
 |0,_,_,_=>(0,0,3)
 |f+1,k,p,u =>
  if s.size<=p then (0,0,4)
  else if k=9/\1<byteN s p then (0,0,3)
  else if byteN s p<128 then (if byteN s p=0/\0<k then (0,0,3) else (u+byteN s p%128*2 ^ (7*k),p+1,0))
  else run s f (k+1) (p+1) (u+byteN s p%128*2 ^ (7*k))
def numR (s:ByteArray) (a:Nat):Nat × Nat × Int:=run s 10 0 a 0
theorem run_end (s:ByteArray) (f k p u:Nat) (h:s.size<=p):run s (f+1) k p u=(0,0,4):=by
 rw[run,if_pos h]
theorem run_nine (s:ByteArray) (f k p u:Nat) (h:p<s.size) (hk:k=9) (hc:1<s[p].toNat):run s (f+1) k p u=(0,0,3):=by
 rw[byteN_eq s p h]at hc
 rw[run,if_neg (by omega),if_pos ⟨hk,hc⟩]
theorem run_zero (s:ByteArray) (f k p u:Nat) (h:p<s.size) (hc:s[p].toNat=0) (hk:0<k):run s (f+1) k p u=(0,0,3):=by
 rw[byteN_eq s p h]at hc
 rw[run,if_neg (by omega),if_neg (by omega),if_pos (by omega),if_pos ⟨hc,hk⟩]
theorem run_last (s:ByteArray) (f k p u:Nat) (h:p<s.size) (h9:¬(k=9/\1<s[p].toNat)) (hc:s[p].toNat<128) (hz:¬(s[p].toNat=0/\0<k)) :
  run s (f+1) k p u=(u+s[p].toNat%128*2 ^ (7*k),p+1,0):=by
 rw[byteN_eq s p h]at hc hz h9 ⊢
 rw[run,if_neg (by omega),if_neg h9,if_pos hc,if_neg hz]
theorem run_more (s:ByteArray) (f k p u:Nat) (h:p<s.size) (hk:k≠9) (hc:128<=s[p].toNat) :
  run s (f+1) k p u=run s f (k+1) (p+1) (u+s[p].toNat%128*2 ^ (7*k)):=by
 rw[byteN_eq s p h]at hc ⊢
 rw[run,if_neg (by omega),if_neg (by omega),if_neg (by omega)]
theorem pow_le (k:Nat) (hk:k<=9):2 ^ (7*k)<=9223372036854775808:=by
 have:2 ^ (7*k)<=2 ^ 63:=Nat.pow_le_pow_right (by decide) (by omega)
 exact this
theorem pow_next (k:Nat):2 ^ (7*(k+1))=128*2 ^ (7*k):=by
 rw[show 7*(k+1)=7+7*k by omega,Nat.pow_add]
theorem part_lt (c k:Nat):c%128*2 ^ (7*k)<=127*2 ^ (7*k):=Nat.mul_le_mul_right _ (by omega)
theorem next_lt (u c k:Nat) (hu:u<2 ^ (7*k)):u+c%128*2 ^ (7*k)<2 ^ (7*(k+1)):=by
 rw[pow_next]
 have:=part_lt c k
 omega
theorem next_small (u c k:Nat) (hu:u<2 ^ (7*k)) (hk:k<=9) (h9:¬(k=9/\1<c)):c%128*2 ^ (7*k)<=9223372036854775808/\u+c%128*2 ^ (7*k)<=18446744073709551615:=by
 have hp:=pow_le k hk
 by_cases e:k=9
 ·have hc:c%128<=1:=by omega
  have:=Nat.mul_le_mul_right (2 ^ (7*k)) hc
  omega
 ·have hn:=next_lt u c k hu
  have:=pow_le (k+1) (by omega)
  omega
theorem or_add (u c k:Nat) (hu:u<2 ^ (7*k)):u ||| (c%128*2 ^ (7*k))=u+c%128*2 ^ (7*k):=by
 rw[Nat.or_comm,nat_join (7*k) (c%128*2 ^ (7*k)) u (Nat.mul_mod_left _ _) hu,Nat.add_comm]
def unz (u:Nat):Int:=if u%2=1 then -((u/2:Nat):Int)-1 else ((u/2:Nat):Int)
theorem wrap_part (c k:Nat) (h:c%128*2 ^ (7*k)<=9223372036854775808):IntKind.u64.wrap ((c:Int)%128*2 ^ (7*k))=((c%128*2 ^ (7*k):Nat):Int):=by
 have e:((c:Int)%128*2 ^ (7*k))=((c%128*2 ^ (7*k):Nat):Int):=by
  rw[Int.natCast_mul,Int.natCast_emod,Int.natCast_pow];rfl
 rw[e,IntKind.wrap_u64]
 omega
theorem wrap_next (v c k:Nat) (h1:c%128*2 ^ (7*k)<=9223372036854775808) (h2:v+c%128*2 ^ (7*k)<=18446744073709551615) :
  IntKind.u64.wrap ((v:Int)+IntKind.u64.wrap ((c:Int)%128*2 ^ (7*k)))=((v+c%128*2 ^ (7*k):Nat):Int):=by
 rw[wrap_part c k h1,IntKind.wrap_u64]
 omega
theorem unz_odd (x:Nat) (h:x%2=1):unz x = -((x/2:Nat):Int)-1:=by unfold unz;rw[if_pos h]
theorem unz_even (x:Nat) (h:¬x%2=1):unz x=((x/2:Nat):Int):=by unfold unz;rw[if_neg h]
theorem and_low (c:Nat) (h:c<256):bits BinOp.and IntKind.u8 (c:Int) 127=((c%128:Nat):Int):=by
 have:=u8_and_nat c 127 h (by decide)
 rw[nat_mask7]at this
 exact this
theorem shl_part (y k:Nat) (h:y*2 ^ (7*k)<=9223372036854775808):IntKind.u64.wrap ((y:Int)*2 ^ (7*k))=((y*2 ^ (7*k):Nat):Int):=by
 have e:((y:Int)*2 ^ (7*k))=((y*2 ^ (7*k):Nat):Int):=by
  rw[Int.natCast_mul,Int.natCast_pow];rfl
 rw[e,IntKind.wrap_u64]
 omega
theorem or_part (v c k:Nat) (hv:v<2 ^ (7*k)) (h1:c%128*2 ^ (7*k)<=9223372036854775808) (h2:v<=9223372036854775807) :
  bits BinOp.or IntKind.u64 (v:Int) ((c%128*2 ^ (7*k):Nat):Int)=((v+c%128*2 ^ (7*k):Nat):Int):=by
 rw[u64_or_nat v _ (by omega) (by omega),or_add v c k hv]
theorem unz_odd' (x:Nat) (h:x%2=1):-((x:Int)/2)-1=unz x:=by rw[unz_odd x h];omega
theorem unz_even' (x:Nat) (h:¬x%2=1):(x:Int)/2=unz x:=by rw[unz_even x h];omega
end Go.Proofs.YtpddanmnlkcdpaaGreatDoor.Gn


/- What GetNum answers, said of its text and place. -/
namespace Go.Proofs.YtpddanmnlkcdpaaGreatDoor.Gn
open Go.RowKit
theorem hide {p:Prop} (h:p):Hid p:=h
def outN (n at_ code:Int):Value:=.agg #[.int .i64 n,.int .i64 at_,.int .i64 code]
def resV (r:Nat × Nat × Int):Value:=if r.2.2=0 then outN (unz r.1) r.2.1 0 else outN 0 0 r.2.2
def getV (s:ByteArray) (a:Int):Value:=if 8000<s.size then outN 0 0 2 else if a<0 then outN 0 0 1 else resV (numR s a.toNat)
end Go.Proofs.YtpddanmnlkcdpaaGreatDoor.Gn


/- A law on a scope with three labels: the run comes back to the first one, each time with less to do, and goes on from it to the second or the third, and from the second to the third alone. -/
namespace Go.Proofs.YtpddanmnlkcdpaaGreatDoor.Jump
open Go
def toLabel (J:Nat->Act->World->Prop) (Q:Exit->Act->World->Prop):Exit->Act->World->Prop
 |.goto l,a,w=>J l a w
 |e,a,w=>Q e a w
theorem toLabel_ret {J:Nat->Act->World->Prop} {Q:Exit->Act->World->Prop}:toLabel J Q Exit.ret=Q Exit.ret:=rfl
theorem wp_scope_labels {P:Program} {c:Code} {a:Act} {w:World} {Q:Exit->Act->World->Prop} (J:Nat->Act->World->Prop) (μ:Nat->Act->World->Nat)
  (first:c.wp P (toLabel J Q) a w)
  (pass:∀ l a w,J l a w->∃ r,findLabel c l=some r/\r.wp P (toLabel (fun l' a' w'=>J l' a' w'/\μ l' a' w' < μ l a w) Q) a w):(Code.scope c).wp P Q a w:=by
 intro b k cs
 have key:∀ n l a w,μ l a w=n->J l a w->∃ r,findLabel c l=some r/\∃ e a' w',Q e a' w'/\Arrives P (lone (b.at a (.code r :: .inScope c :: k)) cs w) b k cs e a' w':=by
  intro n
  induction n using Nat.strongRecOn with
  |_ n ih =>
   intro l a w hn hJ
   obtain⟨r,hf,hp⟩:=pass l a w hJ
   refine⟨r,hf,?_⟩
   obtain⟨e,a₁,w₁,hq,harr⟩:=hp b (.inScope c :: k) cs
   cases e with
   |normal=>exact⟨.normal,a₁,w₁,hq,Steps.trans harr (.one step_inScope)⟩
   |exit id=>exact⟨.exit id,a₁,w₁,hq,fun k' hk=>harr k' (by simp[exitTo,hk])⟩
   |goto l' =>
    obtain⟨hJ',hlt⟩:=hq
    obtain⟨r',hf',e₂,a₂,w₂,hq₂,harr₂⟩:=ih _ (by omega) l' a₁ w₁ rfl hJ'
    have hg:gotoIn l' (.inScope c :: k)=some (.code r' :: .inScope c :: k):=by simp[gotoIn,hf']
    exact⟨e₂,a₂,w₂,hq₂,.of_steps (harr _ hg) harr₂⟩
   |ret=>exact⟨_,a₁,w₁,hq,harr⟩
   |panic ch=>exact⟨_,a₁,w₁,hq,harr⟩
   |outgrown=>exact⟨_,a₁,w₁,hq,harr⟩
 obtain⟨e,a₁,w₁,hq,harr⟩:=first b (.inScope c :: k) cs
 cases e with
 |normal=>exact⟨.normal,a₁,w₁,hq,.head step_scope (Steps.trans harr (.one step_inScope))⟩
 |exit id=>exact⟨.exit id,a₁,w₁,hq,fun k' hk=>.head step_scope (harr k' (by simp[exitTo,hk]))⟩
 |goto l' =>
  obtain⟨r',hf',e₂,a₂,w₂,hq₂,harr₂⟩:=key _ l' a₁ w₁ rfl hq
  have hg:gotoIn l' (.inScope c :: k)=some (.code r' :: .inScope c :: k):=by simp[gotoIn,hf']
  exact⟨e₂,a₂,w₂,hq₂,.of_steps (.head step_scope (harr _ hg)) harr₂⟩
 |ret=>exact⟨_,a₁,w₁,hq,.of_steps (.one step_scope) harr⟩
 |panic ch=>exact⟨_,a₁,w₁,hq,.of_steps (.one step_scope) harr⟩
 |outgrown=>exact⟨_,a₁,w₁,hq,.of_steps (.one step_scope) harr⟩
end Go.Proofs.YtpddanmnlkcdpaaGreatDoor.Jump


/- Plain mathematics of the CRC: one bit's step of the register, one byte's, a text's; and how the model's operations on 32 bits say the same. -/
namespace Go.Proofs.YtpddanmnlkcdpaaGreatDoor.Cr
def step (x:Nat):Nat:=if x%2=1 then (x/2) ^^^ 3988292384 else x/2
def stepN:Nat->Nat->Nat
 |0,x=>x
 |k+1,x=>step (stepN k x)
def crc8 (r c:Nat):Nat:=stepN 8 (r ^^^ c)
def crcL (r:Nat) (l:List UInt8):Nat:=l.foldl (fun r b=>crc8 r b.toNat) r
def fin (r:Nat):Nat:=r ^^^ 4294967295
theorem xor_lt {a b:Nat} (ha:a<4294967296) (hb:b<4294967296):a ^^^ b<4294967296 :=
 Nat.xor_lt_two_pow (n:=32) ha hb
theorem step_lt {x:Nat} (h:x<4294967296):step x<4294967296:=by
 unfold step
 split
 ·exact xor_lt (by omega) (by decide)
 ·omega
theorem stepN_lt {x:Nat} (h:x<4294967296) (k:Nat):stepN k x<4294967296:=by
 induction k with
 |zero=>exact h
 |succ k ih=>exact step_lt ih
theorem crc8_lt {r c:Nat} (h:r<4294967296) (hc:c<256):crc8 r c<4294967296 :=
 stepN_lt (xor_lt h (by omega)) 8
theorem crcL_lt (l:List UInt8):∀ r,r<4294967296->crcL r l<4294967296:=by
 induction l with
 |nil=>intro r h;exact h
 |cons b l ih=>intro r h;exact ih _ (crc8_lt h b.toNat_lt)
theorem crcL_snoc (r:Nat) (l:List UInt8) (b:UInt8):crcL r (l++[b])=crc8 (crcL r l) b.toNat:=by
 simp[crcL,List.foldl_append]
theorem take_snoc (s:ByteArray) (k:Nat) (h:k<s.size):s.data.toList.take (k+1)=s.data.toList.take k++[s[k]]:=by
 rw[List.take_succ_eq_append_getElem (by simpa using h)];rfl
theorem crcL_take (r:Nat) (s:ByteArray) (k:Nat) (h:k<s.size):crcL r (s.data.toList.take (k+1))=crc8 (crcL r (s.data.toList.take k)) (s[k]).toNat:=by
 rw[take_snoc s k h,crcL_snoc]
theorem fin_lt {r:Nat} (h:r<4294967296):fin r<4294967296:=xor_lt h (by decide)
def implS (x c k:Nat):Nat:=if (x ^^^ c/2 ^ k)%2=1 then (x/2) ^^^ 3988292384 else x/2
theorem inv_step (x c k:Nat):implS x c k ^^^ (c/2 ^ (k+1))=step (x ^^^ c/2 ^ k):=by
 have e:c/2 ^ (k+1)=(c/2 ^ k)/2:=by rw[Nat.pow_succ,Nat.div_div_eq_div_mul]
 unfold implS step
 rw[e,Nat.xor_div_two]
 split
 ·rw[Nat.xor_assoc,Nat.xor_assoc,Nat.xor_comm 3988292384]
 ·rfl
theorem implS_lt {x:Nat} (c k:Nat) (h:x<4294967296):implS x c k<4294967296:=by
 unfold implS
 split
 ·exact xor_lt (by omega) (by decide)
 ·omega
/-! the walk's own spellings -/
theorem nat_pow_cast (c k:Nat):((c:Int)/2 ^ k)=((c/2 ^ k:Nat):Int):=by
 rw[Int.natCast_ediv,Int.natCast_pow];rfl
theorem turned_eq (x c k:Nat) (hx:x<4294967296) (hc:c<256) :
  bits BinOp.and IntKind.u32 (bits BinOp.xor IntKind.u32 (x:Int) ((c:Int)/2 ^ k%4294967296)) 1=(((x ^^^ c/2 ^ k)%2:Nat):Int):=by
 have h1:c/2 ^ k<4294967296:=Nat.lt_of_le_of_lt (Nat.div_le_self _ _) (by omega)
 have e:((c:Int)/2 ^ k%4294967296)=((c/2 ^ k:Nat):Int):=by
  rw[nat_pow_cast]
  generalize c/2 ^ k=q at h1 ⊢
  omega
 rw[e,u32_xor_nat _ _ hx h1]
 have:=u32_and_nat (x ^^^ c/2 ^ k) 1 (xor_lt hx h1) (by decide)
 rw[nat_mask1]at this
 exact this
theorem half_xor (x:Nat) (hx:x<4294967296):bits BinOp.xor IntKind.u32 ((x:Int)/2) 3988292384=(((x/2) ^^^ 3988292384:Nat):Int):=by
 have e:((x:Int)/2)=((x/2:Nat):Int):=by omega
 rw[e]
 exact u32_xor_nat (x/2) 3988292384 (by omega) (by decide)
theorem low_eq (x:Nat) (hx:x<4294967296):bits BinOp.and IntKind.u32 (x:Int) 1=((x%2:Nat):Int):=by
 have:=u32_and_nat x 1 hx (by decide)
 rw[nat_mask1]at this
 exact this
theorem not_eq (x:Nat) (hx:x<4294967296):bits BinOp.xor IntKind.u32 (x:Int) 4294967295=((fin x:Nat):Int) :=
 u32_xor_nat x 4294967295 hx (by decide)
theorem not_eq' (x:Nat) (hx:x<4294967296):bits BinOp.xor IntKind.u32 IntKind.u32.max (x:Int)=((fin x:Nat):Int):=by
 rw[fin,Nat.xor_comm,show IntKind.u32.max=((4294967295:Nat):Int) from rfl]
 exact u32_xor_nat 4294967295 x (by decide) hx
end Go.Proofs.YtpddanmnlkcdpaaGreatDoor.Cr


/- Two laws of the library on regions that draw their order and only read, the world spelled as a walk spells it. -/
namespace Go.Proofs.YtpddanmnlkcdpaaGreatDoor.Sh
theorem still_lit {P:Program} {id:Nat} {Q:Exit->Act->World->Prop} {a:Act} {w:World} {l:List Oper} (hm:P.follows .mixedOrders=true) (hB:Region.lexB .any l.toArray=true)
  (h:wpStill P l.toArray w.drew (fun a'=>Q .normal a' w.drew) l a):(Code.region id l.toArray true).wp P Q a w :=
 wp_region_still_lit hm hB h
theorem still_tail {P:Program} {id:Nat} {Q:Exit->Act->World->Prop} {a:Act} {w:World} {l:List Oper} (n:Nat) (hm:P.follows .mixedOrders=true) (hB:Region.lexTailB .any l.toArray n=true)
  (h:wpStill P l.toArray w.drew (fun a'=>wpList P l.toArray Q (l.drop n) a' w.drew) (l.take n) a):(Code.region id l.toArray true).wp P Q a w :=
 wp_region_still_tail n hm hB h
end Go.Proofs.YtpddanmnlkcdpaaGreatDoor.Sh


/- Plain mathematics of numbers as bytes, there and back: what is read where a number is written is the number; of its bytes without the last one nothing is read but that they end too early. -/
namespace Go.Proofs.YtpddanmnlkcdpaaGreatDoor.Nm2
open Nu Go.Proofs.YtpddanmnlkcdpaaGreatDoor.Gn
theorem unz_zz (n:Int):unz (zz n)=n:=by
 unfold zz
 split
 ·rw[unz_odd _ (by omega)];omega
 ·rw[unz_even _ (by omega)];omega
theorem pow_eq (k:Nat):2 ^ (7*k)=128 ^ k:=by rw[Nat.pow_mul]
theorem cnt_spec (U:Nat) (hU:U<18446744073709551616):cnt 9 U<=9/\(∀ j,j<cnt 9 U->128<=U/128 ^ j)/\U/128 ^ cnt 9 U<128:=by
 have key:∀ f u,u/128 ^ f<128->(∀ j,j<cnt f u->128<=u/128 ^ j)/\u/128 ^ cnt f u<128:=by
  intro f
  induction f with
  |zero=>intro u h;exact⟨fun j hj=>absurd hj (Nat.not_lt_zero j),by simpa [cnt] using h⟩
  |succ f ih =>
   intro u h
   unfold cnt
   split
   ·rename_i hlt
    exact⟨fun j hj=>absurd hj (Nat.not_lt_zero j),by simpa using hlt⟩
   ·rename_i hge
    rw[div_pow]at h
    obtain⟨h1,h2⟩:=ih (u/128) h
    refine⟨fun j hj=>?_,by rw[div_pow];exact h2⟩
    match j with
    |0=>simpa using (by omega:128<=u)
    |j+1=>rw[div_pow];exact h1 j (by omega)
 refine⟨cnt_le 9 U,key 9 U ?_⟩
 have e:(128:Nat) ^ 9=9223372036854775808:=by decide
 rw[e]
 omega
theorem mod_next (U k:Nat):U%128 ^ k+U/128 ^ k%128*128 ^ k=U%128 ^ (k+1):=by
 rw[Nat.pow_succ,Nat.mod_mul,Nat.mul_comm (128 ^ k)]
theorem dec (s:ByteArray) (U p0 K:Nat) (hU:U<18446744073709551616) (hK:K<=9) (hall:∀ j,j<K->128<=U/128 ^ j) (hlast:U/128 ^ K<128)
  (hsz:p0+K<s.size) (hb:∀ j,j<K->byteN s (p0+j)=U/128 ^ j%128+128) (hbl:byteN s (p0+K)=U/128 ^ K) :
  ∀ d k,K-k=d->k<=K->run s (10-k) k (p0+k) (U%128 ^ k)=(U,p0+K+1,0):=by
 intro d
 induction d with
 |zero =>
  intro k hd hk
  obtain rfl:k=K:=by omega
  obtain⟨f,hf⟩:∃ f,10-k=f+1:=⟨9-k,by omega⟩
  have e:=byteN_eq s (p0+k) hsz
  rw[hbl]at e
  have h9:¬(k=9/\1<s[p0+k].toNat):=by
   rintro⟨rfl,h⟩
   rw[e,show (128:Nat) ^ 9=9223372036854775808 from by decide]at h
   omega
  have hz:¬(s[p0+k].toNat=0/\0<k):=by
   rintro⟨h,hk0⟩
   have h1:=hall (k-1) (by omega)
   rw[e,show k=(k-1)+1 from by omega,pow_div]at h
   omega
  rw[hf,run_last s f k (p0+k) _ hsz h9 (by rw[e];exact hlast) hz,e,pow_eq,Nat.mod_eq_of_lt hlast]
  have hm:U%128 ^ k+U/128 ^ k*128 ^ k=U:=by rw[Nat.mul_comm];exact Nat.mod_add_div U (128 ^ k)
  rw[hm]
 |succ d ih =>
  intro k hd hk
  have hlt:k<K:=by omega
  obtain⟨f,hf⟩:∃ f,10-k=f+1:=⟨9-k,by omega⟩
  have hp:p0+k<s.size:=by omega
  have e:=byteN_eq s (p0+k) hp
  rw[hb k hlt]at e
  rw[hf,run_more s f k (p0+k) _ hp (by omega) (by omega),e,pow_eq,Nat.add_mod_right,Nat.mod_mod,mod_next,show f=10-(k+1) from by omega]
  exact ih (k+1) (by omega) (by omega)
end Go.Proofs.YtpddanmnlkcdpaaGreatDoor.Nm2

