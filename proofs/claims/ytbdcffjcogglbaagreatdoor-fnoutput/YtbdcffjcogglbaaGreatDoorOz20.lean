import Derived.Test.YtbdcffjcogglbaaGreatDoorOz19
import Derived.Test.YtbdcffjcogglbaaGreatDoorOz2
import Derived.Test.YtbdcffjcogglbaaGreatDoorOz29
set_option maxRecDepth 100000
set_option maxHeartbeats 8000000
namespace Go.Proofs.YtbdcffjcogglbaaGreatDoor
open Go.Proofs.Tryz
namespace Gn
open Go.RowKit Go.Proofs.YtbdcffjcogglbaaGreatDoor.Jump
def errV (c:Int):Value:=if c=0 then .nilIface else .iface 171 (.agg #[.int .i64 c])
def bitsV (r:Nat × Nat × Int):Value:=.tuple #[.int .u64 r.1,.int .i64 r.2.1,errV r.2.2]
def J (s : ByteArray) (a : Nat) (w : World) (l : Nat) (a' : Act) (w' : World) : Prop :=
  w' = w ∧
  ((l = 0 ∧ ∃ (k v p : Nat) (x8 : Value) (x10 x11 x12 x13 x14 x15 x16 x17 x18 x19 x20 x21 x22 x23 x24 x25 x26 x27 x28 x29 x30 x31 x32 x33 x34 x35 x36 x37 x38 x39 x40 x41 x42 x43 x44 x45 x46 x47 x48 : Value), a' = { tmps := #[.string s, .int .i64 (p : Nat), undef, undef, .int .u64 0, .int .i64 0, .nilIface, .int .u64 (v : Nat), x8, .int .i64 (k : Nat), x10, x11, x12, x13, x14, x15, x16, x17, x18, x19, x20, x21, x22, x23, x24, x25, x26, x27, x28, x29, x30, x31, x32, x33, x34, x35, x36, x37, x38, x39, x40, x41, x42, x43, x44, x45, x46, x47, x48], defers := [] } ∧ 1 ≤ k ∧ k ≤ 9 ∧ p ≤ 8000 ∧ v < 2 ^ (7 * k) ∧ numR s a = run s (10 - k) k p v) ∨
   (l = 2 ∧ ∃ (k v p c : Nat) (x10 x11 x12 x13 x14 x15 x16 x17 x18 x19 x20 x21 x22 x23 x24 x25 x26 x27 x28 x29 x30 x31 x32 x33 x34 x35 x36 x37 x38 x39 x40 x41 x42 x43 x44 x45 x46 x47 x48 : Value), a' = { tmps := #[.string s, .int .i64 (p : Nat), undef, undef, .int .u64 0, .int .i64 0, .nilIface, .int .u64 (v : Nat), .int .u8 (c : Nat), .int .i64 (k : Nat), x10, x11, x12, x13, x14, x15, x16, x17, x18, x19, x20, x21, x22, x23, x24, x25, x26, x27, x28, x29, x30, x31, x32, x33, x34, x35, x36, x37, x38, x39, x40, x41, x42, x43, x44, x45, x46, x47, x48], defers := [] } ∧ 1 ≤ k ∧ k ≤ 10 ∧ c < 128 ∧ numR s a = if c = 0 ∧ 1 < k then (0, 0, 3) else (v, p, 0)) ∨
   (l = 1 ∧ ∃ (k v p : Int) (x8 : Value) (x10 x11 x12 x13 x14 x15 x16 x17 x18 x19 x20 x21 x22 x23 x24 x25 x26 x27 x28 x29 x30 x31 x32 x33 x34 x35 x36 x37 x38 x39 x40 x41 x42 x43 x44 x45 x46 x47 x48 : Value), a' = { tmps := #[.string s, .int .i64 p, undef, undef, .int .u64 0, .int .i64 0, .nilIface, .int .u64 v, x8, .int .i64 k, x10, x11, x12, x13, x14, x15, x16, x17, x18, x19, x20, x21, x22, x23, x24, x25, x26, x27, x28, x29, x30, x31, x32, x33, x34, x35, x36, x37, x38, x39, x40, x41, x42, x43, x44, x45, x46, x47, x48], defers := [] } ∧ numR s a = (0, 0, 3)))
theorem J0 (s:ByteArray) (a:Nat) (w:World) (k v p:Nat) (x8:Value) (x10 x11 x12 x13 x14 x15 x16 x17 x18 x19 x20 x21 x22 x23 x24 x25 x26 x27 x28 x29 x30 x31 x32 x33 x34 x35 x36 x37 x38 x39 x40 x41 x42 x43 x44 x45 x46 x47 x48:Value) (h1:1<=k) (h2:k<=9) (h3:p<=8000) (h4:v<2 ^ (7*k)) (h5:numR s a=run s (10-k) k p v) :
  J s a w 0 { tmps:=#[.string s,.int .i64 (p:Nat),undef,undef,.int .u64 0,.int .i64 0,.nilIface,.int .u64 (v:Nat),x8,.int .i64 (k:Nat),x10,x11,x12,x13,x14,x15,x16,x17,x18,x19,x20,x21,x22,x23,x24,x25,x26,x27,x28,x29,x30,x31,x32,x33,x34,x35,x36,x37,x38,x39,x40,x41,x42,x43,x44,x45,x46,x47,x48],defers:=[] } w :=
 ⟨rfl,.inl ⟨rfl,k,v,p,x8,x10,x11,x12,x13,x14,x15,x16,x17,x18,x19,x20,x21,x22,x23,x24,x25,x26,x27,x28,x29,x30,x31,x32,x33,x34,x35,x36,x37,x38,x39,x40,x41,x42,x43,x44,x45,x46,x47,x48,rfl,h1,h2,h3,h4,h5⟩⟩
theorem J2 (s:ByteArray) (a:Nat) (w:World) (k v p c:Nat) (x10 x11 x12 x13 x14 x15 x16 x17 x18 x19 x20 x21 x22 x23 x24 x25 x26 x27 x28 x29 x30 x31 x32 x33 x34 x35 x36 x37 x38 x39 x40 x41 x42 x43 x44 x45 x46 x47 x48:Value) (h1:1<=k) (h2:k<=10) (h3:c<128) (h5:numR s a=if c=0/\1<k then (0,0,3) else (v,p,0)) :
  J s a w 2 { tmps:=#[.string s,.int .i64 (p:Nat),undef,undef,.int .u64 0,.int .i64 0,.nilIface,.int .u64 (v:Nat),.int .u8 (c:Nat),.int .i64 (k:Nat),x10,x11,x12,x13,x14,x15,x16,x17,x18,x19,x20,x21,x22,x23,x24,x25,x26,x27,x28,x29,x30,x31,x32,x33,x34,x35,x36,x37,x38,x39,x40,x41,x42,x43,x44,x45,x46,x47,x48],defers:=[] } w :=
 ⟨rfl,.inr (.inl ⟨rfl,k,v,p,c,x10,x11,x12,x13,x14,x15,x16,x17,x18,x19,x20,x21,x22,x23,x24,x25,x26,x27,x28,x29,x30,x31,x32,x33,x34,x35,x36,x37,x38,x39,x40,x41,x42,x43,x44,x45,x46,x47,x48,rfl,h1,h2,h3,h5⟩)⟩
theorem J1 (s:ByteArray) (a:Nat) (w:World) (k v p:Int) (x8:Value) (x10 x11 x12 x13 x14 x15 x16 x17 x18 x19 x20 x21 x22 x23 x24 x25 x26 x27 x28 x29 x30 x31 x32 x33 x34 x35 x36 x37 x38 x39 x40 x41 x42 x43 x44 x45 x46 x47 x48:Value) (h5:numR s a=(0,0,3)) :
  J s a w 1 { tmps:=#[.string s,.int .i64 p,undef,undef,.int .u64 0,.int .i64 0,.nilIface,.int .u64 v,x8,.int .i64 k,x10,x11,x12,x13,x14,x15,x16,x17,x18,x19,x20,x21,x22,x23,x24,x25,x26,x27,x28,x29,x30,x31,x32,x33,x34,x35,x36,x37,x38,x39,x40,x41,x42,x43,x44,x45,x46,x47,x48],defers:=[] } w :=
 ⟨rfl,.inr (.inr ⟨rfl,k,v,p,x8,x10,x11,x12,x13,x14,x15,x16,x17,x18,x19,x20,x21,x22,x23,x24,x25,x26,x27,x28,x29,x30,x31,x32,x33,x34,x35,x36,x37,x38,x39,x40,x41,x42,x43,x44,x45,x46,x47,x48,rfl,h5⟩)⟩
def μ (l:Nat) (a':Act) (_:World):Nat:=if l=0 then 20-(intOf (a'.tmps.getD 9 undef)).toNat else if l=2 then 1 else 0
theorem bits_any (s:ByteArray) (a:Nat) (w:World) (hs:s.size<=8000) :
  Calls prog 172 #[.string s,.int .i64 a] w fun e w'=>e=.returned (bitsV (numR s a))/\w'=w:=by
 go_enter func172,ntmps172
 go_wp2
 refine wp_scope_labels (J s a w) μ ?_ ?_
 ·by_cases hp:a<s.size
  ·have hb:s[a].toNat<256:=s[a].toNat_lt
   have hand:=and_low s[a].toNat hb
   have hy:s[a].toNat%128<=127:=by omega
   have hor:bits BinOp.or IntKind.u64 0 ((s[a].toNat%128:Nat):Int)=((s[a].toNat%128:Nat):Int):=by
    have:=u64_or_nat 0 (s[a].toNat%128) (by decide) (by omega)
    rw[Nat.zero_or]at this;exact this
   obtain⟨y,hyy⟩:∃ y,y=s[a].toNat%128:=⟨_,rfl⟩;rw[<-hyy]at hand hy hor;have HY:Hid (y=s[a].toNat%128):=hyy;clear hyy
   have HX:Hid (0+s[a].toNat%128*2 ^ (7*0)=y):=by unfold Hid;rw[HY.o];simp
   by_cases hc:s[a].toNat<128
   ·go_wp2
    go_step3
    go_wp2
    go_step3
    exact J2 s a w 1 y (a+1) s[a].toNat _ _ _ _ _ _ _ _ _ _ _ _ _ _ _ _ _ _ _ _ _ _ _ _ _ _ _ _ _ _ _ _ _ _ _ _ _ _ _ (by omega) (by omega) hc (by rw[if_neg (by omega)];exact(run_last s 9 0 a 0 hp (by omega) hc (by omega)).trans (by rw[HX.o]))
   ·go_wp2
    go_step3
    go_wp2
    go_step3
    exact J0 s a w 1 y (a+1) _ _ _ _ _ _ _ _ _ _ _ _ _ _ _ _ _ _ _ _ _ _ _ _ _ _ _ _ _ _ _ _ _ _ _ _ _ _ _ _ (by omega) (by omega) (by omega) (by omega) ((run_more s 9 0 a 0 hp (by omega) (by omega)).trans (by rw[HX.o]))
  ·have HE:Hid (numR s a=(0,0,4)):=run_end s 9 0 a 0 (by omega)
   go_wp2
   go_step3
   go_wp2
   rw[toLabel_ret]
   go_ret3
   exact⟨by rw[HE.o];rfl,rfl⟩
 ·intro l a' w' hJ
  obtain⟨rfl,hJ⟩:=hJ
  rcases hJ with⟨rfl,k,v,p,x8,x10,x11,x12,x13,x14,x15,x16,x17,x18,x19,x20,x21,x22,x23,x24,x25,x26,x27,x28,x29,x30,x31,x32,x33,x34,x35,x36,x37,x38,x39,x40,x41,x42,x43,x44,x45,x46,x47,x48,rfl,h1,h2,h3,h4,h5⟩|⟨rfl,k,v,p,c,x10,x11,x12,x13,x14,x15,x16,x17,x18,x19,x20,x21,x22,x23,x24,x25,x26,x27,x28,x29,x30,x31,x32,x33,x34,x35,x36,x37,x38,x39,x40,x41,x42,x43,x44,x45,x46,x47,x48,rfl,h1,h2,h3,h5⟩|⟨rfl,k,v,p,x8,x10,x11,x12,x13,x14,x15,x16,x17,x18,x19,x20,x21,x22,x23,x24,x25,x26,x27,x28,x29,x30,x31,x32,x33,x34,x35,x36,x37,x38,x39,x40,x41,x42,x43,x44,x45,x46,x47,x48,rfl,h5⟩
  ·refine⟨_,rfl,?_⟩
   have HR:=hide h5;have HV:=hide h4
   have hvb:v<=9223372036854775807:=by have:=pow_le k h2;omega
   clear h5 h4;obtain⟨f,hf⟩:∃ f,10-k=f+1:=⟨9-k,by omega⟩;have HF:=hide hf;clear hf;by_cases hp:p<s.size
   ·have hb:s[p].toNat<256:=s[p].toNat_lt
    by_cases h9:k=9/\1<s[p].toNat
    ·have hk9:((k:Int)==9)=true:=beq_iff_eq.2 (by omega)
     have hc1:(1:Int)<s[p].toNat:=by omega
     have HE:Hid (numR s a=(0,0,3)):=HR.o.trans (by rw[HF.o];exact run_nine s f k p v hp h9.1 h9.2);have HH:=hide h9;clear h9
     go_wp2
     go_step3
     exact⟨J1 s a _ _ _ _ _ _ _ _ _ _ _ _ _ _ _ _ _ _ _ _ _ _ _ _ _ _ _ _ _ _ _ _ _ _ _ _ _ _ _ _ _ _ _ _ HE.o,by simp[μ,intOf];omega⟩
    ·obtain⟨hm1,hm2⟩:=next_small v s[p].toNat k HV.o h2 h9
     have hand:=and_low s[p].toNat hb;have hy:s[p].toNat%128<=127:=(by omega);have hsh:=shl_part (s[p].toNat%128) k hm1;have hor:=or_part v s[p].toNat k HV.o hm1 hvb;obtain⟨z,hz⟩:∃ z,z=s[p].toNat%128*2 ^ (7*k):=⟨_,rfl⟩;obtain⟨x,hx⟩:∃ x,x=v+s[p].toNat%128*2 ^ (7*k):=⟨_,rfl⟩;rw[<-hx,<-hz]at hor;rw[<-hx]at hm2;rw[<-hz]at hm1 hsh;obtain⟨y,hyy⟩:∃ y,y=s[p].toNat%128:=⟨_,rfl⟩;rw[<-hyy]at hand hy hsh;have HX:=hide hx;have HY:=hide hyy;have HZ:=hide hz;have H9:=hide h9;clear hx hyy hz h9;by_cases hc:s[p].toNat<128
     ·have HE:Hid (numR s a=if s[p].toNat=0/\1<k+1 then (0,0,3) else (x,p+1,0)):=HR.o.trans (by
       rw[HF.o];by_cases hq:s[p].toNat=0/\0<k
       ·rw[if_pos ⟨hq.1,by omega⟩];exact run_zero s f k p v hp hq.1 hq.2
       ·rw[if_neg (by omega),HX.o];exact run_last s f k p v hp H9.o hc hq)
      by_cases e9:k=9
      ·have hk9:((k:Int)==9)=true:=beq_iff_eq.2 (by omega)
       have hcd:decide ((1:Int)<s[p].toNat)=false:=decide_eq_false (by have:=H9.o;omega);have H99:=hide e9;clear e9
       go_wp2
       go_step3
       exact⟨J2 s a _ (k+1) x (p+1) s[p].toNat _ _ _ _ _ _ _ _ _ _ _ _ _ _ _ _ _ _ _ _ _ _ _ _ _ _ _ _ _ _ _ _ _ _ _ _ _ _ _ (by omega) (by omega) hc HE.o,by simp[μ,intOf];omega⟩
      ·have hk9:((k:Int)==9)=false:=beq_eq_false_iff_ne.2 (by omega)
       go_wp2
       go_step3
       exact⟨J2 s a _ (k+1) x (p+1) s[p].toNat _ _ _ _ _ _ _ _ _ _ _ _ _ _ _ _ _ _ _ _ _ _ _ _ _ _ _ _ _ _ _ _ _ _ _ _ _ _ _ (by omega) (by omega) hc HE.o,by simp[μ,intOf];omega⟩
     ·have hn9:¬k=9:=by have:=H9.o;omega
      have hk9:((k:Int)==9)=false:=beq_eq_false_iff_ne.2 (by omega);have HE:Hid (numR s a=run s f (k+1) (p+1) x):=HR.o.trans (by rw[HF.o,HX.o];exact run_more s f k p v hp hn9 (by omega))
      go_wp2
      go_step3
      exact⟨J0 s a _ (k+1) x (p+1) _ _ _ _ _ _ _ _ _ _ _ _ _ _ _ _ _ _ _ _ _ _ _ _ _ _ _ _ _ _ _ _ _ _ _ _ _ _ _ _ (by omega) (by omega) (by omega) (by rw[HX.o];exact next_lt _ _ _ HV.o) (by rw[HE.o,show 10-(k+1)=f from by have:=HF.o;omega]),by simp[μ,intOf];omega⟩
   ·have HE:Hid (numR s a=(0,0,4)):=HR.o.trans (by rw[HF.o];exact run_end s f k p v (by omega))
    go_wp2
    rw[toLabel_ret]
    go_ret3
    exact⟨by rw[HE.o];rfl,rfl⟩
  ·refine⟨_,rfl,?_⟩
   by_cases hz:c=0/\1<k
   ·have HE:Hid (numR s a=(0,0,3)):=h5.trans (if_pos hz)
    have hcz:((c:Int)==0)=true:=beq_iff_eq.2 (by omega);have hk1:(1:Int)<k:=(by omega);have HZ:=hide hz;clear h5 hz
    go_wp2
    go_step3
    exact⟨J1 s a _ _ _ _ _ _ _ _ _ _ _ _ _ _ _ _ _ _ _ _ _ _ _ _ _ _ _ _ _ _ _ _ _ _ _ _ _ _ _ _ _ _ _ _ HE.o,by simp[μ]⟩
   ·have HE:Hid (numR s a=(v,p,0)):=h5.trans (if_neg hz)
    clear h5;by_cases cz:c=0
    ·have hcz:((c:Int)==0)=true:=beq_iff_eq.2 (by omega)
     have hk1:¬1<k:=by omega
     have hkd:decide ((1:Int)<k)=false:=decide_eq_false (by omega);have HC:=hide cz;clear cz hz
     go_wp2
     rw[toLabel_ret]
     go_ret3
     exact⟨by rw[HE.o];rfl,rfl⟩
    ·have hcz:((c:Int)==0)=false:=beq_eq_false_iff_ne.2 (by omega)
     go_wp2
     rw[toLabel_ret]
     go_ret3
     exact⟨by rw[HE.o];rfl,rfl⟩
  ·refine⟨_,rfl,?_⟩
   have HE:=hide h5;clear h5
   go_wp2
   rw[toLabel_ret]
   go_ret3
   exact⟨by rw[HE.o];rfl,rfl⟩
end Gn
namespace So
open Go.RowKit Go.Sort Go.Proofs
theorem mergeA_T (T:Nat->ByteArray) (blk cap a b:Nat) (d:Array Nat) (w:World) (hH:HoldsK (encT T) 2 w blk 0 d) (hblk:blk<w.heap.size) (hab:a+1<b) (hb:b<=d.size) (hsz:d.size<=1048576)
  (hr2:Ris (clT T) (a+1) b (dF d)) (hsep:Sep a (a+1) b (dF d)) :
  Calls prog 205 #[.slice (some ⟨blk,0,none⟩) d.size cap,.int .i64 a,.int .i64 (a+1:Nat),.int .i64 b,.func (.func 159) #[] #[]] w fun e w' =>
   e=.returned (.tuple #[])/\∃ n d' os,w'=sortWorldK (encT T) 2 w blk 0 n d' os/\d'.size=d.size/\PermF a b (dF d) (dF d')/\Ris (clT T) a b (dF d'):=by
 have mixed:=mixed;have HST:=hideO (world_self hH);have HH:=hideO hH;have HR2:=hideO hr2;have HSP:=hideO hsep;clear hH hr2 hsep;obtain⟨z,hz⟩:∃ z,z=d.size:=⟨_,rfl⟩;have HZ:=hideO hz;rw[<-hz]at hb hsz ⊢;clear hz;obtain⟨f,hf⟩:∃ f,f=dF d:=⟨_,rfl⟩;have HFD:=hideO hf;rw[<-hf]at HR2 HSP ⊢;clear hf;obtain⟨m,hm⟩:∃ m,m=a+1:=⟨_,rfl⟩
 have hma:(m:Int)-(a:Int)=1:=by omega
 have ham:a<m:=by omega
 rw[<-hm]at hab HR2 HSP ⊢;have HM:=hideO hm;clear hm;go_enter func205,ntmps205
 go_wp2_with fail
 clear hma
 go_loopw [10,11] (fun u v wr=>∃ (i j n:Nat) (os:Array Obj),u=.int .i64 i/\v=.int .i64 j/\m<=i/\i<=j/\j<=b/\(m<i->lx (clT T) (f (i-1)) (f a))/\(j<b->lx (clT T) (f a) (f j))/\wr=sortWorldK (encT T) 2 w blk 0 n d os) (fun u v _=>(intOf v).toNat-(intOf u).toNat)
 case atStart=>exact⟨m,b,0,#[],rfl,rfl,nl,by omega,nl,fun h=>absurd h (by omega),fun h=>absurd h (by omega),HST.o⟩
 case round =>
  obtain⟨i,j,n,os,rfl,rfl,hmi,hij,hjb,hlo,hhi,hwr⟩:=hrel;have HLO:=hideO hlo;have HHI:=hideO hhi;have HW:=hideO hwr;clear hlo hhi;by_cases hlt:i<j
  ·obtain⟨h,hh⟩:∃ h,h=(i+j)/2:=⟨_,rfl⟩
   have e1:((i:Int)+(j:Int))/2=(h:Int):=by omega
   have hhb:h<z:=by omega
   have hih:i<=h:=by omega
   have hhj:h<j:=by omega
   have hHj:HoldsK (encT T) 2 wr blk 0 d:=by rw[hwr];exact world_holds HH.o hblk n d os rfl
   have hbw:blk<wr.heap.size:=by rw[hwr];exact Nat.lt_of_lt_of_le hblk (world_size n d os)
   obtain⟨x0c,x0f,x1c,x1f⟩:=cells_T hHj (i:=h) (by have:=HZ.o;omega);obtain⟨y0c,y0f,y1c,y1f⟩:=cells_T hHj (i:=a) (by have:=HZ.o;omega);obtain⟨x,hx⟩:∃ x,x=d[h]!:=⟨_,rfl⟩;obtain⟨y,hy⟩:∃ y,y=d[a]!:=⟨_,rfl⟩;have HXY:Hid (x=f h/\y=f a):=⟨by rw[hx,HFD.o];rfl,by rw[hy,HFD.o];rfl⟩;rw[<-hx]at x0c x1c;rw[<-hy]at y0c y1c;have g0:=fun n' os'=>cell_grown (a:=⟨blk,h*2,none⟩) hbw x0c n' os';have g1:=fun n' os'=>cell_grown (a:=⟨blk,h*2+1,none⟩) hbw x1c n' os';have g2:=fun n' os'=>cell_grown (a:=⟨blk,a*2,none⟩) hbw y0c n' os';have g3:=fun n' os'=>cell_grown (a:=⟨blk,a*2+1,none⟩) hbw y1c n' os';have HCM:Hid (∀ W,Calls prog 159 #[.agg #[.int .i64 x,.string (T x)],.agg #[.int .i64 y,.string (T y)]] W fun e w'=>e=.returned (.int .i64 (cfT T x y))/\∃ q os',w'=grow (W.drewN q) os'):=fun W=>cmp_T T x y W;have hneg:=cfT_neg T x y;obtain⟨r,hr⟩:∃ r,r=cfT T x y:=⟨_,rfl⟩;rw[<-hr]at hneg HCM
   have hz1:(h:Int)<(z:Int):=by omega
   have hz2:(a:Int)<(z:Int):=by omega
   have HCLS:=hideO (fun n' os'=>sortWorldK_grown_c (encT T) 2 w blk 0 n n' d os os');rw[<-hwr]at HCLS;clear hr hx hy hwr hh x0c x0f x1c x1f y0c y0f y1c y1f hHj hbw
   cases hcb:clT T x y with
   |true =>
    rw[hcb]at hneg;have hlv:r<0:=of_decide_eq_true hneg
    have HL2:Hid (lx (clT T) (f h) (f a)):=by
     unfold Hid;rw[<-HXY.o.1,<-HXY.o.2];exact lx_yes hcb
    clear hneg;(go_wp2_with fail)
    go_quiet_grown (first|(go_at_call 159;refine Calls.grown_of (HCM.o _)))
    have HW2:Hid (grow (wr.drewN nq) osq=sortWorldK (encT T) 2 w blk 0 (n+nq) d (os++osq)):=HCLS.o nq osq;dsimp only;clear g0 g1 g2 g3;(go_wp2_with fail)
    go_roundw
    case rel=>exact⟨h+1,j,n+nq,os++osq,by go_num,rfl,by omega,by omega,hjb,fun _=>HL2.o,HHI.o,HW2.o⟩
    case measure=>simp[intOf];omega
   |false =>
    rw[hcb]at hneg;have hlv:¬r<0:=of_decide_eq_false hneg
    have HL2:Hid (lx (clT T) (f a) (f h)):=by
     unfold Hid;have hpl:=HSP.o a h nl ham (by omega) (by omega);rw[<-HXY.o.1,<-HXY.o.2]at hpl ⊢;exact lx_no hcb hpl
    clear hneg;(go_wp2_with fail)
    go_quiet_grown (first|(go_at_call 159;refine Calls.grown_of (HCM.o _)))
    have HW2:Hid (grow (wr.drewN nq) osq=sortWorldK (encT T) 2 w blk 0 (n+nq) d (os++osq)):=HCLS.o nq osq;dsimp only;clear g0 g1 g2 g3;(go_wp2_with fail)
    go_roundw
    case rel=>exact⟨i,h,n+nq,os++osq,rfl,rfl,hmi,by omega,by omega,HLO.o,fun _=>HL2.o,HW2.o⟩
    case measure=>simp[intOf];omega
  ·obtain rfl:i=j:=by omega
   have HRR:Hid (Ris (clT T) a b (rotF a m i f)):=by
    unfold Hid;have hmm:=HM.o;rw[hmm]at HR2 ⊢
    exact up_ris (clT_weak T) HR2.o (by omega) (by omega)
     (fun k h1 h2=>HR2.o.le h1 (show k<=i-1 by omega) (by omega) (clT_weak T) (HLO.o (by omega)))
     (fun k h1 h2=>HR2.o.ge (by omega) h1 h2 (clT_weak T) (HHI.o (by omega)))
   have HPP:Hid (PermF a b f (rotF a m i f)):=(rot_perm f (by omega) (by omega)).mono nl (by omega) hjb;clear hwr
   go_wp2_with fail
   go_loopw [13] (fun u wr2=>∃ (k n:Nat) (dk:Array Nat) (os:Array Obj),u=.int .i64 k/\a<=k/\k+1<=i/\dk.size=z/\dF dk=rotF a m (k+1) f/\wr2=sortWorldK (encT T) 2 w blk 0 n dk os) (fun u _=>i-(intOf u).toNat)
   case atStart=>exact⟨a,n,d,os,rfl,nl,by omega,HZ.o.symm,by rw[HM.o,rot_up0];exact HFD.o.symm,HW.o⟩
   case round =>
    obtain⟨k,n2,dk,os2,rfl,hak,hki,hsk,hfk,hwr⟩:=hrel;have HSK:=hideO hsk;have HFK:=hideO hfk;obtain⟨ip,hip⟩:∃ ip,i=ip+1:=⟨i-1,by omega⟩;have eip:(i:Int)-1=(ip:Int):=(by omega);have hipw:IntKind.i64.wrap (ip:Int)=(ip:Int):=(by rw[IntKind.wrap_i64];omega);have HIP:=hideO hip;by_cases hlt2:k+1<i
    ·obtain⟨q,hq⟩:∃ q,q=k+1:=⟨_,rfl⟩
     have eq1:(k:Int)+1=(q:Int):=by omega
     have hH2:HoldsK (encT T) 2 wr blk 0 dk:=by rw[hwr];exact world_holds HH.o hblk n2 dk os2 (hsk.trans HZ.o)
     obtain⟨x0c,x0f,x1c,x1f⟩:=cells_T hH2 (i:=k) (by omega);obtain⟨y0c,y0f,y1c,y1f⟩:=cells_T hH2 (i:=q) (by omega);obtain⟨x,hx⟩:∃ x,x=dk[k]!:=⟨_,rfl⟩;obtain⟨y,hy⟩:∃ y,y=dk[q]!:=⟨_,rfl⟩;have hsw:=sortWorldK_swp_c (encT T) 2 w blk 0 (encT_len T) n2 dk os2 hblk k q (by omega) (by omega);rw[<-hx,<-hy,<-hwr,Nat.zero_add,Nat.zero_add]at hsw;rw[<-hx]at x0c x1c;rw[<-hy]at y0c y1c;have HSW:=hideO hsw;have hkz:(k:Int)<(z:Int):=(by omega);have hqz:(q:Int)<(z:Int):=(by omega);have hqw:IntKind.i64.wrap (q:Int)=(q:Int):=(by rw[IntKind.wrap_i64];omega);have hkip:(k:Int)<(ip:Int):=(by omega);have hkq:k<q:=(by omega);have HQ:=hideO hq
     have HROT:Hid (So.swp (rotF a m (k+1) f) k q=rotF a m (k+2) f):=by
      unfold Hid;rw[HM.o,hq];exact rot_up a k f hak
     clear hwr hH2 hx hy hsw hsk hfk hip hq;(go_wp2_with fail)
     go_region
     all_goals (try go_wp2_with fail)
     all_goals go_roundw
     case rel =>
      refine⟨q,n2+1,Go.Sort.swp dk k q,os2,rfl,by omega,by have:=HQ.o;omega,by rw[Go.Sort.size_swp];exact HSK.o,?_,HSW.o⟩;rw[dF_swp dk k q (by have:=HSK.o;have:=HQ.o;omega) (by have:=HSK.o;have:=HQ.o;omega),HFK.o,HROT.o,HQ.o]
     case measure=>have:=HQ.o;simp[intOf];omega
    ·have hkip:¬(k:Int)<(ip:Int):=by omega
     have HWW:=hideO hwr
     have HE:Hid (dF dk=rotF a m i f):=by
      unfold Hid;rw[hfk,show k+1=i by omega]
     clear hwr hsk hfk hip;(go_wp2_with fail);refine bodyPost_ret (v:=.tuple #[]) (by simp[results,results205,go_sem]) rfl ⟨rfl,n2,dk,⟨os2,HWW.o⟩,HSK.o,by rw[HE.o];exact HPP.o,by rw[HE.o];exact HRR.o⟩
end So
end Go.Proofs.YtbdcffjcogglbaaGreatDoor
