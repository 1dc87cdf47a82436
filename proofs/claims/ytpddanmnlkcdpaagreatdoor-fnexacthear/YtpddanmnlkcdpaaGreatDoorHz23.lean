/- Texts put together: GetBits. -/
import Derived.Test.YtpddanmnlkcdpaaGreatDoorHz0
set_option maxRecDepth 100000
set_option maxHeartbeats 8000000
namespace Go.Proofs.YtpddanmnlkcdpaaGreatDoor.Gn
open Go.RowKit Go.Proofs.YtpddanmnlkcdpaaGreatDoor.Jump
def errV (c:Int):Value:=if c=0 then .nilIface else .iface 235 (.agg #[.int .i64 c])
def bitsV (r:Nat × Nat × Int):Value:=.tuple #[.int .u64 r.1,.int .i64 r.2.1,errV r.2.2]
def J (s : ByteArray) (a : Nat) (w : World) (l : Nat) (a' : Act) (w' : World) : Prop :=
  w' = w ∧
  ((l = 0 ∧ ∃ (k v p : Nat) (x8 : Value) (x10 x11 x12 x13 x14 x15 x16 x17 x18 x19 x20 x21 x22 x23 x24 x25 x26 x27 x28 x29 x30 x31 x32 x33 x34 x35 x36 x37 x38 x39 x40 x41 x42 x43 x44 x45 x46 x47 x48 : Value), a' = { tmps := #[.string s, .int .i64 (p : Nat), undef, undef, .int .u64 0, .int .i64 0, .nilIface, .int .u64 (v : Nat), x8, .int .i64 (k : Nat), x10, x11, x12, x13, x14, x15, x16, x17, x18, x19, x20, x21, x22, x23, x24, x25, x26, x27, x28, x29, x30, x31, x32, x33, x34, x35, x36, x37, x38, x39, x40, x41, x42, x43, x44, x45, x46, x47, x48], defers := [] } ∧ 1 ≤ k ∧ k ≤ 9 ∧ p ≤ 8000 ∧ v < 2 ^ (7 * k) ∧ numR s a = run s (10 - k) k p v) ∨
   (l = 2 ∧ ∃ (k v p c : Nat) (x10 x11 x12 x13 x14 x15 x16 x17 x18 x19 x20 x21 x22 x23 x24 x25 x26 x27 x28 x29 x30 x31 x32 x33 x34 x35 x36 x37 x38 x39 x40 x41 x42 x43 x44 x45 x46 x47 x48 : Value), a' = { tmps := #[.string s, .int .i64 (p : Nat), undef, undef, .int .u64 0, .int .i64 0, .nilIface, .int .u64 (v : Nat), .int .u8 (c : Nat), .int .i64 (k : Nat), x10, x11, x12, x13, x14, x15, x16, x17, x18, x19, x20, x21, x22, x23, x24, x25, x26, x27, x28, x29, x30, x31, x32, x33, x34, x35, x36, x37, x38, x39, x40, x41, x42, x43, x44, x45, x46, x47, x48], defers := [] } ∧ 1 ≤ k ∧ k ≤ 10 ∧ c < 128 ∧ numR s a = if c = 0 ∧ 1 < k then (0, 0, 3) else (v, p, 0)) ∨
   (l = 1 ∧ ∃ (k v p : Int) (x8 : Value) (x10 x11 x12 x13 x14 x15 x16 x17 x18 x19 x20 x21 x22 x23 x24 x25 x26 x27 x28 x29 x30 x31 x32 x33 x34 x35 x36 x37 x38 x39 x40 x41 x42 x43 x44 x45 x46 x47 x48 : Value), a' = { tmps := #[.string s, .int .i64 p, undef, undef, .int .u64 0, .int .i64 0, .nilIface, .int .u64 v, x8, .int .i64 k, x10, x11, x12, x13, x14, x15, x16, x17, x18, x19, x20, x21, x22, x23, x24, x25, x26, x27, x28, x29, x30, x31, x32, x33, x34, x35, x36, x37, x38, x39, x40, x41, x42, x43, x44, x45, x46, x47, x48], defers := [] } ∧ numR s a = (0, 0, 3)))
theorem J0 (s:ByteArray) (a:Nat) (w:World) (k v p:Nat) (x8:Value) (x10 x11 x12 x13 x14 x15 x16 x17 x18 x19 x20 x21 x22 x23 x24 x25 x26 x27 x28 x29 x30 x31 x32 x33 x34 x35 x36 x37 x38 x39 x40 x41 x42 x43 x44 x45 x46 x47 x48:Value) (h1:1<=k) (h2:k<=9) (h3:p<=8000) (h4:v<2 ^ (7*k)) (h5:numR s a=run s (10-k) k p v) :
  J s a w 0 { tmps:=#[.string s,.int .i64 (p:Nat),undef,undef,.int .u64 0,.int .i64 0,.nilIface,.int .u64 (v:Nat),x8,.int .i64 (k:Nat),x10,x11,x12,x13,x14,x15,x16,x17,x18,x19,x20,x21,x22,x23,x24,x25,x26,x27,x28,x29,x30,x31,x32,x33,x34,x35,x36,x37,x38,x39,x40,x41,x42,x43,x44,x45,x46,x47,x48],defers:=[] } w :=
 ⟨rfl,.inl ⟨rfl,k,v,p,x8,x10,x11,x12,x13,x14,x15,x16,x17,x18,x19,x20,x21,x22,x23,x24,x25,x26,x27,x28,x29,x30,x31,x32,x33,x34,x35,x36,x37,x38,x39,x40,x41,x42,x43,x44,x45,x46,x47,x48,rfl,h1,h2,h3,h4,h5⟩⟩
theorem J2 (s:ByteArray) (a:Nat) (w:World) (k v p c:Nat) (x10 x11 x12 x13 x14 x15 x16 x17 x18 x19 x20 x21 x22 x23 x24 x25 x26 x27 x28 x29 x30 x31 x32 x33 x34 x35 x36 x37 x38 x39 x40 x41 x42 x43 x44 x45 x46 x47 x48:Value) (h1:1<=k) (h2:k<=10) (h3:c<128) (h5:numR s a=if c=0/\1<k then (0,0,3) else (v,p,0)) :
  J s a w 2 { tmps:=#[.string s,.int .i64 (p:Nat),undef,undef,.int .u64 0,.int .i64 0,.nilIface,.int .u64 (v:Nat),.int .u8 (c:Nat),.int .i64 (k:Nat),x10,x11,x12,x13,x14,x15,x16,x17,x18,x19,x20,x21,x22,x23,x24,x25,x26,x27,x28,x29,x30,x31,x32,x33,x34,x35,x36,x37,x38,x39,x40,x41,x42,x43,x44,x45,x46,x47,x48],defers:=[] } w :=
 ⟨rfl,.inr (.inl ⟨rfl,k,v,p,c,x10,x11,x12,x13,x14,x15,x16,x17,x18,x19,x20,x21,x22,x23,x24,x25,x26,x27,x28,x29,x30,x31,x32,x33,x34,x35,x36,x37,x38,x39,x40,x41,x42,x43,x44,x45,x46,x47,x48,rfl,h1,h2,h3,h5⟩)⟩
theorem J1 (s:ByteArray) (a:Nat) (w:World) (k v p:Int) (x8:Value) (x10 x11 x12 x13 x14 x15 x16 x17 x18 x19 x20 x21 x22 x23 x24 x25 x26 x27 x28 x29 x30 x31 x32 x33 x34 x35 x36 x37 x38 x39 x40 x41 x42 x43 x44 x45 x46 x47 x48:Value) (h5:numR s a=(0,0,3)) :
  J s a w 1 { tmps:=#[.string s,.int .i64 p,undef,undef,.int .u64 0,.int .i64 0,.nilIface,.int .u64 v,x8,.int .i64 k,x10,x11,x12,x13,x14,x15,x16,x17,x18,x19,x20,x21,x22,x23,x24,x25,x26,x27,x28,x29,x30,x31,x32,x33,x34,x35,x36,x37,x38,x39,x40,x41,x42,x43,x44,x45,x46,x47,x48],defers:=[] } w :=
 ⟨rfl,.inr (.inr ⟨rfl,k,v,p,x8,x10,x11,x12,x13,x14,x15,x16,x17,x18,x19,x20,x21,x22,x23,x24,x25,x26,x27,x28,x29,x30,x31,x32,x33,x34,x35,x36,x37,x38,x39,x40,x41,x42,x43,x44,x45,x46,x47,x48,rfl,h5⟩)⟩
def μ (l:Nat) (a':Act) (_:World):Nat:=if l=0 then 20-(intOf (a'.tmps.getD 9 undef)).toNat else if l=2 then 1 else 0
theorem bits_any (s:ByteArray) (a:Nat) (w:World) (hs:s.size<=8000) :
  Calls Tryz.prog 210 #[.string s,.int .i64 a] w fun e w'=>e=.returned (bitsV (numR s a))/\w'=w:=by
 go_enter Tryz.func210,Tryz.ntmps210
 go_wp2
 refine wp_scope_labels (J s a w) μ ?_ ?_
 ·by_cases hp:a<s.size
  ·have hb:s[a].toNat<256:=s[a].toNat_lt
   have hand:=and_low s[a].toNat hb
   have hy:s[a].toNat%128<=127:=by omega
   have hor:bits BinOp.or IntKind.u64 0 ((s[a].toNat%128:Nat):Int)=((s[a].toNat%128:Nat):Int):=by
    have:=u64_or_nat 0 (s[a].toNat%128) (by decide) (by omega)
    rw[Nat.zero_or]at this
    exact this
   obtain⟨y,hyy⟩:∃ y,y=s[a].toNat%128:=⟨_,rfl⟩
   rw[<-hyy]at hand hy hor
   have HY:Hid (y=s[a].toNat%128):=hyy
   clear hyy
   have HX:Hid (0+s[a].toNat%128*2 ^ (7*0)=y):=by unfold Hid;rw[HY.out];simp
   by_cases hc:s[a].toNat<128
   ·go_wp2
    go_step3
    go_wp2
    go_step3
    exact J2 s a w 1 y (a+1) s[a].toNat _ _ _ _ _ _ _ _ _ _ _ _ _ _ _ _ _ _ _ _ _ _ _ _ _ _ _ _ _ _ _ _ _ _ _ _ _ _ _ (by omega) (by omega) hc (by rw[if_neg (by omega)];exact(run_last s 9 0 a 0 hp (by omega) hc (by omega)).trans (by rw[HX.out]))
   ·go_wp2
    go_step3
    go_wp2
    go_step3
    exact J0 s a w 1 y (a+1) _ _ _ _ _ _ _ _ _ _ _ _ _ _ _ _ _ _ _ _ _ _ _ _ _ _ _ _ _ _ _ _ _ _ _ _ _ _ _ _ (by omega) (by omega) (by omega) (by omega) ((run_more s 9 0 a 0 hp (by omega) (by omega)).trans (by rw[HX.out]))
  ·have HE:Hid (numR s a=(0,0,4)):=run_end s 9 0 a 0 (by omega)
   go_wp2
   go_step3
   go_wp2
   rw[toLabel_ret]
   go_ret3
   exact⟨by rw[HE.out];rfl,rfl⟩
 ·intro l a' w' hJ
  obtain⟨rfl,hJ⟩:=hJ
  rcases hJ with⟨rfl,k,v,p,x8,x10,x11,x12,x13,x14,x15,x16,x17,x18,x19,x20,x21,x22,x23,x24,x25,x26,x27,x28,x29,x30,x31,x32,x33,x34,x35,x36,x37,x38,x39,x40,x41,x42,x43,x44,x45,x46,x47,x48,rfl,h1,h2,h3,h4,h5⟩|⟨rfl,k,v,p,c,x10,x11,x12,x13,x14,x15,x16,x17,x18,x19,x20,x21,x22,x23,x24,x25,x26,x27,x28,x29,x30,x31,x32,x33,x34,x35,x36,x37,x38,x39,x40,x41,x42,x43,x44,x45,x46,x47,x48,rfl,h1,h2,h3,h5⟩|⟨rfl,k,v,p,x8,x10,x11,x12,x13,x14,x15,x16,x17,x18,x19,x20,x21,x22,x23,x24,x25,x26,x27,x28,x29,x30,x31,x32,x33,x34,x35,x36,x37,x38,x39,x40,x41,x42,x43,x44,x45,x46,x47,x48,rfl,h5⟩
  ·refine⟨_,rfl,?_⟩
   have HR:=hide h5
   have HV:=hide h4
   have hvb:v<=9223372036854775807:=by have:=pow_le k h2;omega
   clear h5 h4
   obtain⟨f,hf⟩:∃ f,10-k=f+1:=⟨9-k,by omega⟩
   have HF:=hide hf
   clear hf
   by_cases hp:p<s.size
   ·have hb:s[p].toNat<256:=s[p].toNat_lt
    by_cases h9:k=9/\1<s[p].toNat
    ·have hk9:((k:Int)==9)=true:=beq_iff_eq.2 (by omega)
     have hc1:(1:Int)<s[p].toNat:=by omega
     have HE:Hid (numR s a=(0,0,3)):=HR.out.trans (by rw[HF.out];exact run_nine s f k p v hp h9.1 h9.2)
     have HH:=hide h9
     clear h9
     go_wp2
     go_step3
     exact⟨J1 s a _ _ _ _ _ _ _ _ _ _ _ _ _ _ _ _ _ _ _ _ _ _ _ _ _ _ _ _ _ _ _ _ _ _ _ _ _ _ _ _ _ _ _ _ HE.out,by simp[μ,intOf];omega⟩
    ·obtain⟨hm1,hm2⟩:=next_small v s[p].toNat k HV.out h2 h9
     have hand:=and_low s[p].toNat hb
     have hy:s[p].toNat%128<=127:=by omega
     have hsh:=shl_part (s[p].toNat%128) k hm1
     have hor:=or_part v s[p].toNat k HV.out hm1 hvb
     obtain⟨z,hz⟩:∃ z,z=s[p].toNat%128*2 ^ (7*k):=⟨_,rfl⟩
     obtain⟨x,hx⟩:∃ x,x=v+s[p].toNat%128*2 ^ (7*k):=⟨_,rfl⟩
     rw[<-hx,<-hz]at hor
     rw[<-hx]at hm2
     rw[<-hz]at hm1 hsh
     obtain⟨y,hyy⟩:∃ y,y=s[p].toNat%128:=⟨_,rfl⟩
     rw[<-hyy]at hand hy hsh
     have HX:=hide hx
     have HY:=hide hyy
     have HZ:=hide hz
     have H9:=hide h9
     clear hx hyy hz h9
     by_cases hc:s[p].toNat<128
     ·have HE:Hid (numR s a=if s[p].toNat=0/\1<k+1 then (0,0,3) else (x,p+1,0)):=HR.out.trans (by
       rw[HF.out]
       by_cases hq:s[p].toNat=0/\0<k
       ·rw[if_pos ⟨hq.1,by omega⟩];exact run_zero s f k p v hp hq.1 hq.2
       ·rw[if_neg (by omega),HX.out];exact run_last s f k p v hp H9.out hc hq)
      by_cases e9:k=9
      ·have hk9:((k:Int)==9)=true:=beq_iff_eq.2 (by omega)
       have hcd:decide ((1:Int)<s[p].toNat)=false:=decide_eq_false (by have:=H9.out;omega)
       have H99:=hide e9
       clear e9
       go_wp2
       go_step3
       exact⟨J2 s a _ (k+1) x (p+1) s[p].toNat _ _ _ _ _ _ _ _ _ _ _ _ _ _ _ _ _ _ _ _ _ _ _ _ _ _ _ _ _ _ _ _ _ _ _ _ _ _ _ (by omega) (by omega) hc HE.out,by simp[μ,intOf];omega⟩
      ·have hk9:((k:Int)==9)=false:=beq_eq_false_iff_ne.2 (by omega)
       go_wp2
       go_step3
       exact⟨J2 s a _ (k+1) x (p+1) s[p].toNat _ _ _ _ _ _ _ _ _ _ _ _ _ _ _ _ _ _ _ _ _ _ _ _ _ _ _ _ _ _ _ _ _ _ _ _ _ _ _ (by omega) (by omega) hc HE.out,by simp[μ,intOf];omega⟩
     ·have hn9:¬k=9:=by have:=H9.out;omega
      have hk9:((k:Int)==9)=false:=beq_eq_false_iff_ne.2 (by omega)
      have HE:Hid (numR s a=run s f (k+1) (p+1) x):=HR.out.trans (by rw[HF.out,HX.out];exact run_more s f k p v hp hn9 (by omega))
      go_wp2
      go_step3
      exact⟨J0 s a _ (k+1) x (p+1) _ _ _ _ _ _ _ _ _ _ _ _ _ _ _ _ _ _ _ _ _ _ _ _ _ _ _ _ _ _ _ _ _ _ _ _ _ _ _ _ (by omega) (by omega) (by omega) (by rw[HX.out];exact next_lt _ _ _ HV.out) (by rw[HE.out,show 10-(k+1)=f from by have:=HF.out;omega]),by simp[μ,intOf];omega⟩
   ·have HE:Hid (numR s a=(0,0,4)):=HR.out.trans (by rw[HF.out];exact run_end s f k p v (by omega))
    go_wp2
    rw[toLabel_ret]
    go_ret3
    exact⟨by rw[HE.out];rfl,rfl⟩
  ·refine⟨_,rfl,?_⟩
   by_cases hz:c=0/\1<k
   ·have HE:Hid (numR s a=(0,0,3)):=h5.trans (if_pos hz)
    have hcz:((c:Int)==0)=true:=beq_iff_eq.2 (by omega)
    have hk1:(1:Int)<k:=by omega
    have HZ:=hide hz
    clear h5 hz
    go_wp2
    go_step3
    exact⟨J1 s a _ _ _ _ _ _ _ _ _ _ _ _ _ _ _ _ _ _ _ _ _ _ _ _ _ _ _ _ _ _ _ _ _ _ _ _ _ _ _ _ _ _ _ _ HE.out,by simp[μ]⟩
   ·have HE:Hid (numR s a=(v,p,0)):=h5.trans (if_neg hz)
    clear h5
    by_cases cz:c=0
    ·have hcz:((c:Int)==0)=true:=beq_iff_eq.2 (by omega)
     have hk1:¬1<k:=by omega
     have hkd:decide ((1:Int)<k)=false:=decide_eq_false (by omega)
     have HC:=hide cz
     clear cz hz
     go_wp2
     rw[toLabel_ret]
     go_ret3
     exact⟨by rw[HE.out];rfl,rfl⟩
    ·have hcz:((c:Int)==0)=false:=beq_eq_false_iff_ne.2 (by omega)
     go_wp2
     rw[toLabel_ret]
     go_ret3
     exact⟨by rw[HE.out];rfl,rfl⟩
  ·refine⟨_,rfl,?_⟩
   have HE:=hide h5
   clear h5
   go_wp2
   rw[toLabel_ret]
   go_ret3
   exact⟨by rw[HE.out];rfl,rfl⟩
end Go.Proofs.YtpddanmnlkcdpaaGreatDoor.Gn

