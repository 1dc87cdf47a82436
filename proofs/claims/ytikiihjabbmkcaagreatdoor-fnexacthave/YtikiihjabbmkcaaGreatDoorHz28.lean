/- Texts put together: GetBits, AsFacts, AsWalks, GetNumWalks. -/
import Derived.Test.YtikiihjabbmkcaaGreatDoorHz27
import Derived.Test.YtikiihjabbmkcaaGreatDoorProg
import Derived.WalkKit
import Derived.WalkSpells
import Derived.LaidEql
import Derived.Stop.Asserts
import Derived.RowKitTokens
set_option maxRecDepth 100000
set_option maxHeartbeats 8000000
namespace Go.Proofs.YtikiihjabbmkcaaGreatDoor.Gn
open Go.RowKit Go.Proofs.YtikiihjabbmkcaaGreatDoor.Jump
def errV (c:Int):Value:=if c=0 then .nilIface else .iface 228 (.agg #[.int .i64 c])
def bitsV (r:Nat × Nat × Int):Value:=.tuple #[.int .u64 r.1,.int .i64 r.2.1,errV r.2.2]
def J (s : ByteArray) (a : Nat) (w : World) (l : Nat) (a' : Act) (w' : World) : Prop :=
  w' = w ∧
  ((l = 0 ∧ ∃ (k v p : Nat) (x8 : Value) (x10 x11 x12 x13 x14 x15 x16 x17 x18 x19 x20 x21 x22 x23 x24 x25 x26 x27 x28 x29 x30 x31 x32 x33 x34 x35 x36 x37 x38 x39 x40 x41 x42 x43 x44 x45 x46 x47 x48 : Value), a' = { tmps := #[.string s, .int .i64 (p : Nat), undef, undef, .int .u64 0, .int .i64 0, .nilIface, .int .u64 (v : Nat), x8, .int .i64 (k : Nat), x10, x11, x12, x13, x14, x15, x16, x17, x18, x19, x20, x21, x22, x23, x24, x25, x26, x27, x28, x29, x30, x31, x32, x33, x34, x35, x36, x37, x38, x39, x40, x41, x42, x43, x44, x45, x46, x47, x48], defers := [] } ∧ 1 ≤ k ∧ k ≤ 9 ∧ p ≤ 8000 ∧ v < 2 ^ (7 * k) ∧ numR s a = run s (10 - k) k p v) ∨
   (l = 2 ∧ ∃ (k v p c : Nat) (x10 x11 x12 x13 x14 x15 x16 x17 x18 x19 x20 x21 x22 x23 x24 x25 x26 x27 x28 x29 x30 x31 x32 x33 x34 x35 x36 x37 x38 x39 x40 x41 x42 x43 x44 x45 x46 x47 x48 : Value), a' = { tmps := #[.string s, .int .i64 (p : Nat), undef, undef, .int .u64 0, .int .i64 0, .nilIface, .int .u64 (v : Nat), .int .u8 (c : Nat), .int .i64 (k : Nat), x10, x11, x12, x13, x14, x15, x16, x17, x18, x19, x20, x21, x22, x23, x24, x25, x26, x27, x28, x29, x30, x31, x32, x33, x34, x35, x36, x37, x38, x39, x40, x41, x42, x43, x44, x45, x46, x47, x48], defers := [] } ∧ 1 ≤ k ∧ k ≤ 10 ∧ c < 128 ∧ numR s a = if c = 0 ∧ 1 < k then (0, 0, 3) else (v, p, 0)) ∨
   (l = 1 ∧ ∃ (k v p : Int) (x8 : Value) (x10 x11 x12 x13 x14 x15 x16 x17 x18 x19 x20 x21 x22 x23 x24 x25 x26 x27 x28 x29 x30 x31 x32 x33 x34 x35 x36 x37 x38 x39 x40 x41 x42 x43 x44 x45 x46 x47 x48 : Value), a' = { tmps := #[.string s, .int .i64 p, undef, undef, .int .u64 0, .int .i64 0, .nilIface, .int .u64 v, x8, .int .i64 k, x10, x11, x12, x13, x14, x15, x16, x17, x18, x19, x20, x21, x22, x23, x24, x25, x26, x27, x28, x29, x30, x31, x32, x33, x34, x35, x36, x37, x38, x39, x40, x41, x42, x43, x44, x45, x46, x47, x48], defers := [] } ∧ numR s a = (0, 0, 3)))
theorem J0 (s:ByteArray) (a:Nat) (w:World) (k v p:Nat) (x8:Value) (x10 x11 x12 x13 x14 x15 x16 x17 x18 x19 x20 x21 x22 x23 x24 x25 x26 x27 x28 x29 x30 x31 x32 x33 x34 x35 x36 x37 x38 x39 x40 x41 x42 x43 x44 x45 x46 x47 x48:Value) (h1:1<=k) (h2:k<=9) (h3:p<=8000) (h4:v<2 ^ (7*k)) (h5:numR s a=run s (10-k) k p v) :
  J s a w 0 { tmps:=#[.string s,.int .i64 (p:Nat),undef,undef,.int .u64 0,.int .i64 0,.nilIface,.int .u64 (v:Nat),x8,.int .i64 (k:Nat),x10,x11,x12,x13,x14,x15,x16,x17,x18,x19,x20,x21,x22,x23,x24,x25,x26,x27,x28,x29,x30,x31,x32,x33,x34,x35,x36,x37,x38,x39,x40,x41,x42,x43,x44,x45,x46,x47,x48],defers:=[] } w :=
 ⟨rfl,.inl ⟨rfl,k,v,p,x8,x10,x11,x12,x13,x14,x15,x16,x17,x18,x19,x20,x21,x22,x23,x24,x25,x26,x27,x28,x29,x30,x31,x32,x33,x34,x35,x36,x37,x38,x39,x40,x41,x42,x43,x44,x45,x46,x47,x48,rfl,h1,h2,h3,h4,h5⟩⟩
theorem J2 (s:ByteArray) (a:Nat) (w:World) (k v p c:Nat) (x10 x11 x12 x13 x14 x15 x16 x17 x18 x19 x20 x21 x22 x23 x24 x25 x26 x27 x28 x29 x30 x31 x32 x33 x34 x35 x36 x37 x38 x39 x40 x41 x42 x43 x44 x45 x46 x47 x48:Value) (h1:1<=k) (h2:k<=10) (h3:c<128) (h5:numR s a=if c=0/\1<k then (0,0,3) else (v,p,0)) :
  J s a w 2 { tmps:=#[.string s,.int .i64 (p:Nat),undef,undef,.int .u64 0,.int .i64 0,.nilIface,.int .u64 (v:Nat),.int .u8 (c:Nat),.int .i64 (k:Nat),x10,x11,x12,x13,x14,x15,x16,x17,x18,x19,x20,x21,x22,x23,x24,x25,x26,x27,x28,x29,x30,x31,x32,x33,x34,x35,x36,x37,x38,x39,x40,x41,x42,x43,x44,x45,x46,x47,x48],defers:=[] } w :=
 ⟨rfl,.inr (.inl ⟨rfl,k,v,p,c,x10,x11,x12,x13,x14,x15,x16,x17,x18,x19,x20,x21,x22,x23,x24,x25,x26,x27,x28,x29,x30,x31,x32,x33,x34,x35,x36,x37,x38,x39,x40,x41,x42,x43,x44,x45,x46,x47,x48,rfl,h1,h2,h3,h5⟩)⟩
theorem J1 (s:ByteArray) (a:Nat) (w:World) (k v p:Int) (x8:Value) (x10 x11 x12 x13 x14 x15 x16 x17 x18 x19 x20 x21 x22 x23 x24 x25 x26 x27 x28 x29 x30 x31 x32 x33 x34 x35 x36 x37 x38 x39 x40 x41 x42 x43 x44 x45 x46 x47 x48:Value) (h5:numR s a=(0,0,3)) :
  J s a w 1 { tmps:=#[.string s,.int .i64 p,undef,undef,.int .u64 0,.int .i64 0,.nilIface,.int .u64 v,x8,.int .i64 k,x10,x11,x12,x13,x14,x15,x16,x17,x18,x19,x20,x21,x22,x23,x24,x25,x26,x27,x28,x29,x30,x31,x32,x33,x34,x35,x36,x37,x38,x39,x40,x41,x42,x43,x44,x45,x46,x47,x48],defers:=[] } w :=
 ⟨rfl,.inr (.inr ⟨rfl,k,v,p,x8,x10,x11,x12,x13,x14,x15,x16,x17,x18,x19,x20,x21,x22,x23,x24,x25,x26,x27,x28,x29,x30,x31,x32,x33,x34,x35,x36,x37,x38,x39,x40,x41,x42,x43,x44,x45,x46,x47,x48,rfl,h5⟩)⟩
def μ (l:Nat) (a':Act) (_:World):Nat:=if l=0 then 20-(intOf (a'.tmps.getD 9 undef)).toNat else if l=2 then 1 else 0
theorem bits_any (s:ByteArray) (a:Nat) (w:World) (hs:s.size<=8000) :
  Calls Tryz.prog 213 #[.string s,.int .i64 a] w fun e w'=>e=.returned (bitsV (numR s a))/\w'=w:=by
 go_enter Tryz.func213,Tryz.ntmps213
 go_wp2
 refine wp_scope_labels (J s a w) μ ?_ ?_
 ·by_cases hp:a<s.size
  ·have hb:s[a].toNat<256:=s[a].toNat_lt
   have hand:=and_low s[a].toNat hb
   have hy:s[a].toNat%128<=127:=by omega
   have hor:bits BinOp.or IntKind.u64 0 ((s[a].toNat%128:Nat):Int)=((s[a].toNat%128:Nat):Int):=by
    have:=u64_or_nat 0 (s[a].toNat%128) (by decide) (by omega)
    rw[Nat.zero_or]at this
    exact this
   obtain⟨y,hyy⟩:∃ y,y=s[a].toNat%128:=⟨_,rfl⟩
   rw[<-hyy]at hand hy hor
   have HY:Hid (y=s[a].toNat%128):=hyy
   clear hyy
   have HX:Hid (0+s[a].toNat%128*2 ^ (7*0)=y):=by unfold Hid;rw[HY.out];simp
   by_cases hc:s[a].toNat<128
   ·go_wp2
    go_step3
    go_wp2
    go_step3
    exact J2 s a w 1 y (a+1) s[a].toNat _ _ _ _ _ _ _ _ _ _ _ _ _ _ _ _ _ _ _ _ _ _ _ _ _ _ _ _ _ _ _ _ _ _ _ _ _ _ _ (by omega) (by omega) hc (by rw[if_neg (by omega)];exact(run_last s 9 0 a 0 hp (by omega) hc (by omega)).trans (by rw[HX.out]))
   ·go_wp2
    go_step3
    go_wp2
    go_step3
    exact J0 s a w 1 y (a+1) _ _ _ _ _ _ _ _ _ _ _ _ _ _ _ _ _ _ _ _ _ _ _ _ _ _ _ _ _ _ _ _ _ _ _ _ _ _ _ _ (by omega) (by omega) (by omega) (by omega) ((run_more s 9 0 a 0 hp (by omega) (by omega)).trans (by rw[HX.out]))
  ·have HE:Hid (numR s a=(0,0,4)):=run_end s 9 0 a 0 (by omega)
   go_wp2
   go_step3
   go_wp2
   rw[toLabel_ret]
   go_ret3
   exact⟨by rw[HE.out];rfl,rfl⟩
 ·intro l a' w' hJ
  obtain⟨rfl,hJ⟩:=hJ
  rcases hJ with⟨rfl,k,v,p,x8,x10,x11,x12,x13,x14,x15,x16,x17,x18,x19,x20,x21,x22,x23,x24,x25,x26,x27,x28,x29,x30,x31,x32,x33,x34,x35,x36,x37,x38,x39,x40,x41,x42,x43,x44,x45,x46,x47,x48,rfl,h1,h2,h3,h4,h5⟩|⟨rfl,k,v,p,c,x10,x11,x12,x13,x14,x15,x16,x17,x18,x19,x20,x21,x22,x23,x24,x25,x26,x27,x28,x29,x30,x31,x32,x33,x34,x35,x36,x37,x38,x39,x40,x41,x42,x43,x44,x45,x46,x47,x48,rfl,h1,h2,h3,h5⟩|⟨rfl,k,v,p,x8,x10,x11,x12,x13,x14,x15,x16,x17,x18,x19,x20,x21,x22,x23,x24,x25,x26,x27,x28,x29,x30,x31,x32,x33,x34,x35,x36,x37,x38,x39,x40,x41,x42,x43,x44,x45,x46,x47,x48,rfl,h5⟩
  ·refine⟨_,rfl,?_⟩
   have HR:=hide h5
   have HV:=hide h4
   have hvb:v<=9223372036854775807:=by have:=pow_le k h2;omega
   clear h5 h4
   obtain⟨f,hf⟩:∃ f,10-k=f+1:=⟨9-k,by omega⟩
   have HF:=hide hf
   clear hf
   by_cases hp:p<s.size
   ·have hb:s[p].toNat<256:=s[p].toNat_lt
    by_cases h9:k=9/\1<s[p].toNat
    ·have hk9:((k:Int)==9)=true:=beq_iff_eq.2 (by omega)
     have hc1:(1:Int)<s[p].toNat:=by omega
     have HE:Hid (numR s a=(0,0,3)):=HR.out.trans (by rw[HF.out];exact run_nine s f k p v hp h9.1 h9.2)
     have HH:=hide h9
     clear h9
     go_wp2
     go_step3
     exact⟨J1 s a _ _ _ _ _ _ _ _ _ _ _ _ _ _ _ _ _ _ _ _ _ _ _ _ _ _ _ _ _ _ _ _ _ _ _ _ _ _ _ _ _ _ _ _ HE.out,by simp[μ,intOf];omega⟩
    ·obtain⟨hm1,hm2⟩:=next_small v s[p].toNat k HV.out h2 h9
     have hand:=and_low s[p].toNat hb
     have hy:s[p].toNat%128<=127:=by omega
     have hsh:=shl_part (s[p].toNat%128) k hm1
     have hor:=or_part v s[p].toNat k HV.out hm1 hvb
     obtain⟨z,hz⟩:∃ z,z=s[p].toNat%128*2 ^ (7*k):=⟨_,rfl⟩
     obtain⟨x,hx⟩:∃ x,x=v+s[p].toNat%128*2 ^ (7*k):=⟨_,rfl⟩
     rw[<-hx,<-hz]at hor
     rw[<-hx]at hm2
     rw[<-hz]at hm1 hsh
     obtain⟨y,hyy⟩:∃ y,y=s[p].toNat%128:=⟨_,rfl⟩
     rw[<-hyy]at hand hy hsh
     have HX:=hide hx
     have HY:=hide hyy
     have HZ:=hide hz
     have H9:=hide h9
     clear hx hyy hz h9
     by_cases hc:s[p].toNat<128
     ·have HE:Hid (numR s a=if s[p].toNat=0/\1<k+1 then (0,0,3) else (x,p+1,0)):=HR.out.trans (by
       rw[HF.out]
       by_cases hq:s[p].toNat=0/\0<k
       ·rw[if_pos ⟨hq.1,by omega⟩];exact run_zero s f k p v hp hq.1 hq.2
       ·rw[if_neg (by omega),HX.out];exact run_last s f k p v hp H9.out hc hq)
      by_cases e9:k=9
      ·have hk9:((k:Int)==9)=true:=beq_iff_eq.2 (by omega)
       have hcd:decide ((1:Int)<s[p].toNat)=false:=decide_eq_false (by have:=H9.out;omega)
       have H99:=hide e9
       clear e9
       go_wp2
       go_step3
       exact⟨J2 s a _ (k+1) x (p+1) s[p].toNat _ _ _ _ _ _ _ _ _ _ _ _ _ _ _ _ _ _ _ _ _ _ _ _ _ _ _ _ _ _ _ _ _ _ _ _ _ _ _ (by omega) (by omega) hc HE.out,by simp[μ,intOf];omega⟩
      ·have hk9:((k:Int)==9)=false:=beq_eq_false_iff_ne.2 (by omega)
       go_wp2
       go_step3
       exact⟨J2 s a _ (k+1) x (p+1) s[p].toNat _ _ _ _ _ _ _ _ _ _ _ _ _ _ _ _ _ _ _ _ _ _ _ _ _ _ _ _ _ _ _ _ _ _ _ _ _ _ _ (by omega) (by omega) hc HE.out,by simp[μ,intOf];omega⟩
     ·have hn9:¬k=9:=by have:=H9.out;omega
      have hk9:((k:Int)==9)=false:=beq_eq_false_iff_ne.2 (by omega)
      have HE:Hid (numR s a=run s f (k+1) (p+1) x):=HR.out.trans (by rw[HF.out,HX.out];exact run_more s f k p v hp hn9 (by omega))
      go_wp2
      go_step3
      exact⟨J0 s a _ (k+1) x (p+1) _ _ _ _ _ _ _ _ _ _ _ _ _ _ _ _ _ _ _ _ _ _ _ _ _ _ _ _ _ _ _ _ _ _ _ _ _ _ _ _ (by omega) (by omega) (by omega) (by rw[HX.out];exact next_lt _ _ _ HV.out) (by rw[HE.out,show 10-(k+1)=f from by have:=HF.out;omega]),by simp[μ,intOf];omega⟩
   ·have HE:Hid (numR s a=(0,0,4)):=HR.out.trans (by rw[HF.out];exact run_end s f k p v (by omega))
    go_wp2
    rw[toLabel_ret]
    go_ret3
    exact⟨by rw[HE.out];rfl,rfl⟩
  ·refine⟨_,rfl,?_⟩
   by_cases hz:c=0/\1<k
   ·have HE:Hid (numR s a=(0,0,3)):=h5.trans (if_pos hz)
    have hcz:((c:Int)==0)=true:=beq_iff_eq.2 (by omega)
    have hk1:(1:Int)<k:=by omega
    have HZ:=hide hz
    clear h5 hz
    go_wp2
    go_step3
    exact⟨J1 s a _ _ _ _ _ _ _ _ _ _ _ _ _ _ _ _ _ _ _ _ _ _ _ _ _ _ _ _ _ _ _ _ _ _ _ _ _ _ _ _ _ _ _ _ HE.out,by simp[μ]⟩
   ·have HE:Hid (numR s a=(v,p,0)):=h5.trans (if_neg hz)
    clear h5
    by_cases cz:c=0
    ·have hcz:((c:Int)==0)=true:=beq_iff_eq.2 (by omega)
     have hk1:¬1<k:=by omega
     have hkd:decide ((1:Int)<k)=false:=decide_eq_false (by omega)
     have HC:=hide cz
     clear cz hz
     go_wp2
     rw[toLabel_ret]
     go_ret3
     exact⟨by rw[HE.out];rfl,rfl⟩
    ·have hcz:((c:Int)==0)=false:=beq_eq_false_iff_ne.2 (by omega)
     go_wp2
     rw[toLabel_ret]
     go_ret3
     exact⟨by rw[HE.out];rfl,rfl⟩
  ·refine⟨_,rfl,?_⟩
   have HE:=hide h5
   clear h5
   go_wp2
   rw[toLabel_ret]
   go_ret3
   exact⟨by rw[HE.out];rfl,rfl⟩
end Go.Proofs.YtikiihjabbmkcaaGreatDoor.Gn


/- Closed facts on what errors.As reads of the types that it meets here, each reckoned by the kernel, and three small laws on reflected values. -/
namespace Go.Proofs.YtikiihjabbmkcaaGreatDoor
open Go.RowKit Go.Extern.Stop Go.Stop Go.Extern
theorem Tryz.valueOfP (t:Addr) (w:World):(ReflectliteValue.unpack (.iface 230 (.pointer (some t)))).run Tryz.prog w
  = .ok (.agg #[.pointer (some ⟨4,230,none⟩),.pointer (some ⟨w.heap.size,0,none⟩),.int .u64 150]) (w.alloc (.cells #[.pointer (some t)] 230)):=by kernel_rfl
theorem Tryz.typeP (a:Addr) (w:World):(ReflectliteValue.methodAny (ReflectliteValue.valueError "reflectlite.Value.Type" 0) (fun t _ _ _=>ReflectliteType.toType t) #[.agg #[.pointer (some ⟨4,230,none⟩),.pointer (some a),.int .u64 150]]).run Tryz.prog w
  = .ok (.iface 279 (.agg #[.pointer (some ⟨4,230,none⟩)])) w:=by kernel_rfl
theorem Tryz.methodKind (h:Value) (w:World):(Go.method 435 279 (.agg #[h]) "Kind").run Tryz.prog w=.ok (267,h) w:=by kernel_rfl
theorem Tryz.kindP (w:World):((ReflectliteType.abiMethod fun t=>(fun a:Nat=>Value.int IntKind.u8 (a:Int)) <$> Rtype.kind t) #[.pointer (some ⟨4,230,none⟩)]).run Tryz.prog w=.ok (.int .u8 22) w:=by kernel_rfl
theorem Tryz.kindD (w:World):((ReflectliteType.abiMethod fun t=>(fun a:Nat=>Value.int IntKind.u8 (a:Int)) <$> Rtype.kind t) #[.pointer (some ⟨4,228,none⟩)]).run Tryz.prog w=.ok (.int .u8 25) w:=by kernel_rfl
theorem Tryz.partsP (a:Addr) (w:World):(ReflectliteValue.parts (.agg #[.pointer (some ⟨4,230,none⟩),.pointer (some a),.int .u64 150])).run Tryz.prog w=.ok (some (230,a,150)) w:=by kernel_rfl
theorem Tryz.isNilP (a p:Addr) (W:World) (ha:W.cell? a=some (.pointer (some p))) :
  (ReflectliteValue.method (ReflectliteValue.valueError "reflectlite.Value.IsNil" 0) ReflectliteValue.isNil #[.agg #[.pointer (some ⟨4,230,none⟩),.pointer (some a),.int .u64 150]]).run Tryz.prog W=.ok (.bool false) W:=by
 refine Eq.trans (b:=(Bind.bind (ReflectliteValue.parts (.agg #[.pointer (some ⟨4,230,none⟩),.pointer (some a),.int .u64 150])) _).run Tryz.prog W) rfl ?_
 simp only[Sem.run_bind,Tryz.partsP,Result.andThen]
 simp[ReflectliteValue.isNil,loadVar,isAgg,underlying,Tryz.underlying230,ha,Result.andThen]
theorem Tryz.methodElem (h:Value) (w:World):(Go.method 435 279 (.agg #[h]) "Elem").run Tryz.prog w=.ok (277,.agg #[h]) w:=by kernel_rfl
theorem Tryz.methodImplements (h:Value) (w:World):(Go.method 435 279 (.agg #[h]) "Implements").run Tryz.prog w=.ok (278,.agg #[h]) w:=by kernel_rfl
theorem Tryz.methodAssignableTo (h:Value) (w:World):(Go.method 435 279 (.agg #[h]) "AssignableTo").run Tryz.prog w=.ok (275,.agg #[h]) w:=by kernel_rfl
theorem Tryz.elemP (w:World):(ReflectliteType.method ReflectliteType.elem #[.agg #[.pointer (some ⟨4,230,none⟩)]]).run Tryz.prog w=.ok (.iface 279 (.agg #[.pointer (some ⟨4,228,none⟩)])) w:=by kernel_rfl
theorem Tryz.implementsD (w:World):(ReflectliteType.relation "Implements" ReflectliteType.implements_ #[.agg #[.pointer (some ⟨4,228,none⟩)],.iface 279 (.agg #[.pointer (some ⟨4,198,none⟩)])]).run Tryz.prog w=.ok (.bool true) w:=by kernel_rfl
theorem Tryz.typeOfD (v:Value) (w:World):(ReflectliteType.typeOf #[.iface 228 v]).run Tryz.prog w=.ok (.iface 279 (.agg #[.pointer (some ⟨4,228,none⟩)])) w:=by kernel_rfl
theorem Tryz.assignableD (w:World):(ReflectliteType.relation "AssignableTo" ReflectliteType.assignableTo #[.agg #[.pointer (some ⟨4,228,none⟩)],.iface 279 (.agg #[.pointer (some ⟨4,228,none⟩)])]).run Tryz.prog w=.ok (.bool true) w:=by kernel_rfl
theorem Tryz.valueOfD (c:Int) (w:World):(ReflectliteValue.unpack (.iface 228 (.agg #[.int .i64 c]))).run Tryz.prog w
  = .ok (.agg #[.pointer (some ⟨4,228,none⟩),.pointer (some ⟨w.heap.size,0,none⟩),.int .u64 153]) (w.alloc (.cells #[.int .i64 c] 228)):=by kernel_rfl
theorem Tryz.elemOfP (w:World):(Rtype.elem? 230).run Tryz.prog w=.ok (some 228) w:=by kernel_rfl
theorem Tryz.mkD (p:Addr) (w:World):(ReflectliteValue.mk 228 p ReflectliteValue.flagAddr).run Tryz.prog w=.ok (.agg #[.pointer (some ⟨4,228,none⟩),.pointer (some p),.int .u64 409]) w:=by kernel_rfl
theorem Tryz.elemVP (a p:Addr) (W:World) (ha:W.cell? a=some (.pointer (some p))) :
  (ReflectliteValue.method (ReflectliteValue.valueError "reflectlite.Value.Elem" 0) ReflectliteValue.elem #[.agg #[.pointer (some ⟨4,230,none⟩),.pointer (some a),.int .u64 150]]).run Tryz.prog W
   = .ok (.agg #[.pointer (some ⟨4,228,none⟩),.pointer (some p),.int .u64 409]) W:=by
 refine Eq.trans (b:=(Bind.bind (ReflectliteValue.parts (.agg #[.pointer (some ⟨4,230,none⟩),.pointer (some a),.int .u64 150])) _).run Tryz.prog W) rfl ?_
 simp only[Sem.run_bind,Tryz.partsP,Result.andThen]
 simp[ReflectliteValue.elem,loadVar,isAgg,underlying,Tryz.underlying230,ha,Result.andThen,Tryz.elemOfP,Tryz.mkD]
theorem Tryz.partsDa (a:Addr) (w:World):(ReflectliteValue.parts (.agg #[.pointer (some ⟨4,228,none⟩),.pointer (some a),.int .u64 409])).run Tryz.prog w=.ok (some (228,a,409)) w:=by kernel_rfl
theorem Tryz.partsD (a:Addr) (w:World):(ReflectliteValue.parts (.agg #[.pointer (some ⟨4,228,none⟩),.pointer (some a),.int .u64 153])).run Tryz.prog w=.ok (some (228,a,153)) w:=by kernel_rfl
theorem Tryz.directD (w:World):(Rtype.directlyAssignable 228 228).run Tryz.prog w=.ok true w:=by kernel_rfl
end Go.Proofs.YtikiihjabbmkcaaGreatDoor


namespace Go.Proofs.YtikiihjabbmkcaaGreatDoor
open Go.RowKit Go.Extern.Stop Go.Stop Go.Extern
theorem Tryz.setD (ta b:Addr) (c:Int) (old:Value) (W:World) (hb:W.cell? b=some (.int .i64 c)) (ht:W.cell? ta=some old) (hf:W.frozen? ta=false) :
  (ReflectliteValue.set #[.agg #[.pointer (some ⟨4,228,none⟩),.pointer (some ta),.int .u64 409],.agg #[.pointer (some ⟨4,228,none⟩),.pointer (some b),.int .u64 153]]).run Tryz.prog W
   = .ok (.tuple #[]) (W.setCell ta (.int .i64 c)):=by
 refine Eq.trans (b:=(Bind.bind (ReflectliteValue.parts (.agg #[.pointer (some ⟨4,228,none⟩),.pointer (some ta),.int .u64 409])) _).run Tryz.prog W) rfl ?_
 simp only[Sem.run_bind,Tryz.partsDa,Result.andThen]
 erw[Tryz.partsD b W]
 simp[ReflectliteValue.flagAddr,loadVar,isAgg,underlying,Tryz.underlying228,Result.andThen,Tryz.directD,storeVar,Value.cells,storeCells,Addr.add]
 have hl:=run_loadCells_list (P:=Tryz.prog) W b [.int .i64 c] (by
  intro j v hj
  match j,hj with
  |0,hj=>simp at hj;subst hj;simpa [Addr.add] using hb)
 have hl':(loadCells b 1).run Tryz.prog W=.ok #[.int .i64 c] W:=hl
 rw[hl']
 simp[storeCells,Addr.add]
 rw[run_store Tryz.prog W ta _ _ (by rfl)]
 simp[ht,hf]
/-- a fault of the program's own type,asked for with errors.As: it is taken into the variable at t;four blocks are new -/
theorem as_hit (c:Int) (t:Addr) (old:Value) (w:World) (hg:w.cell? ⟨1,0,none⟩=some (.iface 279 (.agg #[.pointer (some ⟨4,198,none⟩)]))) (ht0:w.cell? t=some old) (hf0:w.frozen? t=false) :
  Calls Tryz.prog 188 #[.iface 228 (.agg #[.int .i64 c]),.iface 230 (.pointer (some t))] w fun ev w'=>ev=.returned (.bool true)/\w'=((((w.alloc (.cells #[.pointer (some t)] 230)).alloc (.cells #[.pointer (some ⟨4,230,none⟩),.pointer (some ⟨w.heap.size,0,none⟩),.int .u64 150] 256)).alloc (.cells #[.pointer (some ⟨4,230,none⟩),.pointer (some ⟨w.heap.size,0,none⟩),.int .u64 150] 256)).alloc (.cells #[.int .i64 c] 228)).setCell t (.int .i64 c):=by
 have hA:=@run_callFunc_extern Tryz.prog 215 _ (fun args=>ReflectliteValue.unpack (args.getD 0 (.tuple #[]))) Tryz.func215 (by kernel_rfl) (by kernel_rfl) (by kernel_rfl) (by kernel_rfl)
 have hB:=@run_callFunc_extern Tryz.prog 216 _ (ReflectliteValue.methodAny (ReflectliteValue.valueError "reflectlite.Value.Type" 0) (fun t _ _ _=>ReflectliteType.toType t)) Tryz.func216 (by kernel_rfl) (by kernel_rfl) (by kernel_rfl) (by kernel_rfl)
 have hC:=@run_callFunc_extern Tryz.prog 217 _ (ReflectliteValue.method (ReflectliteValue.valueError "reflectlite.Value.IsNil" 0) ReflectliteValue.isNil) Tryz.func217 (by kernel_rfl) (by kernel_rfl) (by kernel_rfl) (by kernel_rfl)
 have hD:=@run_callFunc_extern Tryz.prog 267 _ (ReflectliteType.abiMethod fun t=>do pure (.int .u8 (<-Rtype.kind t))) Tryz.func267 (by kernel_rfl) (by kernel_rfl) (by kernel_rfl) (by kernel_rfl)
 have hE:=@run_callFunc_extern Tryz.prog 277 _ (ReflectliteType.method ReflectliteType.elem) Tryz.func277 (by kernel_rfl) (by kernel_rfl) (by kernel_rfl) (by kernel_rfl)
 have hF:=@run_callFunc_extern Tryz.prog 278 _ (ReflectliteType.relation "Implements" ReflectliteType.implements_) Tryz.func278 (by kernel_rfl) (by kernel_rfl) (by kernel_rfl) (by kernel_rfl)
 have hG:=@run_callFunc_extern Tryz.prog 232 _ ReflectliteType.typeOf Tryz.func232 (by kernel_rfl) (by kernel_rfl) (by kernel_rfl) (by kernel_rfl)
 have hH:=@run_callFunc_extern Tryz.prog 275 _ (ReflectliteType.relation "AssignableTo" ReflectliteType.assignableTo) Tryz.func275 (by kernel_rfl) (by kernel_rfl) (by kernel_rfl) (by kernel_rfl)
 have hI:=@run_callFunc_extern Tryz.prog 233 _ (ReflectliteValue.method (ReflectliteValue.valueError "reflectlite.Value.Elem" 0) ReflectliteValue.elem) Tryz.func233 (by kernel_rfl) (by kernel_rfl) (by kernel_rfl) (by kernel_rfl)
 have hJ:=@run_callFunc_extern Tryz.prog 234 _ ReflectliteValue.set Tryz.func234 (by kernel_rfl) (by kernel_rfl) (by kernel_rfl) (by kernel_rfl)
 have f1:=Tryz.typeOfD
 have f2:=Tryz.methodAssignableTo
 have f3:=Tryz.assignableD
 have f4:=Tryz.valueOfD
 have f5:=Tryz.valueOfP
 have f6:=Tryz.typeP
 have f7:=Tryz.methodKind
 have f8:=Tryz.methodElem
 have f9:=Tryz.methodImplements
 have f10:=Tryz.kindP
 have f11:=Tryz.kindD
 have f12:=Tryz.elemP
 have f13:=Tryz.implementsD
 obtain⟨vb,hvb⟩:∃ vb,vb=Obj.cells #[.pointer (some ⟨4,230,none⟩),.pointer (some ⟨w.heap.size,0,none⟩),.int .u64 150] 256:=⟨_,rfl⟩
 have n8:=Tryz.isNilP ⟨w.heap.size,0,none⟩ t ((w.alloc (.cells #[.pointer (some t)] 230)).alloc vb) (by rw[hvb];simp)
 have hlt:1 < w.heap.size:=by
  rcases Nat.lt_or_ge 1 w.heap.size with h|h
  ·exact h
  ·simp[World.cell?,Array.getElem?_eq_none h]at hg
 have hg2:((w.alloc (.cells #[.pointer (some t)] 230)).alloc vb).cell? ⟨1,0,none⟩=some (.iface 279 (.agg #[.pointer (some ⟨4,198,none⟩)])):=by
  rw[World.cell?_alloc_lt _ _ ⟨1,0,none⟩ (Nat.lt_of_lt_of_le hlt (by simp)),World.cell?_alloc_lt _ _ ⟨1,0,none⟩ hlt];exact hg
 have htl:t.block<w.heap.size:=by
  rcases Nat.lt_or_ge t.block w.heap.size with h|h
  ·exact h
  ·simp[World.cell?,Array.getElem?_eq_none h]at ht0
 have el:=Tryz.elemVP ⟨w.heap.size,0,none⟩ t (((w.alloc (.cells #[.pointer (some t)] 230)).alloc vb).alloc vb) (by rw[World.cell?_alloc_lt _ _ ⟨w.heap.size,0,none⟩ (by simp;omega),hvb];simp)
 have st:=Tryz.setD t ⟨w.heap.size+1+1+1,0,none⟩ c old ((((w.alloc (.cells #[.pointer (some t)] 230)).alloc vb).alloc vb).alloc (.cells #[.int .i64 c] 228))
  (by rw[World.cell?_alloc_at _ _ _ _ (by simp)];rfl)
  (by rw[World.cell?_alloc_lt _ _ t (by simp;omega),World.cell?_alloc_lt _ _ t (by simp;omega),World.cell?_alloc_lt _ _ t (by simp;omega),World.cell?_alloc_lt _ _ t htl];exact ht0)
  (by rw[World.frozen?_alloc_old _ _ t (by simp;omega),World.frozen?_alloc_old _ _ t (by simp;omega),World.frozen?_alloc_old _ _ t (by simp;omega),World.frozen?_alloc_old _ _ t (Nat.ne_of_lt htl)];exact hf0)
 subst hvb
 go_enter Tryz.func188,Tryz.ntmps188
 go_wp2
 refine wp_loop_rounds 1 ?_
 rw[rounds_succ]
 go_wp2
 go_ret
 exact⟨rfl,rfl⟩
end Go.Proofs.YtikiihjabbmkcaaGreatDoor


namespace Go.Proofs.YtikiihjabbmkcaaGreatDoor.Gn
open Go.RowKit
theorem ret_int {k:IntKind} {a b:Int} (h:a=b):Ending.returned (.int k a)=.returned (.int k b):=by rw[h]
theorem not_half (u:Nat) (h:u<=18446744073709551615):bits BinOp.xor IntKind.u64 IntKind.u64.max ((u:Int)/2)=((18446744073709551615-u/2:Nat):Int):=by
 have e:((u:Int)/2)=((u/2:Nat):Int):=by omega
 rw[e,show IntKind.u64.max=((18446744073709551615:Nat):Int) from rfl,u64_xor_nat _ _ (by decide) (by omega)]
 have e:=congrArg BitVec.toNat (BitVec.allOnes_xor (x:=BitVec.ofNat 64 (u/2)))
 rw[BitVec.toNat_xor,BitVec.toNat_not,BitVec.toNat_allOnes,BitVec.toNat_ofNat,Nat.mod_eq_of_lt (by omega)]at e
 exact congrArg (fun n:Nat=>(n:Int)) e
theorem low_bit (u:Nat) (h:u<=18446744073709551615):bits BinOp.and IntKind.u64 (u:Int) 1=((u%2:Nat):Int):=by
 have:=u64_and_nat u 1 (by omega) (by decide)
 rw[nat_mask1]at this
 exact this
theorem unfold_any (u:Nat) (w:World) (h:u<=18446744073709551615) :
  Calls Tryz.prog 214 #[.int .u64 u] w fun e w'=>e=.returned (.int .i64 (unz u))/\w'=w:=by
 have hl:=low_bit u h
 by_cases hodd:u%2=1
 ·have ht:(bits BinOp.and IntKind.u64 (u:Int) 1==1)=true:=by rw[hl,hodd];rfl
  obtain⟨z,hz⟩:∃ z,z=18446744073709551615-u/2:=⟨_,rfl⟩
  have hn:=not_half u h
  rw[<-hz]at hn
  have HO:=hide (unz_odd u hodd)
  have HZ:=hide hz
  clear hl hodd hz
  go_enter Tryz.func214,Tryz.ntmps214
  go_wp2
  go_ret
  exact⟨ret_int (by rw[HO.out,HZ.out];simp[wrap64];omega),rfl⟩
 ·have ht:(bits BinOp.and IntKind.u64 (u:Int) 1==1)=false:=by rw[hl];simp;omega
  have HO:=hide (unz_even' u hodd)
  clear hl hodd
  go_enter Tryz.func214,Tryz.ntmps214
  go_wp2
  go_ret
  exact⟨ret_int HO.out,rfl⟩
theorem place_big (s:ByteArray) (a:Int) (w:World) (hs:s.size<=maxLen) (h:8000<s.size) :
  Calls Tryz.prog 212 #[.string s,.int .i64 a] w fun e w'=>e=.returned (.iface 228 (.agg #[.int .i64 2]))/\w'=w:=by
 unfold maxLen at hs
 go_enter Tryz.func212,Tryz.ntmps212
 go_wp2
 go_ret
 exact⟨rfl,rfl⟩
theorem place_neg (s:ByteArray) (a:Int) (w:World) (hs:¬8000<s.size) (h:a<0) :
  Calls Tryz.prog 212 #[.string s,.int .i64 a] w fun e w'=>e=.returned (.iface 228 (.agg #[.int .i64 1]))/\w'=w:=by
 go_enter Tryz.func212,Tryz.ntmps212
 go_wp2
 go_ret
 exact⟨rfl,rfl⟩
theorem place_ok (s:ByteArray) (a:Int) (w:World) (hs:¬8000<s.size) (h:¬a<0) :
  Calls Tryz.prog 212 #[.string s,.int .i64 a] w fun e w'=>e=.returned .nilIface/\w'=w:=by
 go_enter Tryz.func212,Tryz.ntmps212
 go_wp2
 go_ret
 exact⟨rfl,rfl⟩
def rd (s:ByteArray) (a:Int):Int × Nat × Int:=if 8000<s.size then (0,0,2) else if a<0 then (0,0,1) else (unz (numR s a.toNat).1,(numR s a.toNat).2.1,(numR s a.toNat).2.2)
theorem run_codes (s:ByteArray):∀ f k p u,(run s f k p u).2.2=0∨((run s f k p u).1=0/\(run s f k p u).2.1=0/\((run s f k p u).2.2=3∨(run s f k p u).2.2=4)):=by
 intro f
 induction f with
 |zero=>intro k p u;exact .inr ⟨rfl,rfl,.inl rfl⟩
 |succ f ih =>
  intro k p u
  rw[run]
  split
  ·exact .inr ⟨rfl,rfl,.inr rfl⟩
  ·split
   ·exact .inr ⟨rfl,rfl,.inl rfl⟩
   ·split
    ·split
     ·exact .inr ⟨rfl,rfl,.inl rfl⟩
     ·exact .inl rfl
    ·exact ih _ _ _
theorem run_bound (s:ByteArray):∀ f k p u,k<=9->u<2 ^ (7*k)->(run s f k p u).1<=18446744073709551615:=by
 intro f
 induction f with
 |zero=>intro k p u _ _;exact Nat.zero_le _
 |succ f ih =>
  intro k p u hk hu
  rw[run]
  split
  ·exact Nat.zero_le _
  ·split
   ·exact Nat.zero_le _
   ·rename_i h9
    split
    ·split
     ·exact Nat.zero_le _
     ·exact(next_small u (byteN s p) k hu hk h9).2
    ·exact ih _ _ _ (by omega) (next_lt _ _ _ hu)
theorem run_place (s:ByteArray):∀ f k p u,(run s f k p u).2.1<=s.size:=by
 intro f
 induction f with
 |zero=>intro k p u;exact Nat.zero_le _
 |succ f ih =>
  intro k p u
  rw[run]
  split
  ·exact Nat.zero_le _
  ·split
   ·exact Nat.zero_le _
   ·split
    ·split
     ·exact Nat.zero_le _
     ·show p+1<=s.size;omega
    ·exact ih _ _ _
theorem read_any (s:ByteArray) (a:Int) (w:World) (hs:s.size<=maxLen) :
  Calls Tryz.prog 187 #[.string s,.int .i64 a] w fun e w'=>e=.returned (.tuple #[.int .i64 (rd s a).1,.int .i64 (rd s a).2.1,errV (rd s a).2.2])/\w'=w:=by
 by_cases h1:8000<s.size
 ·have HE:Hid (rd s a=(0,0,2)):=by unfold Hid rd;rw[if_pos h1]
  go_enter Tryz.func187,Tryz.ntmps187
  go_wp2_with fail
  refine(place_big s a _ hs h1).mono ?_
  rintro e w' ⟨rfl,hw⟩
  subst w'
  go_wp2
  go_ret3
  exact⟨by rw[HE.out];rfl,rfl⟩
 ·by_cases h2:a<0
  ·have HE:Hid (rd s a=(0,0,1)):=by unfold Hid rd;rw[if_neg h1,if_pos h2]
   go_enter Tryz.func187,Tryz.ntmps187
   go_wp2_with fail
   refine(place_neg s a _ h1 h2).mono ?_
   rintro e w' ⟨rfl,hw⟩
   subst w'
   go_wp2
   go_ret3
   exact⟨by rw[HE.out];rfl,rfl⟩
  ·obtain⟨n,rfl⟩:=Int.eq_ofNat_of_zero_le (show 0<=a from by omega)
   have HE:Hid (rd s (n:Int)=(unz (numR s n).1,(numR s n).2.1,(numR s n).2.2)):=by unfold Hid rd;rw[if_neg h1,if_neg h2,Int.toNat_natCast]
   have hb:(numR s n).1<=18446744073709551615:=run_bound s 10 0 n 0 (by decide) (by decide)
   go_enter Tryz.func187,Tryz.ntmps187
   go_wp2_with fail
   refine(place_ok s n _ h1 (by omega)).mono ?_
   rintro e w' ⟨rfl,hw⟩
   subst w'
   go_wp2_with fail
   refine(bits_any s n _ (by omega)).mono ?_
   generalize numR s n=r at HE hb ⊢
   obtain⟨u,p,c⟩:=r
   simp only[bitsV]at HE hb ⊢
   generalize hev:errV c=ev
   have HEV:=hide hev
   clear hev
   rintro e w' ⟨rfl,hw⟩
   subst w'
   go_wp2_with fail
   refine(unfold_any u _ hb).mono ?_
   rintro e w' ⟨rfl,hw⟩
   subst w'
   go_wp2
   go_ret3
   exact⟨by rw[HE.out,<-HEV.out];rfl,rfl⟩
def handle:Value:=.iface 279 (.agg #[.pointer (some ⟨4,198,none⟩)])
theorem code_any (c:Int) (w:World) (hg:w.cell? ⟨1,0,none⟩=some handle) :
  Calls Tryz.prog 154 #[.iface 228 (.agg #[.int .i64 c])] w fun e w'=>e=.returned (.int .i64 c)/\Below w.heap.size w w':=by
 have hlt:1 < w.heap.size:=by
  rcases Nat.lt_or_ge 1 w.heap.size with h|h
  ·exact h
  ·simp[World.cell?,Array.getElem?_eq_none h]at hg
 have hgA:(w.alloc (.cells #[.int .i64 0] 228)).cell? ⟨1,0,none⟩=some handle:=by
  rw[World.cell?_alloc_lt _ _ ⟨1,0,none⟩ hlt];exact hg
 have htA:(w.alloc (.cells #[.int .i64 0] 228)).cell? ⟨w.heap.size,0,none⟩=some (.int .i64 0):=by simp
 have hfA:(w.alloc (.cells #[.int .i64 0] 228)).frozen? ⟨w.heap.size,0,none⟩=false:=by simp
 go_enter Tryz.func154,Tryz.ntmps154
 go_wp2_with fail
 refine(as_hit c _ (.int .i64 0) _ hgA htA hfA).mono ?_
 rintro e w' ⟨rfl,rfl⟩
 go_wp2
 go_ret
 exact⟨rfl,(((((Below.refl _ _).alloc (Nat.le_refl _) _).alloc (by simp) _).alloc (by simp;omega) _).alloc (by simp;omega) _).alloc (by simp;omega) _⟩
theorem rd_codes (s:ByteArray) (a:Int):(rd s a).2.2=0∨(rd s a).2.2≠0/\(rd s a).1=0/\(rd s a).2.1=0:=by
 unfold rd
 split
 ·exact .inr ⟨by decide,rfl,rfl⟩
 ·split
  ·exact .inr ⟨by decide,rfl,rfl⟩
  ·rcases run_codes s 10 0 a.toNat 0 with h|⟨h1,h2,h3⟩
   ·exact .inl h
   ·refine .inr ⟨?_,?_,h2⟩
    ·show (numR s a.toNat).2.2≠0
     unfold numR
     omega
    ·show unz (numR s a.toNat).1=0
     unfold numR
     rw[h1]
     rfl
theorem getV_rd (s:ByteArray) (a:Int):getV s a=if (rd s a).2.2=0 then outN (rd s a).1 (rd s a).2.1 0 else outN 0 0 (rd s a).2.2:=by
 unfold getV rd
 split
 ·rfl
 ·split
  ·rfl
  ·rfl
theorem bcell {W w1:World} (hb:Below W.heap.size W w1):(∀ b o,b<W.heap.size->w1.cell? ⟨b,o,none⟩=W.cell? ⟨b,o,none⟩)/\(∀ b o,b<W.heap.size->w1.frozen? ⟨b,o,none⟩=W.frozen? ⟨b,o,none⟩) :=
 ⟨fun b o h=>hb.cell (p:=⟨b,o,none⟩) h,fun b o h=>hb.frozen (p:=⟨b,o,none⟩) h⟩
theorem lt_of_handle {w:World} (hg:w.cell? ⟨1,0,none⟩=some handle):1 < w.heap.size:=by
 rcases Nat.lt_or_ge 1 w.heap.size with h|h
 ·exact h
 ·simp[World.cell?,Array.getElem?_eq_none h]at hg
theorem handle_below {w w1:World} (hb:Below w.heap.size w w1) (hg:w.cell? ⟨1,0,none⟩=some handle):w1.cell? ⟨1,0,none⟩=some handle :=
 (hb.cell (p:=⟨1,0,none⟩) (lt_of_handle hg)).trans hg
theorem handle_alloc {w:World} (o:Obj) (hg:w.cell? ⟨1,0,none⟩=some handle):(w.alloc o).cell? ⟨1,0,none⟩=some handle:=by
 rw[World.cell?_alloc_lt _ _ ⟨1,0,none⟩ (lt_of_handle hg)];exact hg
theorem get_impl (s:ByteArray) (a:Int) (w:World) (hs:s.size<=maxLen) (hg:w.cell? ⟨1,0,none⟩=some handle) :
  Calls Tryz.prog 157 #[.string s,.int .i64 a] w fun e w'=>e=.returned (getV s a)/\Below w.heap.size w w':=by
 have HV:=hide (getV_rd s a)
 have HG:=hide hg
 clear hg
 by_cases h0:(rd s a).2.2=0
 ·go_enter Tryz.func157,Tryz.ntmps157
  go_wp2_with fail
  refine(read_any s a _ hs).mono ?_
  generalize rd s a=r at HV h0 ⊢
  obtain⟨n,p,c⟩:=r
  simp only at HV h0 ⊢
  subst h0
  rintro e w' ⟨rfl,hw⟩
  subst w'
  simp only[errV,if_pos]
  go_wp2
  refine bodyPost_ret (v:=outN n p 0) (by simp[results,outN,Tryz.results157,go_sem]) rfl ⟨by rw[HV.out];rfl,(Below.refl _ _).alloc (Nat.le_refl _) _⟩
 ·go_enter Tryz.func157,Tryz.ntmps157
  go_wp2_with fail
  refine(read_any s a _ hs).mono ?_
  generalize rd s a=r at HV h0 ⊢
  obtain⟨n,p,c⟩:=r
  simp only at HV h0 ⊢
  have H0:=hide h0
  rintro e w' ⟨rfl,hw⟩
  subst w'
  simp only[errV,if_neg h0]
  clear h0
  go_wp2_with fail
  refine(code_any c _ (handle_alloc _ HG.out)).mono ?_
  rintro e w1 ⟨rfl,hb1⟩
  obtain⟨hc1,hf1⟩:=bcell hb1
  go_wp2
  refine bodyPost_ret (v:=outN 0 0 c) (by simp[results,outN,Tryz.results157,go_sem,hc1]) rfl ⟨by rw[HV.out,if_neg H0.out],?_⟩
  exact((((Below.refl w.heap.size w).alloc (Nat.le_refl _) _).trans (hb1.mono (by simp))).setCell (Nat.le_refl _) _ |>.setCell (Nat.le_refl _) _).setCell (Nat.le_refl _) _
end Go.Proofs.YtikiihjabbmkcaaGreatDoor.Gn

