/- Texts put together: GetV, GotoLaw, GetBits, AsFacts, AsWalks, GetNumWalks, GetTextWalks, GetSpec, GetTextSpec, LsRead. -/
import Derived.Test.YtkgjfdanjmnmbaaGreatDoorProg
import Derived.Test.YtkgjfdanjmnmbaaGreatDoorOz23
import Derived.WalkKit
import Derived.WalkSpells
import Derived.WalkLawsBesides
import Derived.Scope
import Derived.WalkMore
import Derived.LaidEql
import Derived.Stop.Asserts
import Derived.RowKitTokens
import Derived.Test.YtkgjfdanjmnmbaaGreatDoorOz10
import Derived.RegionTactic
import Derived.BigRegion
import Derived.Test.YtkgjfdanjmnmbaaGreatDoorOz18
set_option maxRecDepth 100000
set_option maxHeartbeats 8000000
/- What GetNum answers, said of its text and place. -/
namespace Go.Proofs.YtkgjfdanjmnmbaaGreatDoor.Gn
open Go.RowKit
theorem hide {p:Prop} (h:p):Hid p:=h
def outN (n at_ code:Int):Value:=.agg #[.int .i64 n,.int .i64 at_,.int .i64 code]
def resV (r:Nat × Nat × Int):Value:=if r.2.2=0 then outN (unz r.1) r.2.1 0 else outN 0 0 r.2.2
def getV (s:ByteArray) (a:Int):Value:=if 8000<s.size then outN 0 0 2 else if a<0 then outN 0 0 1 else resV (numR s a.toNat)
end Go.Proofs.YtkgjfdanjmnmbaaGreatDoor.Gn


/- A law on a scope with three labels: the run comes back to the first one, each time with less to do, and goes on from it to the second or the third, and from the second to the third alone. -/
namespace Go.Proofs.YtkgjfdanjmnmbaaGreatDoor.Jump
open Go
def toLabel (J:Nat->Act->World->Prop) (Q:Exit->Act->World->Prop):Exit->Act->World->Prop
 |.goto l,a,w=>J l a w
 |e,a,w=>Q e a w
theorem toLabel_ret {J:Nat->Act->World->Prop} {Q:Exit->Act->World->Prop}:toLabel J Q Exit.ret=Q Exit.ret:=rfl
theorem wp_scope_labels {P:Program} {c:Code} {a:Act} {w:World} {Q:Exit->Act->World->Prop} (J:Nat->Act->World->Prop) (μ:Nat->Act->World->Nat)
  (first:c.wp P (toLabel J Q) a w)
  (pass:∀ l a w,J l a w->∃ r,findLabel c l=some r/\r.wp P (toLabel (fun l' a' w'=>J l' a' w'/\μ l' a' w' < μ l a w) Q) a w):(Code.scope c).wp P Q a w:=by
 intro b k cs
 have key:∀ n l a w,μ l a w=n->J l a w->∃ r,findLabel c l=some r/\∃ e a' w',Q e a' w'/\Arrives P (lone (b.at a (.code r :: .inScope c :: k)) cs w) b k cs e a' w':=by
  intro n
  induction n using Nat.strongRecOn with
  |_ n ih =>
   intro l a w hn hJ
   obtain⟨r,hf,hp⟩:=pass l a w hJ
   refine⟨r,hf,?_⟩
   obtain⟨e,a₁,w₁,hq,harr⟩:=hp b (.inScope c :: k) cs
   cases e with
   |normal=>exact⟨.normal,a₁,w₁,hq,Steps.trans harr (.one step_inScope)⟩
   |exit id=>exact⟨.exit id,a₁,w₁,hq,fun k' hk=>harr k' (by simp[exitTo,hk])⟩
   |goto l' =>
    obtain⟨hJ',hlt⟩:=hq
    obtain⟨r',hf',e₂,a₂,w₂,hq₂,harr₂⟩:=ih _ (by omega) l' a₁ w₁ rfl hJ'
    have hg:gotoIn l' (.inScope c :: k)=some (.code r' :: .inScope c :: k):=by simp[gotoIn,hf']
    exact⟨e₂,a₂,w₂,hq₂,.of_steps (harr _ hg) harr₂⟩
   |ret=>exact⟨_,a₁,w₁,hq,harr⟩
   |panic ch=>exact⟨_,a₁,w₁,hq,harr⟩
   |outgrown=>exact⟨_,a₁,w₁,hq,harr⟩
 obtain⟨e,a₁,w₁,hq,harr⟩:=first b (.inScope c :: k) cs
 cases e with
 |normal=>exact⟨.normal,a₁,w₁,hq,.head step_scope (Steps.trans harr (.one step_inScope))⟩
 |exit id=>exact⟨.exit id,a₁,w₁,hq,fun k' hk=>.head step_scope (harr k' (by simp[exitTo,hk]))⟩
 |goto l' =>
  obtain⟨r',hf',e₂,a₂,w₂,hq₂,harr₂⟩:=key _ l' a₁ w₁ rfl hq
  have hg:gotoIn l' (.inScope c :: k)=some (.code r' :: .inScope c :: k):=by simp[gotoIn,hf']
  exact⟨e₂,a₂,w₂,hq₂,.of_steps (.head step_scope (harr _ hg)) harr₂⟩
 |ret=>exact⟨_,a₁,w₁,hq,.of_steps (.one step_scope) harr⟩
 |panic ch=>exact⟨_,a₁,w₁,hq,.of_steps (.one step_scope) harr⟩
 |outgrown=>exact⟨_,a₁,w₁,hq,.of_steps (.one step_scope) harr⟩
end Go.Proofs.YtkgjfdanjmnmbaaGreatDoor.Jump


namespace Go.Proofs.YtkgjfdanjmnmbaaGreatDoor.Gn
open Go.RowKit Go.Proofs.YtkgjfdanjmnmbaaGreatDoor.Jump
def errV (c:Int):Value:=if c=0 then .nilIface else .iface 131 (.agg #[.int .i64 c])
def bitsV (r:Nat × Nat × Int):Value:=.tuple #[.int .u64 r.1,.int .i64 r.2.1,errV r.2.2]
def J (s : ByteArray) (a : Nat) (w : World) (l : Nat) (a' : Act) (w' : World) : Prop :=
  w' = w ∧
  ((l = 0 ∧ ∃ (k v p : Nat) (x8 : Value) (x10 x11 x12 x13 x14 x15 x16 x17 x18 x19 x20 x21 x22 x23 x24 x25 x26 x27 x28 x29 x30 x31 x32 x33 x34 x35 x36 x37 x38 x39 x40 x41 x42 x43 x44 x45 x46 x47 x48 : Value), a' = { tmps := #[.string s, .int .i64 (p : Nat), undef, undef, .int .u64 0, .int .i64 0, .nilIface, .int .u64 (v : Nat), x8, .int .i64 (k : Nat), x10, x11, x12, x13, x14, x15, x16, x17, x18, x19, x20, x21, x22, x23, x24, x25, x26, x27, x28, x29, x30, x31, x32, x33, x34, x35, x36, x37, x38, x39, x40, x41, x42, x43, x44, x45, x46, x47, x48], defers := [] } ∧ 1 ≤ k ∧ k ≤ 9 ∧ p ≤ 8000 ∧ v < 2 ^ (7 * k) ∧ numR s a = run s (10 - k) k p v) ∨
   (l = 2 ∧ ∃ (k v p c : Nat) (x10 x11 x12 x13 x14 x15 x16 x17 x18 x19 x20 x21 x22 x23 x24 x25 x26 x27 x28 x29 x30 x31 x32 x33 x34 x35 x36 x37 x38 x39 x40 x41 x42 x43 x44 x45 x46 x47 x48 : Value), a' = { tmps := #[.string s, .int .i64 (p : Nat), undef, undef, .int .u64 0, .int .i64 0, .nilIface, .int .u64 (v : Nat), .int .u8 (c : Nat), .int .i64 (k : Nat), x10, x11, x12, x13, x14, x15, x16, x17, x18, x19, x20, x21, x22, x23, x24, x25, x26, x27, x28, x29, x30, x31, x32, x33, x34, x35, x36, x37, x38, x39, x40, x41, x42, x43, x44, x45, x46, x47, x48], defers := [] } ∧ 1 ≤ k ∧ k ≤ 10 ∧ c < 128 ∧ numR s a = if c = 0 ∧ 1 < k then (0, 0, 3) else (v, p, 0)) ∨
   (l = 1 ∧ ∃ (k v p : Int) (x8 : Value) (x10 x11 x12 x13 x14 x15 x16 x17 x18 x19 x20 x21 x22 x23 x24 x25 x26 x27 x28 x29 x30 x31 x32 x33 x34 x35 x36 x37 x38 x39 x40 x41 x42 x43 x44 x45 x46 x47 x48 : Value), a' = { tmps := #[.string s, .int .i64 p, undef, undef, .int .u64 0, .int .i64 0, .nilIface, .int .u64 v, x8, .int .i64 k, x10, x11, x12, x13, x14, x15, x16, x17, x18, x19, x20, x21, x22, x23, x24, x25, x26, x27, x28, x29, x30, x31, x32, x33, x34, x35, x36, x37, x38, x39, x40, x41, x42, x43, x44, x45, x46, x47, x48], defers := [] } ∧ numR s a = (0, 0, 3)))
theorem J0 (s:ByteArray) (a:Nat) (w:World) (k v p:Nat) (x8:Value) (x10 x11 x12 x13 x14 x15 x16 x17 x18 x19 x20 x21 x22 x23 x24 x25 x26 x27 x28 x29 x30 x31 x32 x33 x34 x35 x36 x37 x38 x39 x40 x41 x42 x43 x44 x45 x46 x47 x48:Value) (h1:1<=k) (h2:k<=9) (h3:p<=8000) (h4:v<2 ^ (7*k)) (h5:numR s a=run s (10-k) k p v) :
  J s a w 0 { tmps:=#[.string s,.int .i64 (p:Nat),undef,undef,.int .u64 0,.int .i64 0,.nilIface,.int .u64 (v:Nat),x8,.int .i64 (k:Nat),x10,x11,x12,x13,x14,x15,x16,x17,x18,x19,x20,x21,x22,x23,x24,x25,x26,x27,x28,x29,x30,x31,x32,x33,x34,x35,x36,x37,x38,x39,x40,x41,x42,x43,x44,x45,x46,x47,x48],defers:=[] } w :=
 ⟨rfl,.inl ⟨rfl,k,v,p,x8,x10,x11,x12,x13,x14,x15,x16,x17,x18,x19,x20,x21,x22,x23,x24,x25,x26,x27,x28,x29,x30,x31,x32,x33,x34,x35,x36,x37,x38,x39,x40,x41,x42,x43,x44,x45,x46,x47,x48,rfl,h1,h2,h3,h4,h5⟩⟩
theorem J2 (s:ByteArray) (a:Nat) (w:World) (k v p c:Nat) (x10 x11 x12 x13 x14 x15 x16 x17 x18 x19 x20 x21 x22 x23 x24 x25 x26 x27 x28 x29 x30 x31 x32 x33 x34 x35 x36 x37 x38 x39 x40 x41 x42 x43 x44 x45 x46 x47 x48:Value) (h1:1<=k) (h2:k<=10) (h3:c<128) (h5:numR s a=if c=0/\1<k then (0,0,3) else (v,p,0)) :
  J s a w 2 { tmps:=#[.string s,.int .i64 (p:Nat),undef,undef,.int .u64 0,.int .i64 0,.nilIface,.int .u64 (v:Nat),.int .u8 (c:Nat),.int .i64 (k:Nat),x10,x11,x12,x13,x14,x15,x16,x17,x18,x19,x20,x21,x22,x23,x24,x25,x26,x27,x28,x29,x30,x31,x32,x33,x34,x35,x36,x37,x38,x39,x40,x41,x42,x43,x44,x45,x46,x47,x48],defers:=[] } w :=
 ⟨rfl,.inr (.inl ⟨rfl,k,v,p,c,x10,x11,x12,x13,x14,x15,x16,x17,x18,x19,x20,x21,x22,x23,x24,x25,x26,x27,x28,x29,x30,x31,x32,x33,x34,x35,x36,x37,x38,x39,x40,x41,x42,x43,x44,x45,x46,x47,x48,rfl,h1,h2,h3,h5⟩)⟩
theorem J1 (s:ByteArray) (a:Nat) (w:World) (k v p:Int) (x8:Value) (x10 x11 x12 x13 x14 x15 x16 x17 x18 x19 x20 x21 x22 x23 x24 x25 x26 x27 x28 x29 x30 x31 x32 x33 x34 x35 x36 x37 x38 x39 x40 x41 x42 x43 x44 x45 x46 x47 x48:Value) (h5:numR s a=(0,0,3)) :
  J s a w 1 { tmps:=#[.string s,.int .i64 p,undef,undef,.int .u64 0,.int .i64 0,.nilIface,.int .u64 v,x8,.int .i64 k,x10,x11,x12,x13,x14,x15,x16,x17,x18,x19,x20,x21,x22,x23,x24,x25,x26,x27,x28,x29,x30,x31,x32,x33,x34,x35,x36,x37,x38,x39,x40,x41,x42,x43,x44,x45,x46,x47,x48],defers:=[] } w :=
 ⟨rfl,.inr (.inr ⟨rfl,k,v,p,x8,x10,x11,x12,x13,x14,x15,x16,x17,x18,x19,x20,x21,x22,x23,x24,x25,x26,x27,x28,x29,x30,x31,x32,x33,x34,x35,x36,x37,x38,x39,x40,x41,x42,x43,x44,x45,x46,x47,x48,rfl,h5⟩)⟩
def μ (l:Nat) (a':Act) (_:World):Nat:=if l=0 then 20-(intOf (a'.tmps.getD 9 undef)).toNat else if l=2 then 1 else 0
theorem bits_any (s:ByteArray) (a:Nat) (w:World) (hs:s.size<=8000) :
  Calls Tryz.prog 117 #[.string s,.int .i64 a] w fun e w'=>e=.returned (bitsV (numR s a))/\w'=w:=by
 go_enter Tryz.func117,Tryz.ntmps117
 go_wp2
 refine wp_scope_labels (J s a w) μ ?_ ?_
 ·by_cases hp:a<s.size
  ·have hb:s[a].toNat<256:=s[a].toNat_lt
   have hand:=and_low s[a].toNat hb
   have hy:s[a].toNat%128<=127:=by omega
   have hor:bits BinOp.or IntKind.u64 0 ((s[a].toNat%128:Nat):Int)=((s[a].toNat%128:Nat):Int):=by
    have:=u64_or_nat 0 (s[a].toNat%128) (by decide) (by omega)
    rw[Nat.zero_or]at this
    exact this
   obtain⟨y,hyy⟩:∃ y,y=s[a].toNat%128:=⟨_,rfl⟩
   rw[<-hyy]at hand hy hor
   have HY:Hid (y=s[a].toNat%128):=hyy
   clear hyy
   have HX:Hid (0+s[a].toNat%128*2 ^ (7*0)=y):=by unfold Hid;rw[HY.out];simp
   by_cases hc:s[a].toNat<128
   ·go_wp2
    go_step3
    go_wp2
    go_step3
    exact J2 s a w 1 y (a+1) s[a].toNat _ _ _ _ _ _ _ _ _ _ _ _ _ _ _ _ _ _ _ _ _ _ _ _ _ _ _ _ _ _ _ _ _ _ _ _ _ _ _ (by omega) (by omega) hc (by rw[if_neg (by omega)];exact(run_last s 9 0 a 0 hp (by omega) hc (by omega)).trans (by rw[HX.out]))
   ·go_wp2
    go_step3
    go_wp2
    go_step3
    exact J0 s a w 1 y (a+1) _ _ _ _ _ _ _ _ _ _ _ _ _ _ _ _ _ _ _ _ _ _ _ _ _ _ _ _ _ _ _ _ _ _ _ _ _ _ _ _ (by omega) (by omega) (by omega) (by omega) ((run_more s 9 0 a 0 hp (by omega) (by omega)).trans (by rw[HX.out]))
  ·have HE:Hid (numR s a=(0,0,4)):=run_end s 9 0 a 0 (by omega)
   go_wp2
   go_step3
   go_wp2
   rw[toLabel_ret]
   go_ret3
   exact⟨by rw[HE.out];rfl,rfl⟩
 ·intro l a' w' hJ
  obtain⟨rfl,hJ⟩:=hJ
  rcases hJ with⟨rfl,k,v,p,x8,x10,x11,x12,x13,x14,x15,x16,x17,x18,x19,x20,x21,x22,x23,x24,x25,x26,x27,x28,x29,x30,x31,x32,x33,x34,x35,x36,x37,x38,x39,x40,x41,x42,x43,x44,x45,x46,x47,x48,rfl,h1,h2,h3,h4,h5⟩|⟨rfl,k,v,p,c,x10,x11,x12,x13,x14,x15,x16,x17,x18,x19,x20,x21,x22,x23,x24,x25,x26,x27,x28,x29,x30,x31,x32,x33,x34,x35,x36,x37,x38,x39,x40,x41,x42,x43,x44,x45,x46,x47,x48,rfl,h1,h2,h3,h5⟩|⟨rfl,k,v,p,x8,x10,x11,x12,x13,x14,x15,x16,x17,x18,x19,x20,x21,x22,x23,x24,x25,x26,x27,x28,x29,x30,x31,x32,x33,x34,x35,x36,x37,x38,x39,x40,x41,x42,x43,x44,x45,x46,x47,x48,rfl,h5⟩
  ·refine⟨_,rfl,?_⟩
   have HR:=hide h5
   have HV:=hide h4
   have hvb:v<=9223372036854775807:=by have:=pow_le k h2;omega
   clear h5 h4
   obtain⟨f,hf⟩:∃ f,10-k=f+1:=⟨9-k,by omega⟩
   have HF:=hide hf
   clear hf
   by_cases hp:p<s.size
   ·have hb:s[p].toNat<256:=s[p].toNat_lt
    by_cases h9:k=9/\1<s[p].toNat
    ·have hk9:((k:Int)==9)=true:=beq_iff_eq.2 (by omega)
     have hc1:(1:Int)<s[p].toNat:=by omega
     have HE:Hid (numR s a=(0,0,3)):=HR.out.trans (by rw[HF.out];exact run_nine s f k p v hp h9.1 h9.2)
     have HH:=hide h9
     clear h9
     go_wp2
     go_step3
     exact⟨J1 s a _ _ _ _ _ _ _ _ _ _ _ _ _ _ _ _ _ _ _ _ _ _ _ _ _ _ _ _ _ _ _ _ _ _ _ _ _ _ _ _ _ _ _ _ HE.out,by simp[μ,intOf];omega⟩
    ·obtain⟨hm1,hm2⟩:=next_small v s[p].toNat k HV.out h2 h9
     have hand:=and_low s[p].toNat hb
     have hy:s[p].toNat%128<=127:=by omega
     have hsh:=shl_part (s[p].toNat%128) k hm1
     have hor:=or_part v s[p].toNat k HV.out hm1 hvb
     obtain⟨z,hz⟩:∃ z,z=s[p].toNat%128*2 ^ (7*k):=⟨_,rfl⟩
     obtain⟨x,hx⟩:∃ x,x=v+s[p].toNat%128*2 ^ (7*k):=⟨_,rfl⟩
     rw[<-hx,<-hz]at hor
     rw[<-hx]at hm2
     rw[<-hz]at hm1 hsh
     obtain⟨y,hyy⟩:∃ y,y=s[p].toNat%128:=⟨_,rfl⟩
     rw[<-hyy]at hand hy hsh
     have HX:=hide hx
     have HY:=hide hyy
     have HZ:=hide hz
     have H9:=hide h9
     clear hx hyy hz h9
     by_cases hc:s[p].toNat<128
     ·have HE:Hid (numR s a=if s[p].toNat=0/\1<k+1 then (0,0,3) else (x,p+1,0)):=HR.out.trans (by
       rw[HF.out]
       by_cases hq:s[p].toNat=0/\0<k
       ·rw[if_pos ⟨hq.1,by omega⟩];exact run_zero s f k p v hp hq.1 hq.2
       ·rw[if_neg (by omega),HX.out];exact run_last s f k p v hp H9.out hc hq)
      by_cases e9:k=9
      ·have hk9:((k:Int)==9)=true:=beq_iff_eq.2 (by omega)
       have hcd:decide ((1:Int)<s[p].toNat)=false:=decide_eq_false (by have:=H9.out;omega)
       have H99:=hide e9
       clear e9
       go_wp2
       go_step3
       exact⟨J2 s a _ (k+1) x (p+1) s[p].toNat _ _ _ _ _ _ _ _ _ _ _ _ _ _ _ _ _ _ _ _ _ _ _ _ _ _ _ _ _ _ _ _ _ _ _ _ _ _ _ (by omega) (by omega) hc HE.out,by simp[μ,intOf];omega⟩
      ·have hk9:((k:Int)==9)=false:=beq_eq_false_iff_ne.2 (by omega)
       go_wp2
       go_step3
       exact⟨J2 s a _ (k+1) x (p+1) s[p].toNat _ _ _ _ _ _ _ _ _ _ _ _ _ _ _ _ _ _ _ _ _ _ _ _ _ _ _ _ _ _ _ _ _ _ _ _ _ _ _ (by omega) (by omega) hc HE.out,by simp[μ,intOf];omega⟩
     ·have hn9:¬k=9:=by have:=H9.out;omega
      have hk9:((k:Int)==9)=false:=beq_eq_false_iff_ne.2 (by omega)
      have HE:Hid (numR s a=run s f (k+1) (p+1) x):=HR.out.trans (by rw[HF.out,HX.out];exact run_more s f k p v hp hn9 (by omega))
      go_wp2
      go_step3
      exact⟨J0 s a _ (k+1) x (p+1) _ _ _ _ _ _ _ _ _ _ _ _ _ _ _ _ _ _ _ _ _ _ _ _ _ _ _ _ _ _ _ _ _ _ _ _ _ _ _ _ (by omega) (by omega) (by omega) (by rw[HX.out];exact next_lt _ _ _ HV.out) (by rw[HE.out,show 10-(k+1)=f from by have:=HF.out;omega]),by simp[μ,intOf];omega⟩
   ·have HE:Hid (numR s a=(0,0,4)):=HR.out.trans (by rw[HF.out];exact run_end s f k p v (by omega))
    go_wp2
    rw[toLabel_ret]
    go_ret3
    exact⟨by rw[HE.out];rfl,rfl⟩
  ·refine⟨_,rfl,?_⟩
   by_cases hz:c=0/\1<k
   ·have HE:Hid (numR s a=(0,0,3)):=h5.trans (if_pos hz)
    have hcz:((c:Int)==0)=true:=beq_iff_eq.2 (by omega)
    have hk1:(1:Int)<k:=by omega
    have HZ:=hide hz
    clear h5 hz
    go_wp2
    go_step3
    exact⟨J1 s a _ _ _ _ _ _ _ _ _ _ _ _ _ _ _ _ _ _ _ _ _ _ _ _ _ _ _ _ _ _ _ _ _ _ _ _ _ _ _ _ _ _ _ _ HE.out,by simp[μ]⟩
   ·have HE:Hid (numR s a=(v,p,0)):=h5.trans (if_neg hz)
    clear h5
    by_cases cz:c=0
    ·have hcz:((c:Int)==0)=true:=beq_iff_eq.2 (by omega)
     have hk1:¬1<k:=by omega
     have hkd:decide ((1:Int)<k)=false:=decide_eq_false (by omega)
     have HC:=hide cz
     clear cz hz
     go_wp2
     rw[toLabel_ret]
     go_ret3
     exact⟨by rw[HE.out];rfl,rfl⟩
    ·have hcz:((c:Int)==0)=false:=beq_eq_false_iff_ne.2 (by omega)
     go_wp2
     rw[toLabel_ret]
     go_ret3
     exact⟨by rw[HE.out];rfl,rfl⟩
  ·refine⟨_,rfl,?_⟩
   have HE:=hide h5
   clear h5
   go_wp2
   rw[toLabel_ret]
   go_ret3
   exact⟨by rw[HE.out];rfl,rfl⟩
end Go.Proofs.YtkgjfdanjmnmbaaGreatDoor.Gn


/- Closed facts on what errors.As reads of the types that it meets here, each reckoned by the kernel, and three small laws on reflected values. -/
namespace Go.Proofs.YtkgjfdanjmnmbaaGreatDoor
open Go.RowKit Go.Extern.Stop Go.Stop Go.Extern
theorem Tryz.valueOfP (t:Addr) (w:World):(ReflectliteValue.unpack (.iface 133 (.pointer (some t)))).run Tryz.prog w
  = .ok (.agg #[.pointer (some ⟨4,133,none⟩),.pointer (some ⟨w.heap.size,0,none⟩),.int .u64 150]) (w.alloc (.cells #[.pointer (some t)] 133)):=by kernel_rfl
theorem Tryz.typeP (a:Addr) (w:World):(ReflectliteValue.methodAny (ReflectliteValue.valueError "reflectlite.Value.Type" 0) (fun t _ _ _=>ReflectliteType.toType t) #[.agg #[.pointer (some ⟨4,133,none⟩),.pointer (some a),.int .u64 150]]).run Tryz.prog w
  = .ok (.iface 141 (.agg #[.pointer (some ⟨4,133,none⟩)])) w:=by kernel_rfl
theorem Tryz.methodKind (h:Value) (w:World):(Go.method 396 141 (.agg #[h]) "Kind").run Tryz.prog w=.ok (233,h) w:=by kernel_rfl
theorem Tryz.kindP (w:World):((ReflectliteType.abiMethod fun t=>(fun a:Nat=>Value.int IntKind.u8 (a:Int)) <$> Rtype.kind t) #[.pointer (some ⟨4,133,none⟩)]).run Tryz.prog w=.ok (.int .u8 22) w:=by kernel_rfl
theorem Tryz.kindD (w:World):((ReflectliteType.abiMethod fun t=>(fun a:Nat=>Value.int IntKind.u8 (a:Int)) <$> Rtype.kind t) #[.pointer (some ⟨4,131,none⟩)]).run Tryz.prog w=.ok (.int .u8 25) w:=by kernel_rfl
theorem Tryz.partsP (a:Addr) (w:World):(ReflectliteValue.parts (.agg #[.pointer (some ⟨4,133,none⟩),.pointer (some a),.int .u64 150])).run Tryz.prog w=.ok (some (133,a,150)) w:=by kernel_rfl
theorem Tryz.isNilP (a p:Addr) (W:World) (ha:W.cell? a=some (.pointer (some p))) :
  (ReflectliteValue.method (ReflectliteValue.valueError "reflectlite.Value.IsNil" 0) ReflectliteValue.isNil #[.agg #[.pointer (some ⟨4,133,none⟩),.pointer (some a),.int .u64 150]]).run Tryz.prog W=.ok (.bool false) W:=by
 refine Eq.trans (b:=(Bind.bind (ReflectliteValue.parts (.agg #[.pointer (some ⟨4,133,none⟩),.pointer (some a),.int .u64 150])) _).run Tryz.prog W) rfl ?_
 simp only[Sem.run_bind,Tryz.partsP,Result.andThen]
 simp[ReflectliteValue.isNil,loadVar,isAgg,underlying,Tryz.underlying133,ha,Result.andThen]
theorem Tryz.methodElem (h:Value) (w:World):(Go.method 396 141 (.agg #[h]) "Elem").run Tryz.prog w=.ok (242,.agg #[h]) w:=by kernel_rfl
theorem Tryz.methodImplements (h:Value) (w:World):(Go.method 396 141 (.agg #[h]) "Implements").run Tryz.prog w=.ok (243,.agg #[h]) w:=by kernel_rfl
theorem Tryz.methodAssignableTo (h:Value) (w:World):(Go.method 396 141 (.agg #[h]) "AssignableTo").run Tryz.prog w=.ok (240,.agg #[h]) w:=by kernel_rfl
theorem Tryz.elemP (w:World):(ReflectliteType.method ReflectliteType.elem #[.agg #[.pointer (some ⟨4,133,none⟩)]]).run Tryz.prog w=.ok (.iface 141 (.agg #[.pointer (some ⟨4,131,none⟩)])) w:=by kernel_rfl
theorem Tryz.implementsD (w:World):(ReflectliteType.relation "Implements" ReflectliteType.implements_ #[.agg #[.pointer (some ⟨4,131,none⟩)],.iface 141 (.agg #[.pointer (some ⟨4,82,none⟩)])]).run Tryz.prog w=.ok (.bool true) w:=by kernel_rfl
theorem Tryz.typeOfD (v:Value) (w:World):(ReflectliteType.typeOf #[.iface 131 v]).run Tryz.prog w=.ok (.iface 141 (.agg #[.pointer (some ⟨4,131,none⟩)])) w:=by kernel_rfl
theorem Tryz.assignableD (w:World):(ReflectliteType.relation "AssignableTo" ReflectliteType.assignableTo #[.agg #[.pointer (some ⟨4,131,none⟩)],.iface 141 (.agg #[.pointer (some ⟨4,131,none⟩)])]).run Tryz.prog w=.ok (.bool true) w:=by kernel_rfl
theorem Tryz.valueOfD (c:Int) (w:World):(ReflectliteValue.unpack (.iface 131 (.agg #[.int .i64 c]))).run Tryz.prog w
  = .ok (.agg #[.pointer (some ⟨4,131,none⟩),.pointer (some ⟨w.heap.size,0,none⟩),.int .u64 153]) (w.alloc (.cells #[.int .i64 c] 131)):=by kernel_rfl
theorem Tryz.elemOfP (w:World):(Rtype.elem? 133).run Tryz.prog w=.ok (some 131) w:=by kernel_rfl
theorem Tryz.mkD (p:Addr) (w:World):(ReflectliteValue.mk 131 p ReflectliteValue.flagAddr).run Tryz.prog w=.ok (.agg #[.pointer (some ⟨4,131,none⟩),.pointer (some p),.int .u64 409]) w:=by kernel_rfl
theorem Tryz.elemVP (a p:Addr) (W:World) (ha:W.cell? a=some (.pointer (some p))) :
  (ReflectliteValue.method (ReflectliteValue.valueError "reflectlite.Value.Elem" 0) ReflectliteValue.elem #[.agg #[.pointer (some ⟨4,133,none⟩),.pointer (some a),.int .u64 150]]).run Tryz.prog W
   = .ok (.agg #[.pointer (some ⟨4,131,none⟩),.pointer (some p),.int .u64 409]) W:=by
 refine Eq.trans (b:=(Bind.bind (ReflectliteValue.parts (.agg #[.pointer (some ⟨4,133,none⟩),.pointer (some a),.int .u64 150])) _).run Tryz.prog W) rfl ?_
 simp only[Sem.run_bind,Tryz.partsP,Result.andThen]
 simp[ReflectliteValue.elem,loadVar,isAgg,underlying,Tryz.underlying133,ha,Result.andThen,Tryz.elemOfP,Tryz.mkD]
theorem Tryz.partsDa (a:Addr) (w:World):(ReflectliteValue.parts (.agg #[.pointer (some ⟨4,131,none⟩),.pointer (some a),.int .u64 409])).run Tryz.prog w=.ok (some (131,a,409)) w:=by kernel_rfl
theorem Tryz.partsD (a:Addr) (w:World):(ReflectliteValue.parts (.agg #[.pointer (some ⟨4,131,none⟩),.pointer (some a),.int .u64 153])).run Tryz.prog w=.ok (some (131,a,153)) w:=by kernel_rfl
theorem Tryz.directD (w:World):(Rtype.directlyAssignable 131 131).run Tryz.prog w=.ok true w:=by kernel_rfl
end Go.Proofs.YtkgjfdanjmnmbaaGreatDoor


namespace Go.Proofs.YtkgjfdanjmnmbaaGreatDoor
open Go.RowKit Go.Extern.Stop Go.Stop Go.Extern
theorem Tryz.setD (ta b:Addr) (c:Int) (old:Value) (W:World) (hb:W.cell? b=some (.int .i64 c)) (ht:W.cell? ta=some old) (hf:W.frozen? ta=false) :
  (ReflectliteValue.set #[.agg #[.pointer (some ⟨4,131,none⟩),.pointer (some ta),.int .u64 409],.agg #[.pointer (some ⟨4,131,none⟩),.pointer (some b),.int .u64 153]]).run Tryz.prog W
   = .ok (.tuple #[]) (W.setCell ta (.int .i64 c)):=by
 refine Eq.trans (b:=(Bind.bind (ReflectliteValue.parts (.agg #[.pointer (some ⟨4,131,none⟩),.pointer (some ta),.int .u64 409])) _).run Tryz.prog W) rfl ?_
 simp only[Sem.run_bind,Tryz.partsDa,Result.andThen]
 erw[Tryz.partsD b W]
 simp[ReflectliteValue.flagAddr,loadVar,isAgg,underlying,Tryz.underlying131,Result.andThen,Tryz.directD,storeVar,Value.cells,storeCells,Addr.add]
 have hl:=run_loadCells_list (P:=Tryz.prog) W b [.int .i64 c] (by
  intro j v hj
  match j,hj with
  |0,hj=>simp at hj;subst hj;simpa [Addr.add] using hb)
 have hl':(loadCells b 1).run Tryz.prog W=.ok #[.int .i64 c] W:=hl
 rw[hl']
 simp[storeCells,Addr.add]
 rw[run_store Tryz.prog W ta _ _ (by rfl)]
 simp[ht,hf]
/-- a fault of the program's own type,asked for with errors.As: it is taken into the variable at t;four blocks are new -/
theorem as_hit (c:Int) (t:Addr) (old:Value) (w:World) (hg:w.cell? ⟨1,0,none⟩=some (.iface 141 (.agg #[.pointer (some ⟨4,82,none⟩)]))) (ht0:w.cell? t=some old) (hf0:w.frozen? t=false) :
  Calls Tryz.prog 84 #[.iface 131 (.agg #[.int .i64 c]),.iface 133 (.pointer (some t))] w fun ev w'=>ev=.returned (.bool true)/\w'=((((w.alloc (.cells #[.pointer (some t)] 133)).alloc (.cells #[.pointer (some ⟨4,133,none⟩),.pointer (some ⟨w.heap.size,0,none⟩),.int .u64 150] 174)).alloc (.cells #[.pointer (some ⟨4,133,none⟩),.pointer (some ⟨w.heap.size,0,none⟩),.int .u64 150] 174)).alloc (.cells #[.int .i64 c] 131)).setCell t (.int .i64 c):=by
 have hA:=@run_callFunc_extern Tryz.prog 119 _ (fun args=>ReflectliteValue.unpack (args.getD 0 (.tuple #[]))) Tryz.func119 (by kernel_rfl) (by kernel_rfl) (by kernel_rfl) (by kernel_rfl)
 have hB:=@run_callFunc_extern Tryz.prog 120 _ (ReflectliteValue.methodAny (ReflectliteValue.valueError "reflectlite.Value.Type" 0) (fun t _ _ _=>ReflectliteType.toType t)) Tryz.func120 (by kernel_rfl) (by kernel_rfl) (by kernel_rfl) (by kernel_rfl)
 have hC:=@run_callFunc_extern Tryz.prog 121 _ (ReflectliteValue.method (ReflectliteValue.valueError "reflectlite.Value.IsNil" 0) ReflectliteValue.isNil) Tryz.func121 (by kernel_rfl) (by kernel_rfl) (by kernel_rfl) (by kernel_rfl)
 have hD:=@run_callFunc_extern Tryz.prog 233 _ (ReflectliteType.abiMethod fun t=>do pure (.int .u8 (<-Rtype.kind t))) Tryz.func233 (by kernel_rfl) (by kernel_rfl) (by kernel_rfl) (by kernel_rfl)
 have hE:=@run_callFunc_extern Tryz.prog 242 _ (ReflectliteType.method ReflectliteType.elem) Tryz.func242 (by kernel_rfl) (by kernel_rfl) (by kernel_rfl) (by kernel_rfl)
 have hF:=@run_callFunc_extern Tryz.prog 243 _ (ReflectliteType.relation "Implements" ReflectliteType.implements_) Tryz.func243 (by kernel_rfl) (by kernel_rfl) (by kernel_rfl) (by kernel_rfl)
 have hG:=@run_callFunc_extern Tryz.prog 69 _ ReflectliteType.typeOf Tryz.func69 (by kernel_rfl) (by kernel_rfl) (by kernel_rfl) (by kernel_rfl)
 have hH:=@run_callFunc_extern Tryz.prog 240 _ (ReflectliteType.relation "AssignableTo" ReflectliteType.assignableTo) Tryz.func240 (by kernel_rfl) (by kernel_rfl) (by kernel_rfl) (by kernel_rfl)
 have hI:=@run_callFunc_extern Tryz.prog 158 _ (ReflectliteValue.method (ReflectliteValue.valueError "reflectlite.Value.Elem" 0) ReflectliteValue.elem) Tryz.func158 (by kernel_rfl) (by kernel_rfl) (by kernel_rfl) (by kernel_rfl)
 have hJ:=@run_callFunc_extern Tryz.prog 159 _ ReflectliteValue.set Tryz.func159 (by kernel_rfl) (by kernel_rfl) (by kernel_rfl) (by kernel_rfl)
 have f1:=Tryz.typeOfD
 have f2:=Tryz.methodAssignableTo
 have f3:=Tryz.assignableD
 have f4:=Tryz.valueOfD
 have f5:=Tryz.valueOfP
 have f6:=Tryz.typeP
 have f7:=Tryz.methodKind
 have f8:=Tryz.methodElem
 have f9:=Tryz.methodImplements
 have f10:=Tryz.kindP
 have f11:=Tryz.kindD
 have f12:=Tryz.elemP
 have f13:=Tryz.implementsD
 obtain⟨vb,hvb⟩:∃ vb,vb=Obj.cells #[.pointer (some ⟨4,133,none⟩),.pointer (some ⟨w.heap.size,0,none⟩),.int .u64 150] 174:=⟨_,rfl⟩
 have n8:=Tryz.isNilP ⟨w.heap.size,0,none⟩ t ((w.alloc (.cells #[.pointer (some t)] 133)).alloc vb) (by rw[hvb];simp)
 have hlt:1 < w.heap.size:=by
  rcases Nat.lt_or_ge 1 w.heap.size with h|h
  ·exact h
  ·simp[World.cell?,Array.getElem?_eq_none h]at hg
 have hg2:((w.alloc (.cells #[.pointer (some t)] 133)).alloc vb).cell? ⟨1,0,none⟩=some (.iface 141 (.agg #[.pointer (some ⟨4,82,none⟩)])):=by
  rw[World.cell?_alloc_lt _ _ ⟨1,0,none⟩ (Nat.lt_of_lt_of_le hlt (by simp)),World.cell?_alloc_lt _ _ ⟨1,0,none⟩ hlt];exact hg
 have htl:t.block<w.heap.size:=by
  rcases Nat.lt_or_ge t.block w.heap.size with h|h
  ·exact h
  ·simp[World.cell?,Array.getElem?_eq_none h]at ht0
 have el:=Tryz.elemVP ⟨w.heap.size,0,none⟩ t (((w.alloc (.cells #[.pointer (some t)] 133)).alloc vb).alloc vb) (by rw[World.cell?_alloc_lt _ _ ⟨w.heap.size,0,none⟩ (by simp;omega),hvb];simp)
 have st:=Tryz.setD t ⟨w.heap.size+1+1+1,0,none⟩ c old ((((w.alloc (.cells #[.pointer (some t)] 133)).alloc vb).alloc vb).alloc (.cells #[.int .i64 c] 131))
  (by rw[World.cell?_alloc_at _ _ _ _ (by simp)];rfl)
  (by rw[World.cell?_alloc_lt _ _ t (by simp;omega),World.cell?_alloc_lt _ _ t (by simp;omega),World.cell?_alloc_lt _ _ t (by simp;omega),World.cell?_alloc_lt _ _ t htl];exact ht0)
  (by rw[World.frozen?_alloc_old _ _ t (by simp;omega),World.frozen?_alloc_old _ _ t (by simp;omega),World.frozen?_alloc_old _ _ t (by simp;omega),World.frozen?_alloc_old _ _ t (Nat.ne_of_lt htl)];exact hf0)
 subst hvb
 go_enter Tryz.func84,Tryz.ntmps84
 go_wp2
 refine wp_loop_rounds 1 ?_
 rw[rounds_succ]
 go_wp2
 go_ret
 exact⟨rfl,rfl⟩
end Go.Proofs.YtkgjfdanjmnmbaaGreatDoor


namespace Go.Proofs.YtkgjfdanjmnmbaaGreatDoor.Gn
open Go.RowKit
theorem ret_int {k:IntKind} {a b:Int} (h:a=b):Ending.returned (.int k a)=.returned (.int k b):=by rw[h]
theorem not_half (u:Nat) (h:u<=18446744073709551615):bits BinOp.xor IntKind.u64 IntKind.u64.max ((u:Int)/2)=((18446744073709551615-u/2:Nat):Int):=by
 have e:((u:Int)/2)=((u/2:Nat):Int):=by omega
 rw[e,show IntKind.u64.max=((18446744073709551615:Nat):Int) from rfl,u64_xor_nat _ _ (by decide) (by omega)]
 have e:=congrArg BitVec.toNat (BitVec.allOnes_xor (x:=BitVec.ofNat 64 (u/2)))
 rw[BitVec.toNat_xor,BitVec.toNat_not,BitVec.toNat_allOnes,BitVec.toNat_ofNat,Nat.mod_eq_of_lt (by omega)]at e
 exact congrArg (fun n:Nat=>(n:Int)) e
theorem low_bit (u:Nat) (h:u<=18446744073709551615):bits BinOp.and IntKind.u64 (u:Int) 1=((u%2:Nat):Int):=by
 have:=u64_and_nat u 1 (by omega) (by decide)
 rw[nat_mask1]at this
 exact this
theorem unfold_any (u:Nat) (w:World) (h:u<=18446744073709551615) :
  Calls Tryz.prog 118 #[.int .u64 u] w fun e w'=>e=.returned (.int .i64 (unz u))/\w'=w:=by
 have hl:=low_bit u h
 by_cases hodd:u%2=1
 ·have ht:(bits BinOp.and IntKind.u64 (u:Int) 1==1)=true:=by rw[hl,hodd];rfl
  obtain⟨z,hz⟩:∃ z,z=18446744073709551615-u/2:=⟨_,rfl⟩
  have hn:=not_half u h
  rw[<-hz]at hn
  have HO:=hide (unz_odd u hodd)
  have HZ:=hide hz
  clear hl hodd hz
  go_enter Tryz.func118,Tryz.ntmps118
  go_wp2
  go_ret
  exact⟨ret_int (by rw[HO.out,HZ.out];simp[wrap64];omega),rfl⟩
 ·have ht:(bits BinOp.and IntKind.u64 (u:Int) 1==1)=false:=by rw[hl];simp;omega
  have HO:=hide (unz_even' u hodd)
  clear hl hodd
  go_enter Tryz.func118,Tryz.ntmps118
  go_wp2
  go_ret
  exact⟨ret_int HO.out,rfl⟩
theorem place_big (s:ByteArray) (a:Int) (w:World) (hs:s.size<=maxLen) (h:8000<s.size) :
  Calls Tryz.prog 116 #[.string s,.int .i64 a] w fun e w'=>e=.returned (.iface 131 (.agg #[.int .i64 2]))/\w'=w:=by
 unfold maxLen at hs
 go_enter Tryz.func116,Tryz.ntmps116
 go_wp2
 go_ret
 exact⟨rfl,rfl⟩
theorem place_neg (s:ByteArray) (a:Int) (w:World) (hs:¬8000<s.size) (h:a<0) :
  Calls Tryz.prog 116 #[.string s,.int .i64 a] w fun e w'=>e=.returned (.iface 131 (.agg #[.int .i64 1]))/\w'=w:=by
 go_enter Tryz.func116,Tryz.ntmps116
 go_wp2
 go_ret
 exact⟨rfl,rfl⟩
theorem place_ok (s:ByteArray) (a:Int) (w:World) (hs:¬8000<s.size) (h:¬a<0) :
  Calls Tryz.prog 116 #[.string s,.int .i64 a] w fun e w'=>e=.returned .nilIface/\w'=w:=by
 go_enter Tryz.func116,Tryz.ntmps116
 go_wp2
 go_ret
 exact⟨rfl,rfl⟩
def rd (s:ByteArray) (a:Int):Int × Nat × Int:=if 8000<s.size then (0,0,2) else if a<0 then (0,0,1) else (unz (numR s a.toNat).1,(numR s a.toNat).2.1,(numR s a.toNat).2.2)
theorem run_codes (s:ByteArray):∀ f k p u,(run s f k p u).2.2=0∨((run s f k p u).1=0/\(run s f k p u).2.1=0/\((run s f k p u).2.2=3∨(run s f k p u).2.2=4)):=by
 intro f
 induction f with
 |zero=>intro k p u;exact .inr ⟨rfl,rfl,.inl rfl⟩
 |succ f ih =>
  intro k p u
  rw[run]
  split
  ·exact .inr ⟨rfl,rfl,.inr rfl⟩
  ·split
   ·exact .inr ⟨rfl,rfl,.inl rfl⟩
   ·split
    ·split
     ·exact .inr ⟨rfl,rfl,.inl rfl⟩
     ·exact .inl rfl
    ·exact ih _ _ _
theorem run_bound (s:ByteArray):∀ f k p u,k<=9->u<2 ^ (7*k)->(run s f k p u).1<=18446744073709551615:=by
 intro f
 induction f with
 |zero=>intro k p u _ _;exact Nat.zero_le _
 |succ f ih =>
  intro k p u hk hu
  rw[run]
  split
  ·exact Nat.zero_le _
  ·split
   ·exact Nat.zero_le _
   ·rename_i h9
    split
    ·split
     ·exact Nat.zero_le _
     ·exact(next_small u (byteN s p) k hu hk h9).2
    ·exact ih _ _ _ (by omega) (next_lt _ _ _ hu)
theorem run_place (s:ByteArray):∀ f k p u,(run s f k p u).2.1<=s.size:=by
 intro f
 induction f with
 |zero=>intro k p u;exact Nat.zero_le _
 |succ f ih =>
  intro k p u
  rw[run]
  split
  ·exact Nat.zero_le _
  ·split
   ·exact Nat.zero_le _
   ·split
    ·split
     ·exact Nat.zero_le _
     ·show p+1<=s.size;omega
    ·exact ih _ _ _
theorem read_any (s:ByteArray) (a:Int) (w:World) (hs:s.size<=maxLen) :
  Calls Tryz.prog 83 #[.string s,.int .i64 a] w fun e w'=>e=.returned (.tuple #[.int .i64 (rd s a).1,.int .i64 (rd s a).2.1,errV (rd s a).2.2])/\w'=w:=by
 by_cases h1:8000<s.size
 ·have HE:Hid (rd s a=(0,0,2)):=by unfold Hid rd;rw[if_pos h1]
  go_enter Tryz.func83,Tryz.ntmps83
  go_wp2_with fail
  refine(place_big s a _ hs h1).mono ?_
  rintro e w' ⟨rfl,hw⟩
  subst w'
  go_wp2
  go_ret3
  exact⟨by rw[HE.out];rfl,rfl⟩
 ·by_cases h2:a<0
  ·have HE:Hid (rd s a=(0,0,1)):=by unfold Hid rd;rw[if_neg h1,if_pos h2]
   go_enter Tryz.func83,Tryz.ntmps83
   go_wp2_with fail
   refine(place_neg s a _ h1 h2).mono ?_
   rintro e w' ⟨rfl,hw⟩
   subst w'
   go_wp2
   go_ret3
   exact⟨by rw[HE.out];rfl,rfl⟩
  ·obtain⟨n,rfl⟩:=Int.eq_ofNat_of_zero_le (show 0<=a from by omega)
   have HE:Hid (rd s (n:Int)=(unz (numR s n).1,(numR s n).2.1,(numR s n).2.2)):=by unfold Hid rd;rw[if_neg h1,if_neg h2,Int.toNat_natCast]
   have hb:(numR s n).1<=18446744073709551615:=run_bound s 10 0 n 0 (by decide) (by decide)
   go_enter Tryz.func83,Tryz.ntmps83
   go_wp2_with fail
   refine(place_ok s n _ h1 (by omega)).mono ?_
   rintro e w' ⟨rfl,hw⟩
   subst w'
   go_wp2_with fail
   refine(bits_any s n _ (by omega)).mono ?_
   generalize numR s n=r at HE hb ⊢
   obtain⟨u,p,c⟩:=r
   simp only[bitsV]at HE hb ⊢
   generalize hev:errV c=ev
   have HEV:=hide hev
   clear hev
   rintro e w' ⟨rfl,hw⟩
   subst w'
   go_wp2_with fail
   refine(unfold_any u _ hb).mono ?_
   rintro e w' ⟨rfl,hw⟩
   subst w'
   go_wp2
   go_ret3
   exact⟨by rw[HE.out,<-HEV.out];rfl,rfl⟩
def handle:Value:=.iface 141 (.agg #[.pointer (some ⟨4,82,none⟩)])
theorem code_any (c:Int) (w:World) (hg:w.cell? ⟨1,0,none⟩=some handle) :
  Calls Tryz.prog 59 #[.iface 131 (.agg #[.int .i64 c])] w fun e w'=>e=.returned (.int .i64 c)/\Below w.heap.size w w':=by
 have hlt:1 < w.heap.size:=by
  rcases Nat.lt_or_ge 1 w.heap.size with h|h
  ·exact h
  ·simp[World.cell?,Array.getElem?_eq_none h]at hg
 have hgA:(w.alloc (.cells #[.int .i64 0] 131)).cell? ⟨1,0,none⟩=some handle:=by
  rw[World.cell?_alloc_lt _ _ ⟨1,0,none⟩ hlt];exact hg
 have htA:(w.alloc (.cells #[.int .i64 0] 131)).cell? ⟨w.heap.size,0,none⟩=some (.int .i64 0):=by simp
 have hfA:(w.alloc (.cells #[.int .i64 0] 131)).frozen? ⟨w.heap.size,0,none⟩=false:=by simp
 go_enter Tryz.func59,Tryz.ntmps59
 go_wp2_with fail
 refine(as_hit c _ (.int .i64 0) _ hgA htA hfA).mono ?_
 rintro e w' ⟨rfl,rfl⟩
 go_wp2
 go_ret
 exact⟨rfl,(((((Below.refl _ _).alloc (Nat.le_refl _) _).alloc (by simp) _).alloc (by simp;omega) _).alloc (by simp;omega) _).alloc (by simp;omega) _⟩
theorem rd_codes (s:ByteArray) (a:Int):(rd s a).2.2=0∨(rd s a).2.2≠0/\(rd s a).1=0/\(rd s a).2.1=0:=by
 unfold rd
 split
 ·exact .inr ⟨by decide,rfl,rfl⟩
 ·split
  ·exact .inr ⟨by decide,rfl,rfl⟩
  ·rcases run_codes s 10 0 a.toNat 0 with h|⟨h1,h2,h3⟩
   ·exact .inl h
   ·refine .inr ⟨?_,?_,h2⟩
    ·show (numR s a.toNat).2.2≠0
     unfold numR
     omega
    ·show unz (numR s a.toNat).1=0
     unfold numR
     rw[h1]
     rfl
theorem getV_rd (s:ByteArray) (a:Int):getV s a=if (rd s a).2.2=0 then outN (rd s a).1 (rd s a).2.1 0 else outN 0 0 (rd s a).2.2:=by
 unfold getV rd
 split
 ·rfl
 ·split
  ·rfl
  ·rfl
theorem bcell {W w1:World} (hb:Below W.heap.size W w1):(∀ b o,b<W.heap.size->w1.cell? ⟨b,o,none⟩=W.cell? ⟨b,o,none⟩)/\(∀ b o,b<W.heap.size->w1.frozen? ⟨b,o,none⟩=W.frozen? ⟨b,o,none⟩) :=
 ⟨fun b o h=>hb.cell (p:=⟨b,o,none⟩) h,fun b o h=>hb.frozen (p:=⟨b,o,none⟩) h⟩
theorem lt_of_handle {w:World} (hg:w.cell? ⟨1,0,none⟩=some handle):1 < w.heap.size:=by
 rcases Nat.lt_or_ge 1 w.heap.size with h|h
 ·exact h
 ·simp[World.cell?,Array.getElem?_eq_none h]at hg
theorem handle_below {w w1:World} (hb:Below w.heap.size w w1) (hg:w.cell? ⟨1,0,none⟩=some handle):w1.cell? ⟨1,0,none⟩=some handle :=
 (hb.cell (p:=⟨1,0,none⟩) (lt_of_handle hg)).trans hg
theorem handle_alloc {w:World} (o:Obj) (hg:w.cell? ⟨1,0,none⟩=some handle):(w.alloc o).cell? ⟨1,0,none⟩=some handle:=by
 rw[World.cell?_alloc_lt _ _ ⟨1,0,none⟩ (lt_of_handle hg)];exact hg
theorem get_impl (s:ByteArray) (a:Int) (w:World) (hs:s.size<=maxLen) (hg:w.cell? ⟨1,0,none⟩=some handle) :
  Calls Tryz.prog 62 #[.string s,.int .i64 a] w fun e w'=>e=.returned (getV s a)/\Below w.heap.size w w':=by
 have HV:=hide (getV_rd s a)
 have HG:=hide hg
 clear hg
 by_cases h0:(rd s a).2.2=0
 ·go_enter Tryz.func62,Tryz.ntmps62
  go_wp2_with fail
  refine(read_any s a _ hs).mono ?_
  generalize rd s a=r at HV h0 ⊢
  obtain⟨n,p,c⟩:=r
  simp only at HV h0 ⊢
  subst h0
  rintro e w' ⟨rfl,hw⟩
  subst w'
  simp only[errV,if_pos]
  go_wp2
  refine bodyPost_ret (v:=outN n p 0) (by simp[results,outN,Tryz.results62,go_sem]) rfl ⟨by rw[HV.out];rfl,(Below.refl _ _).alloc (Nat.le_refl _) _⟩
 ·go_enter Tryz.func62,Tryz.ntmps62
  go_wp2_with fail
  refine(read_any s a _ hs).mono ?_
  generalize rd s a=r at HV h0 ⊢
  obtain⟨n,p,c⟩:=r
  simp only at HV h0 ⊢
  have H0:=hide h0
  rintro e w' ⟨rfl,hw⟩
  subst w'
  simp only[errV,if_neg h0]
  clear h0
  go_wp2_with fail
  refine(code_any c _ (handle_alloc _ HG.out)).mono ?_
  rintro e w1 ⟨rfl,hb1⟩
  obtain⟨hc1,hf1⟩:=bcell hb1
  go_wp2
  refine bodyPost_ret (v:=outN 0 0 c) (by simp[results,outN,Tryz.results62,go_sem,hc1]) rfl ⟨by rw[HV.out,if_neg H0.out],?_⟩
  exact((((Below.refl w.heap.size w).alloc (Nat.le_refl _) _).trans (hb1.mono (by simp))).setCell (Nat.le_refl _) _ |>.setCell (Nat.le_refl _) _).setCell (Nat.le_refl _) _
end Go.Proofs.YtkgjfdanjmnmbaaGreatDoor.Gn


namespace Go.Proofs.YtkgjfdanjmnmbaaGreatDoor.Gn
open Go.RowKit
def rt (s:ByteArray) (a:Int):ByteArray × Nat × Int :=
 if (rd s a).2.2≠0 then (⟨#[]⟩,0,(rd s a).2.2)
 else if (rd s a).1<0∨8000<(rd s a).1 then (⟨#[]⟩,0,3)
 else if s.size<(rd s a).2.1+(rd s a).1.toNat then (⟨#[]⟩,0,4)
 else (s.extract (rd s a).2.1 ((rd s a).2.1+(rd s a).1.toNat),(rd s a).2.1+(rd s a).1.toNat,0)
def outT (t:ByteArray) (at_ code:Int):Value:=.agg #[.string t,.int .i64 at_,.int .i64 code]
def textV (s:ByteArray) (a:Int):Value:=outT (rt s a).1 (rt s a).2.1 (rt s a).2.2
theorem rd_place (s:ByteArray) (a:Int) (h:(rd s a).2.2=0):s.size<=8000/\(rd s a).2.1<=s.size:=by
 unfold rd at h ⊢
 split at h
 ·exact absurd h (by decide)
 ·split at h
  ·exact absurd h (by decide)
  ·rename_i h1 h2
   rw[if_neg h1,if_neg h2]
   exact⟨by omega,run_place s 10 0 a.toNat 0⟩
theorem rt_bad (s:ByteArray) (a n:Int) (p:Nat) (c:Int) (hr:rd s a=(n,p,c)) (h:¬c=0):rt s a=(⟨#[]⟩,0,c):=by
 unfold rt;rw[hr];exact if_pos h
theorem rt_size (s:ByteArray) (a n:Int) (p:Nat) (hr:rd s a=(n,p,0)) (h:n<0∨8000<n):rt s a=(⟨#[]⟩,0,3):=by
 unfold rt;rw[hr];exact(if_neg (by simp)).trans (if_pos h)
theorem rt_short (s:ByteArray) (a:Int) (m p:Nat) (hr:rd s a=((m:Int),p,0)) (h8:m<=8000) (h:s.size<p+m):rt s a=(⟨#[]⟩,0,4):=by
 unfold rt;rw[hr];exact(if_neg (by simp)).trans ((if_neg (by show ¬((m:Int)<0∨8000<(m:Int));omega)).trans (if_pos h))
theorem rt_ok (s:ByteArray) (a:Int) (m p:Nat) (hr:rd s a=((m:Int),p,0)) (h8:m<=8000) (h:¬s.size<p+m):rt s a=(s.extract p (p+m),p+m,0):=by
 unfold rt;rw[hr];exact(if_neg (by simp)).trans ((if_neg (by show ¬((m:Int)<0∨8000<(m:Int));omega)).trans (if_neg h))
theorem getV_of (s:ByteArray) (a n:Int) (p:Nat) (c:Int) (hr:rd s a=(n,p,c)):getV s a=if c=0 then outN n p 0 else outN 0 0 c:=by
 rw[getV_rd,hr]
theorem textV_of (s:ByteArray) (a:Int) (t:ByteArray) (p:Nat) (c:Int) (h:rt s a=(t,p,c)):textV s a=outT t p c:=by
 unfold textV;rw[h]
def tupV (r:ByteArray × Nat × Int):Value:=.tuple #[.string r.1,.int .i64 r.2.1,errV r.2.2]
theorem readText_any (s:ByteArray) (a:Int) (w:World) (hs:s.size<=maxLen) :
  Calls Tryz.prog 58 #[.string s,.int .i64 a] w fun e w'=>e=.returned (tupV (rt s a))/\Below w.heap.size w w':=by
 obtain⟨⟨n,p,c⟩,hr⟩:∃ r,rd s a=r:=⟨_,rfl⟩
 have HR:=hide hr
 by_cases h0:c=0
 ·subst h0
  obtain⟨hs8,hp⟩:=rd_place s a (by rw[hr])
  rw[hr]at hp
  simp only at hp
  by_cases hn:n<0∨8000<n
  ·have HT:=hide (rt_size s a n p hr hn)
   clear hr
   by_cases hneg:n<0
   ·clear hn
    go_enter Tryz.func58,Tryz.ntmps58
    go_wp2_with fail
    refine(read_any s a _ hs).mono ?_
    rw[HR.out]
    simp only[errV,if_pos]
    rintro e w' ⟨rfl,hw⟩
    subst w'
    go_wp2
    go_ret3
    exact⟨by rw[HT.out];rfl,Below.refl _ _⟩
   ·have hbig:(8000:Int)<n:=by omega
    clear hn
    go_enter Tryz.func58,Tryz.ntmps58
    go_wp2_with fail
    refine(read_any s a _ hs).mono ?_
    rw[HR.out]
    simp only[errV,if_pos]
    rintro e w' ⟨rfl,hw⟩
    subst w'
    go_wp2
    go_ret3
    exact⟨by rw[HT.out];rfl,Below.refl _ _⟩
  ·obtain⟨m,rfl⟩:=Int.eq_ofNat_of_zero_le (show 0<=n from by omega)
   have hm8:m<=8000:=by omega
   have hnb:¬((8000:Int)<m):=by omega
   by_cases hl:s.size<p+m
   ·have HT:=hide (rt_short s a m p hr hm8 hl)
    clear hn hr
    go_enter Tryz.func58,Tryz.ntmps58
    go_wp2_with fail
    refine(read_any s a _ hs).mono ?_
    rw[HR.out]
    simp only[errV,if_pos]
    rintro e w' ⟨rfl,hw⟩
    subst w'
    go_wp2
    go_ret3
    exact⟨by rw[HT.out];rfl,Below.refl _ _⟩
   ·have HT:=hide (rt_ok s a m p hr hm8 hl)
    clear hn hr
    go_enter Tryz.func58,Tryz.ntmps58
    go_wp2_with fail
    refine(read_any s a _ hs).mono ?_
    rw[HR.out]
    simp only[errV,if_pos]
    rintro e w' ⟨rfl,hw⟩
    subst w'
    go_wp2_with fail
    refine(Nu.cut_any s p (p+m) _ (by omega) (by omega) (by omega)).mono ?_
    rintro e w1 ⟨rfl,hb1⟩
    go_wp2
    go_ret3
    exact⟨by rw[HT.out];rfl,hb1⟩
 ·have HT:=hide (rt_bad s a n p c hr h0)
  have H0:=hide h0
  go_enter Tryz.func58,Tryz.ntmps58
  go_wp2_with fail
  refine(read_any s a _ hs).mono ?_
  rw[HR.out]
  simp only[errV,if_neg h0]
  clear hr h0
  rintro e w' ⟨rfl,hw⟩
  subst w'
  go_wp2
  go_ret3
  exact⟨by rw[HT.out];simp only[tupV,errV,if_neg H0.out];rfl,Below.refl _ _⟩
theorem rt_codes (s:ByteArray) (a:Int) (h:¬(rt s a).2.2=0):(rt s a).1=⟨#[]⟩/\(rt s a).2.1=0:=by
 unfold rt at h ⊢
 split at h
 ·rename_i h1;rw[if_pos h1];exact⟨rfl,rfl⟩
 ·rename_i h1
  rw[if_neg h1]
  split at h
  ·rename_i h2;rw[if_pos h2];exact⟨rfl,rfl⟩
  ·rename_i h2
   rw[if_neg h2]
   split at h
   ·rename_i h3;rw[if_pos h3];exact⟨rfl,rfl⟩
   ·exact absurd rfl h
theorem text_impl (s:ByteArray) (a:Int) (w:World) (hs:s.size<=maxLen) (hg:w.cell? ⟨1,0,none⟩=some handle) :
  Calls Tryz.prog 41 #[.string s,.int .i64 a] w fun e w'=>e=.returned (textV s a)/\Below w.heap.size w w':=by
 have HG:=hide hg
 clear hg
 obtain⟨⟨t,p,c⟩,hr⟩:∃ r,rt s a=r:=⟨_,rfl⟩
 have HR:=hide hr
 by_cases h0:c=0
 ·subst h0
  have HT:=hide (textV_of s a t p 0 hr)
  clear hr
  go_enter Tryz.func41,Tryz.ntmps41
  go_wp2_with fail
  refine(readText_any s a _ hs).mono ?_
  rw[HR.out]
  simp only[tupV,errV,if_pos]
  rintro e w1 ⟨rfl,hb1⟩
  obtain⟨hc1,hf1⟩:=bcell hb1
  go_wp2
  refine bodyPost_ret (v:=outT t p 0) (by simp[results,outT,Tryz.results41,go_sem,hc1]) rfl ⟨by rw[HT.out],?_⟩
  exact((((Below.refl w.heap.size w).alloc (Nat.le_refl _) _).trans (hb1.mono (by simp))).setCell (Nat.le_refl _) _ |>.setCell (Nat.le_refl _) _).setCell (Nat.le_refl _) _
 ·have hz:=rt_codes s a (by rw[hr];exact h0)
  rw[hr]at hz
  simp only at hz
  obtain⟨rfl,rfl⟩:=hz
  have HT:=hide (textV_of s a _ _ c hr)
  clear hr
  go_enter Tryz.func41,Tryz.ntmps41
  go_wp2_with fail
  refine(readText_any s a _ hs).mono ?_
  rw[HR.out]
  simp only[tupV,errV,if_neg h0]
  clear h0
  rintro e w1 ⟨rfl,hb1⟩
  obtain⟨hc1,hf1⟩:=bcell hb1
  have hz1:w.heap.size<w1.heap.size:=by have:=hb1.size;simp at this;omega
  have HB1:=hide (((Below.refl w.heap.size w).alloc (Nat.le_refl _) _).trans (hb1.mono (by simp)))
  go_wp2_with fail
  refine(code_any c _ (handle_below HB1.out HG.out)).mono ?_
  rintro e w2 ⟨rfl,hb2⟩
  obtain⟨hc2,hf2⟩:=bcell hb2
  go_wp2
  refine bodyPost_ret (v:=outT ⟨#[]⟩ 0 c) (by simp[results,outT,Tryz.results41,go_sem,hc1,hc2,hz1]) rfl ⟨by rw[HT.out];rfl,?_⟩
  exact((((HB1.out).trans (hb2.mono HB1.out.size)).setCell (Nat.le_refl _) _).setCell (Nat.le_refl _) _).setCell (Nat.le_refl _) _
end Go.Proofs.YtkgjfdanjmnmbaaGreatDoor.Gn


namespace Go.Proofs.YtkgjfdanjmnmbaaGreatDoor.Gn
open Go.RowKit
theorem get_in (s:ByteArray) (a:Nat) (w:World) (hs:s.size<=8000) (ha:a<s.size) :
  Calls Tryz.prog 36 #[.string s,.int .i64 a] w fun e w'=>e=.returned (resV (numR s a))/\Below w.heap.size w w':=by
 go_enter Tryz.func36,Tryz.ntmps36
 go_wp2
 go_loop [5,6,7,8] (fun u i _ _=>∃ k v:Nat,k<=9/\i=.int .i64 k/\u=.int .u64 v/\v<2 ^ (7*k)/\numR s a=run s (10-k) k (a+k) v) (fun _ i _ _=>10-(intOf i).toNat)
 case atStart=>exact⟨0,0,by omega,rfl,rfl,by decide,rfl⟩
 case round =>
  obtain⟨k,v,hk,rfl,rfl,hv,hr⟩:=hrel
  have HV:=hide hv
  have HR:=hide hr
  have HK:=hide hk
  have hvb:v<=9223372036854775807:=by have:=pow_le k hk;omega
  clear hv hr
  obtain⟨f,hf⟩:∃ f,10-k=f+1:=⟨9-k,by omega⟩
  have HF:=hide hf
  clear hf
  by_cases hp:a+k<s.size
  ·have hb:s[a+k].toNat<256:=s[a+k].toNat_lt
   by_cases h9:k=9/\1<s[a+k].toNat
   ·have hk9:((k:Int)==9)=true:=beq_iff_eq.2 (by omega)
    have hc1:(1:Int)<s[a+k].toNat:=by omega
    have HE:Hid (numR s a=(0,0,3)):=HR.out.trans (by rw[HF.out];exact run_nine s f k (a+k) v hp h9.1 h9.2)
    have HH:=hide h9
    clear h9
    go_wp2
    refine bodyPost_ret (v:=outN 0 0 3) (by simp[results,outN,Tryz.results36,go_sem]) rfl ⟨by rw[HE.out];rfl,(Below.refl _ _).alloc (Nat.le_refl _) _⟩
   ·obtain⟨x,hx⟩:∃ x,x=v+s[a+k].toNat%128*2 ^ (7*k):=⟨_,rfl⟩
    obtain⟨hm1,hm2⟩:=next_small v s[a+k].toNat k HV.out hk h9
    have hw:=wrap_next v s[a+k].toNat k hm1 hm2
    rw[<-hx]at hw hm2
    have HX:=hide hx
    clear hx hm1
    have H9:=hide h9
    clear h9
    by_cases hc:s[a+k].toNat<128
    ·by_cases hz:s[a+k].toNat=0/\0<k
     ·have HE:Hid (numR s a=(0,0,3)):=HR.out.trans (by rw[HF.out];exact run_zero s f k (a+k) v hp hz.1 hz.2)
      have hcz:((s[a+k].toNat:Int)==0)=true:=beq_iff_eq.2 (by omega)
      have hcd:decide ((1:Int)<s[a+k].toNat)=false:=decide_eq_false (by omega)
      have hk0:(0:Int)<k:=by omega
      have HZ:=hide hz
      clear hz
      by_cases e9:k=9
      ·have hk9:((k:Int)==9)=true:=beq_iff_eq.2 (by omega)
       have H99:=hide e9
       clear e9
       go_wp2
       refine bodyPost_ret (v:=outN 0 0 3) (by simp[results,outN,Tryz.results36,go_sem]) rfl ⟨by rw[HE.out];rfl,(Below.refl _ _).alloc (Nat.le_refl _) _⟩
      ·have hk9:((k:Int)==9)=false:=beq_eq_false_iff_ne.2 (by omega)
       go_wp2
       refine bodyPost_ret (v:=outN 0 0 3) (by simp[results,outN,Tryz.results36,go_sem]) rfl ⟨by rw[HE.out];rfl,(Below.refl _ _).alloc (Nat.le_refl _) _⟩
     ·have HE:Hid (numR s a=(x,a+k+1,0)):=HR.out.trans (by rw[HF.out,HX.out];exact run_last s f k (a+k) v hp H9.out hc hz)
      have HZ:=hide hz
      clear hz
      by_cases cz:s[a+k].toNat=0
      ·have hk0:k=0:=by have:=HZ.out;omega
       have hcz:((s[a+k].toNat:Int)==0)=true:=beq_iff_eq.2 (by omega)
       have hnk:¬0<k:=by omega
       have hkd:decide (0<k)=false:=decide_eq_false hnk
       have hk9:((k:Int)==9)=false:=beq_eq_false_iff_ne.2 (by omega)
       have HC:=hide cz
       have HK0:=hide hk0
       clear cz hk0
       by_cases hodd:x%2=1
       ·have ho:(((x:Int)%2)==1)=true:=by rw[beq_iff_eq];omega
        have HO:=hide (unz_odd' x hodd)
        clear hodd
        go_wp2
        refine bodyPost_ret (v:=outN (-((x:Int)/2)-1) ((a:Int)+k+1) 0) (by simp[results,outN,Tryz.results36,go_sem]) rfl ⟨by rw[HE.out,HO.out];simp[resV],(Below.refl _ _).alloc (Nat.le_refl _) _⟩
       ·have ho:(((x:Int)%2)==1)=false:=by rw[beq_eq_false_iff_ne];omega
        have HO:=hide (unz_even' x hodd)
        clear hodd
        go_wp2
        refine bodyPost_ret (v:=outN ((x:Int)/2) ((a:Int)+k+1) 0) (by simp[results,outN,Tryz.results36,go_sem]) rfl ⟨by rw[HE.out,HO.out];simp[resV],(Below.refl _ _).alloc (Nat.le_refl _) _⟩
      ·have hcz:((s[a+k].toNat:Int)==0)=false:=beq_eq_false_iff_ne.2 (by omega)
       by_cases e9:k=9
       ·have hk9:((k:Int)==9)=true:=beq_iff_eq.2 (by omega)
        have hcd:decide ((1:Int)<s[a+k].toNat)=false:=decide_eq_false (by have:=H9.out;omega)
        have H99:=hide e9
        clear e9
        by_cases hodd:x%2=1
        ·have ho:(((x:Int)%2)==1)=true:=by rw[beq_iff_eq];omega
         have HO:=hide (unz_odd' x hodd)
         clear hodd
         go_wp2
         refine bodyPost_ret (v:=outN (-((x:Int)/2)-1) ((a:Int)+k+1) 0) (by simp[results,outN,Tryz.results36,go_sem]) rfl ⟨by rw[HE.out,HO.out];simp[resV],(Below.refl _ _).alloc (Nat.le_refl _) _⟩
        ·have ho:(((x:Int)%2)==1)=false:=by rw[beq_eq_false_iff_ne];omega
         have HO:=hide (unz_even' x hodd)
         clear hodd
         go_wp2
         refine bodyPost_ret (v:=outN ((x:Int)/2) ((a:Int)+k+1) 0) (by simp[results,outN,Tryz.results36,go_sem]) rfl ⟨by rw[HE.out,HO.out];simp[resV],(Below.refl _ _).alloc (Nat.le_refl _) _⟩
       ·have hk9:((k:Int)==9)=false:=beq_eq_false_iff_ne.2 (by omega)
        by_cases hodd:x%2=1
        ·have ho:(((x:Int)%2)==1)=true:=by rw[beq_iff_eq];omega
         have HO:=hide (unz_odd' x hodd)
         clear hodd
         go_wp2
         refine bodyPost_ret (v:=outN (-((x:Int)/2)-1) ((a:Int)+k+1) 0) (by simp[results,outN,Tryz.results36,go_sem]) rfl ⟨by rw[HE.out,HO.out];simp[resV],(Below.refl _ _).alloc (Nat.le_refl _) _⟩
        ·have ho:(((x:Int)%2)==1)=false:=by rw[beq_eq_false_iff_ne];omega
         have HO:=hide (unz_even' x hodd)
         clear hodd
         go_wp2
         refine bodyPost_ret (v:=outN ((x:Int)/2) ((a:Int)+k+1) 0) (by simp[results,outN,Tryz.results36,go_sem]) rfl ⟨by rw[HE.out,HO.out];simp[resV],(Below.refl _ _).alloc (Nat.le_refl _) _⟩
    ·have hn9:¬k=9:=by have:=H9.out;omega
     have hk9:((k:Int)==9)=false:=beq_eq_false_iff_ne.2 (by omega)
     have HE:Hid (numR s a=run s f (k+1) (a+k+1) x):=HR.out.trans (by rw[HF.out,HX.out];exact run_more s f k (a+k) v hp hn9 (by omega))
     go_wp2
     go_round
     case rel=>exact⟨k+1,x,by omega,by go_num,rfl,by rw[HX.out];exact next_lt _ _ _ HV.out,by rw[HE.out,show 10-(k+1)=f from by have:=HF.out;omega];rfl⟩
     case measure=>simp[intOf];omega
  ·have HE:Hid (numR s a=(0,0,4)):=HR.out.trans (by rw[HF.out];exact run_end s f k (a+k) v (by omega))
   go_wp2
   refine bodyPost_ret (v:=outN 0 0 4) (by simp[results,outN,Tryz.results36,go_sem]) rfl ⟨by rw[HE.out];rfl,(Below.refl _ _).alloc (Nat.le_refl _) _⟩
theorem get_spec (s:ByteArray) (a:Int) (w:World) (hs:s.size<=maxLen) :
  Calls Tryz.prog 36 #[.string s,.int .i64 a] w fun e w'=>e=.returned (getV s a)/\Below w.heap.size w w':=by
 unfold maxLen at hs
 by_cases h1:8000<s.size
 ·have HE:Hid (getV s a=outN 0 0 2):=by unfold Hid getV;rw[if_pos h1]
  go_enter Tryz.func36,Tryz.ntmps36
  go_wp2
  refine bodyPost_ret (v:=outN 0 0 2) (by simp[results,outN,Tryz.results36,go_sem]) rfl ⟨by rw[HE.out],(Below.refl _ _).alloc (Nat.le_refl _) _⟩
 ·by_cases h2:a<0
  ·have HE:Hid (getV s a=outN 0 0 1):=by unfold Hid getV;rw[if_neg h1,if_pos h2]
   go_enter Tryz.func36,Tryz.ntmps36
   go_wp2
   refine bodyPost_ret (v:=outN 0 0 1) (by simp[results,outN,Tryz.results36,go_sem]) rfl ⟨by rw[HE.out],(Below.refl _ _).alloc (Nat.le_refl _) _⟩
  ·obtain⟨n,rfl⟩:=Int.eq_ofNat_of_zero_le (show 0<=a from by omega)
   have e0:getV s (n:Int)=resV (numR s n):=by unfold getV;rw[if_neg h1,if_neg h2,Int.toNat_natCast]
   by_cases h3:n<s.size
   ·rw[e0]
    exact get_in s n w (by omega) h3
   ·have HE:Hid (getV s (n:Int)=outN 0 0 4):=e0.trans (by unfold numR;rw[run_end s 9 0 n 0 (by omega)];rfl)
    clear e0
    go_enter Tryz.func36,Tryz.ntmps36
    go_wp2
    refine wp_loop_rounds 1 ?_
    rw[rounds_succ]
    go_wp2
    refine bodyPost_ret (v:=outN 0 0 4) (by simp[results,outN,Tryz.results36,go_sem]) rfl ⟨by rw[HE.out],(Below.refl _ _).alloc (Nat.le_refl _) _⟩
end Go.Proofs.YtkgjfdanjmnmbaaGreatDoor.Gn


namespace Go.Proofs.YtkgjfdanjmnmbaaGreatDoor.Gn
open Go.RowKit
theorem text_spec (s:ByteArray) (a:Int) (w:World) (hs:s.size<=maxLen) :
  Calls Tryz.prog 34 #[.string s,.int .i64 a] w fun e w'=>e=.returned (textV s a)/\Below w.heap.size w w':=by
 obtain⟨⟨n,p,c⟩,hr⟩:∃ r,rd s a=r:=⟨_,rfl⟩
 have hgv:=getV_of s a n p c hr
 by_cases h0:c=0
 ·subst h0
  rw[if_pos rfl]at hgv
  have HGV:=hide hgv
  obtain⟨hs8,hp⟩:=rd_place s a (by rw[hr])
  rw[hr]at hp
  simp only at hp
  clear hgv
  by_cases hn:n<0∨8000<n
  ·have HT:=hide (textV_of s a _ _ _ (rt_size s a n p hr hn))
   clear hr
   by_cases hneg:n<0
   ·clear hn
    go_enter Tryz.func34,Tryz.ntmps34
    go_wp2_with fail
    refine(get_spec s a _ hs).mono ?_
    rw[HGV.out]
    simp only[outN]
    rintro e w1 ⟨rfl,hb1⟩
    obtain⟨hc1,hf1⟩:=bcell hb1
    have hz1:w.heap.size<w1.heap.size:=by have:=hb1.size;simp at this;omega
    have q0:w1.cell? ⟨w.heap.size,0,none⟩=some (.string ⟨#[]⟩):=by rw[hc1 _ _ (by simp)];simp
    have q1:w1.cell? ⟨w.heap.size,1,none⟩=some (.int .i64 0):=by rw[hc1 _ _ (by simp)];simp
    have q2:w1.cell? ⟨w.heap.size,2,none⟩=some (.int .i64 0):=by rw[hc1 _ _ (by simp)];simp
    have f0:∀ o,w1.frozen? ⟨w.heap.size,o,none⟩=false:=fun o=>by rw[hf1 _ _ (by simp)];simp
    have KB:=hide (((Below.refl w.heap.size w).alloc (Nat.le_refl _) _).trans (hb1.mono (by simp)))
    clear hc1 hf1
    go_wp2
    refine bodyPost_ret (v:=outT ⟨#[]⟩ 0 3) (by simp[results,outT,Tryz.results34,go_sem,q0,q1,q2,hz1]) rfl ⟨by rw[HT.out];rfl,?_⟩
    repeat (first|exact KB.out|exact((KB.out.setCell (Nat.le_refl _) _).setCell (Nat.le_refl _) _).setCell (Nat.le_refl _) _|refine Below.drew ?_|refine Below.alloc ?_ (by simp;omega) _)
   ·have hbig:(8000:Int)<n:=by omega
    clear hn
    go_enter Tryz.func34,Tryz.ntmps34
    go_wp2_with fail
    refine(get_spec s a _ hs).mono ?_
    rw[HGV.out]
    simp only[outN]
    rintro e w1 ⟨rfl,hb1⟩
    obtain⟨hc1,hf1⟩:=bcell hb1
    have hz1:w.heap.size<w1.heap.size:=by have:=hb1.size;simp at this;omega
    have q0:w1.cell? ⟨w.heap.size,0,none⟩=some (.string ⟨#[]⟩):=by rw[hc1 _ _ (by simp)];simp
    have q1:w1.cell? ⟨w.heap.size,1,none⟩=some (.int .i64 0):=by rw[hc1 _ _ (by simp)];simp
    have q2:w1.cell? ⟨w.heap.size,2,none⟩=some (.int .i64 0):=by rw[hc1 _ _ (by simp)];simp
    have f0:∀ o,w1.frozen? ⟨w.heap.size,o,none⟩=false:=fun o=>by rw[hf1 _ _ (by simp)];simp
    have KB:=hide (((Below.refl w.heap.size w).alloc (Nat.le_refl _) _).trans (hb1.mono (by simp)))
    clear hc1 hf1
    go_wp2
    refine bodyPost_ret (v:=outT ⟨#[]⟩ 0 3) (by simp[results,outT,Tryz.results34,go_sem,q0,q1,q2,hz1]) rfl ⟨by rw[HT.out];rfl,?_⟩
    repeat (first|exact KB.out|exact((KB.out.setCell (Nat.le_refl _) _).setCell (Nat.le_refl _) _).setCell (Nat.le_refl _) _|refine Below.drew ?_|refine Below.alloc ?_ (by simp;omega) _)
  ·obtain⟨m,rfl⟩:=Int.eq_ofNat_of_zero_le (show 0<=n from by omega)
   have hm8:m<=8000:=by omega
   have hnb:¬((8000:Int)<m):=by omega
   by_cases hl:s.size<p+m
   ·have HT:=hide (textV_of s a _ _ _ (rt_short s a m p hr hm8 hl))
    clear hn hr
    go_enter Tryz.func34,Tryz.ntmps34
    go_wp2_with fail
    refine(get_spec s a _ hs).mono ?_
    rw[HGV.out]
    simp only[outN]
    rintro e w1 ⟨rfl,hb1⟩
    obtain⟨hc1,hf1⟩:=bcell hb1
    have hz1:w.heap.size<w1.heap.size:=by have:=hb1.size;simp at this;omega
    have q0:w1.cell? ⟨w.heap.size,0,none⟩=some (.string ⟨#[]⟩):=by rw[hc1 _ _ (by simp)];simp
    have q1:w1.cell? ⟨w.heap.size,1,none⟩=some (.int .i64 0):=by rw[hc1 _ _ (by simp)];simp
    have q2:w1.cell? ⟨w.heap.size,2,none⟩=some (.int .i64 0):=by rw[hc1 _ _ (by simp)];simp
    have f0:∀ o,w1.frozen? ⟨w.heap.size,o,none⟩=false:=fun o=>by rw[hf1 _ _ (by simp)];simp
    have KB:=hide (((Below.refl w.heap.size w).alloc (Nat.le_refl _) _).trans (hb1.mono (by simp)))
    clear hc1 hf1
    go_wp2
    refine bodyPost_ret (v:=outT ⟨#[]⟩ 0 4) (by simp[results,outT,Tryz.results34,go_sem,q0,q1,q2,hz1]) rfl ⟨by rw[HT.out];rfl,?_⟩
    repeat (first|exact KB.out|exact((KB.out.setCell (Nat.le_refl _) _).setCell (Nat.le_refl _) _).setCell (Nat.le_refl _) _|refine Below.drew ?_|refine Below.alloc ?_ (by simp;omega) _)
   ·have HT:=hide (textV_of s a _ _ _ (rt_ok s a m p hr hm8 hl))
    have hwr:IntKind.i64.wrap ((p:Int)+m)=(p:Int)+m:=by rw[IntKind.wrap_i64];omega
    have hsl:∀ u:World,(Instr.slice 9 (.string s) (some (.int .i64 (p:Int))) (some (.int .i64 ((p:Int)+m))) none).run Tryz.prog u=.ok (.string (s.extract p (p+m))) u:=fun u=>by
     rw[run_slice_string u 9 s .i64 .i64 _ _ Tryz.underlying9 (by omega) (by omega) (by omega)]
     rw[Int.toNat_natCast,show ((p:Int)+m).toNat=p+m from by omega]
    clear hn hr
    go_enter Tryz.func34,Tryz.ntmps34
    go_wp2_with fail
    refine(get_spec s a _ hs).mono ?_
    rw[HGV.out]
    simp only[outN]
    rintro e w1 ⟨rfl,hb1⟩
    obtain⟨hc1,hf1⟩:=bcell hb1
    have hz1:w.heap.size<w1.heap.size:=by have:=hb1.size;simp at this;omega
    have q0:w1.cell? ⟨w.heap.size,0,none⟩=some (.string ⟨#[]⟩):=by rw[hc1 _ _ (by simp)];simp
    have q1:w1.cell? ⟨w.heap.size,1,none⟩=some (.int .i64 0):=by rw[hc1 _ _ (by simp)];simp
    have q2:w1.cell? ⟨w.heap.size,2,none⟩=some (.int .i64 0):=by rw[hc1 _ _ (by simp)];simp
    have f0:∀ o,w1.frozen? ⟨w.heap.size,o,none⟩=false:=fun o=>by rw[hf1 _ _ (by simp)];simp
    have KB:=hide (((Below.refl w.heap.size w).alloc (Nat.le_refl _) _).trans (hb1.mono (by simp)))
    clear hc1 hf1
    go_wp2
    go_region
    go_wp2
    refine bodyPost_ret (v:=outT (s.extract p (p+m)) ((p:Int)+m) 0) (by simp[results,outT,Tryz.results34,go_sem,q0,q1,q2,hz1]) rfl ⟨by rw[HT.out];rfl,?_⟩
    repeat (first|exact KB.out|exact((KB.out.setCell (Nat.le_refl _) _).setCell (Nat.le_refl _) _).setCell (Nat.le_refl _) _|refine Below.drew ?_|refine Below.alloc ?_ (by simp;omega) _)
 ·rw[if_neg h0]at hgv
  have HGV:=hide hgv
  have HT:=hide (textV_of s a _ _ _ (rt_bad s a n p c hr h0))
  have hcn:(c != 0)=true:=by rw[bne_iff_ne];exact h0
  clear hgv hr h0
  go_enter Tryz.func34,Tryz.ntmps34
  go_wp2_with fail
  refine(get_spec s a _ hs).mono ?_
  rw[HGV.out]
  simp only[outN]
  rintro e w1 ⟨rfl,hb1⟩
  obtain⟨hc1,hf1⟩:=bcell hb1
  have hz1:w.heap.size<w1.heap.size:=by have:=hb1.size;simp at this;omega
  have q0:w1.cell? ⟨w.heap.size,0,none⟩=some (.string ⟨#[]⟩):=by rw[hc1 _ _ (by simp)];simp
  have q1:w1.cell? ⟨w.heap.size,1,none⟩=some (.int .i64 0):=by rw[hc1 _ _ (by simp)];simp
  have q2:w1.cell? ⟨w.heap.size,2,none⟩=some (.int .i64 0):=by rw[hc1 _ _ (by simp)];simp
  have f0:∀ o,w1.frozen? ⟨w.heap.size,o,none⟩=false:=fun o=>by rw[hf1 _ _ (by simp)];simp
  have KB:=hide (((Below.refl w.heap.size w).alloc (Nat.le_refl _) _).trans (hb1.mono (by simp)))
  clear hc1 hf1
  go_wp2
  refine bodyPost_ret (v:=outT ⟨#[]⟩ 0 c) (by simp[results,outT,Tryz.results34,go_sem,q0,q1,q2,hz1]) rfl ⟨by rw[HT.out];rfl,?_⟩
  repeat (first|exact KB.out|exact((KB.out.setCell (Nat.le_refl _) _).setCell (Nat.le_refl _) _).setCell (Nat.le_refl _) _|refine Below.drew ?_|refine Below.alloc ?_ (by simp;omega) _)
end Go.Proofs.YtkgjfdanjmnmbaaGreatDoor.Gn


/- ListRead: what both sides answer. -/
namespace Go.Proofs.YtkgjfdanjmnmbaaGreatDoor.Ls
open Go.RowKit
open Gn (rd getV getV_rd outN handle rt outT textV numR run run_end handle_below rd_codes)
theorem num_all (s:ByteArray) (a:Int):getV s a=.agg #[.int .i64 (rd s a).1,.int .i64 (rd s a).2.1,.int .i64 (rd s a).2.2]:=by
 rw[getV_rd]
 rcases rd_codes s a with h|⟨h,h1,h2⟩
 ·rw[if_pos h,h]
  rfl
 ·rw[if_neg h,h1,h2]
  rfl
theorem text_all (s:ByteArray) (a:Int):textV s a=.agg #[.string (rt s a).1,.int .i64 (rt s a).2.1,.int .i64 (rt s a).2.2]:=rfl
def zR (s:ByteArray):Int:=(rd s 0).1
def bR (s:ByteArray):Int:=(rd s (rd s 0).2.1).1
def rR (s:ByteArray):ByteArray:=(rt s (rd s (rd s 0).2.1).2.1).1
def okR (s:ByteArray):Prop:=¬s.size=0/\bytesL (zR s) (bR s) (rR s)=s
noncomputable def readV (s:ByteArray):Value:=open Classical in if 8000<s.size then oV 0 0 ⟨#[]⟩ 2 else if okR s then oV (zR s) (bR s) (rR s) 0 else oV 0 0 ⟨#[]⟩ 3
theorem set_j3 {W:World} {g:Nat} {x y z:Value} {T:TypeId} (h:W.heap[g]? = some (.cells #[x,y,z] T (0,0))) (v:Value):(W.setCell ⟨g,0,none⟩ v).heap[g]? = some (.cells #[v,y,z] T (0,0))/\(W.setCell ⟨g,1,none⟩ v).heap[g]? = some (.cells #[x,v,z] T (0,0))/\(W.setCell ⟨g,2,none⟩ v).heap[g]? = some (.cells #[x,y,v] T (0,0)):=by
 refine⟨?_,?_,?_⟩
 ·rw[heap_setCell_same W g 0 _ T v h];rfl
 ·rw[heap_setCell_same W g 1 _ T v h];rfl
 ·rw[heap_setCell_same W g 2 _ T v h];rfl
theorem set3_all {W:World} {g:Nat} {x y z:Value} {T:TypeId} (h:W.heap[g]? = some (.cells #[x,y,z] T (0,0))) (a b c:Value) :
  (((W.setCell ⟨g,0,none⟩ a).setCell ⟨g,1,none⟩ b).setCell ⟨g,2,none⟩ c).cell? ⟨g,0,none⟩=some a/\(((W.setCell ⟨g,0,none⟩ a).setCell ⟨g,1,none⟩ b).setCell ⟨g,2,none⟩ c).cell? ⟨g,1,none⟩=some b/\(((W.setCell ⟨g,0,none⟩ a).setCell ⟨g,1,none⟩ b).setCell ⟨g,2,none⟩ c).cell? ⟨g,2,none⟩=some c:=cells3 (set_j3 (set_j3 (set_j3 h a).1 b).2.1 c).2.2
end Go.Proofs.YtkgjfdanjmnmbaaGreatDoor.Ls

