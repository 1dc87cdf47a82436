/- Texts put together: GetV, GotoLaw, GetBits, AsFacts, AsWalks. -/
import Derived.Test.YtikiihjabbmkcaaGreatDoorProg
import Derived.Test.YtikiihjabbmkcaaGreatDoorBz26
import Derived.WalkKit
import Derived.WalkSpells
import Derived.WalkLawsBesides
import Derived.Scope
import Derived.WalkMore
import Derived.LaidEql
import Derived.Stop.Asserts
import Derived.RowKitTokens
set_option maxRecDepth 100000
set_option maxHeartbeats 8000000
/- What GetNum answers, said of its text and place. -/
namespace Go.Proofs.YtikiihjabbmkcaaGreatDoor.Gn
open Go.RowKit
theorem hide {p:Prop} (h:p):Hid p:=h
def outN (n at_ code:Int):Value:=.agg #[.int .i64 n,.int .i64 at_,.int .i64 code]
def resV (r:Nat × Nat × Int):Value:=if r.2.2=0 then outN (unz r.1) r.2.1 0 else outN 0 0 r.2.2
def getV (s:ByteArray) (a:Int):Value:=if 8000<s.size then outN 0 0 2 else if a<0 then outN 0 0 1 else resV (numR s a.toNat)
end Go.Proofs.YtikiihjabbmkcaaGreatDoor.Gn


/- A law on a scope with three labels: the run comes back to the first one, each time with less to do, and goes on from it to the second or the third, and from the second to the third alone. -/
namespace Go.Proofs.YtikiihjabbmkcaaGreatDoor.Jump
open Go
def toLabel (J:Nat->Act->World->Prop) (Q:Exit->Act->World->Prop):Exit->Act->World->Prop
 |.goto l,a,w=>J l a w
 |e,a,w=>Q e a w
theorem toLabel_ret {J:Nat->Act->World->Prop} {Q:Exit->Act->World->Prop}:toLabel J Q Exit.ret=Q Exit.ret:=rfl
theorem wp_scope_labels {P:Program} {c:Code} {a:Act} {w:World} {Q:Exit->Act->World->Prop} (J:Nat->Act->World->Prop) (μ:Nat->Act->World->Nat)
  (first:c.wp P (toLabel J Q) a w)
  (pass:∀ l a w,J l a w->∃ r,findLabel c l=some r/\r.wp P (toLabel (fun l' a' w'=>J l' a' w'/\μ l' a' w' < μ l a w) Q) a w):(Code.scope c).wp P Q a w:=by
 intro b k cs
 have key:∀ n l a w,μ l a w=n->J l a w->∃ r,findLabel c l=some r/\∃ e a' w',Q e a' w'/\Arrives P (lone (b.at a (.code r :: .inScope c :: k)) cs w) b k cs e a' w':=by
  intro n
  induction n using Nat.strongRecOn with
  |_ n ih =>
   intro l a w hn hJ
   obtain⟨r,hf,hp⟩:=pass l a w hJ
   refine⟨r,hf,?_⟩
   obtain⟨e,a₁,w₁,hq,harr⟩:=hp b (.inScope c :: k) cs
   cases e with
   |normal=>exact⟨.normal,a₁,w₁,hq,Steps.trans harr (.one step_inScope)⟩
   |exit id=>exact⟨.exit id,a₁,w₁,hq,fun k' hk=>harr k' (by simp[exitTo,hk])⟩
   |goto l' =>
    obtain⟨hJ',hlt⟩:=hq
    obtain⟨r',hf',e₂,a₂,w₂,hq₂,harr₂⟩:=ih _ (by omega) l' a₁ w₁ rfl hJ'
    have hg:gotoIn l' (.inScope c :: k)=some (.code r' :: .inScope c :: k):=by simp[gotoIn,hf']
    exact⟨e₂,a₂,w₂,hq₂,.of_steps (harr _ hg) harr₂⟩
   |ret=>exact⟨_,a₁,w₁,hq,harr⟩
   |panic ch=>exact⟨_,a₁,w₁,hq,harr⟩
   |outgrown=>exact⟨_,a₁,w₁,hq,harr⟩
 obtain⟨e,a₁,w₁,hq,harr⟩:=first b (.inScope c :: k) cs
 cases e with
 |normal=>exact⟨.normal,a₁,w₁,hq,.head step_scope (Steps.trans harr (.one step_inScope))⟩
 |exit id=>exact⟨.exit id,a₁,w₁,hq,fun k' hk=>.head step_scope (harr k' (by simp[exitTo,hk]))⟩
 |goto l' =>
  obtain⟨r',hf',e₂,a₂,w₂,hq₂,harr₂⟩:=key _ l' a₁ w₁ rfl hq
  have hg:gotoIn l' (.inScope c :: k)=some (.code r' :: .inScope c :: k):=by simp[gotoIn,hf']
  exact⟨e₂,a₂,w₂,hq₂,.of_steps (.head step_scope (harr _ hg)) harr₂⟩
 |ret=>exact⟨_,a₁,w₁,hq,.of_steps (.one step_scope) harr⟩
 |panic ch=>exact⟨_,a₁,w₁,hq,.of_steps (.one step_scope) harr⟩
 |outgrown=>exact⟨_,a₁,w₁,hq,.of_steps (.one step_scope) harr⟩
end Go.Proofs.YtikiihjabbmkcaaGreatDoor.Jump


namespace Go.Proofs.YtikiihjabbmkcaaGreatDoor.Gn
open Go.RowKit Go.Proofs.YtikiihjabbmkcaaGreatDoor.Jump
def errV (c:Int):Value:=if c=0 then .nilIface else .iface 228 (.agg #[.int .i64 c])
def bitsV (r:Nat × Nat × Int):Value:=.tuple #[.int .u64 r.1,.int .i64 r.2.1,errV r.2.2]
def J (s : ByteArray) (a : Nat) (w : World) (l : Nat) (a' : Act) (w' : World) : Prop :=
  w' = w ∧
  ((l = 0 ∧ ∃ (k v p : Nat) (x8 : Value) (x10 x11 x12 x13 x14 x15 x16 x17 x18 x19 x20 x21 x22 x23 x24 x25 x26 x27 x28 x29 x30 x31 x32 x33 x34 x35 x36 x37 x38 x39 x40 x41 x42 x43 x44 x45 x46 x47 x48 : Value), a' = { tmps := #[.string s, .int .i64 (p : Nat), undef, undef, .int .u64 0, .int .i64 0, .nilIface, .int .u64 (v : Nat), x8, .int .i64 (k : Nat), x10, x11, x12, x13, x14, x15, x16, x17, x18, x19, x20, x21, x22, x23, x24, x25, x26, x27, x28, x29, x30, x31, x32, x33, x34, x35, x36, x37, x38, x39, x40, x41, x42, x43, x44, x45, x46, x47, x48], defers := [] } ∧ 1 ≤ k ∧ k ≤ 9 ∧ p ≤ 8000 ∧ v < 2 ^ (7 * k) ∧ numR s a = run s (10 - k) k p v) ∨
   (l = 2 ∧ ∃ (k v p c : Nat) (x10 x11 x12 x13 x14 x15 x16 x17 x18 x19 x20 x21 x22 x23 x24 x25 x26 x27 x28 x29 x30 x31 x32 x33 x34 x35 x36 x37 x38 x39 x40 x41 x42 x43 x44 x45 x46 x47 x48 : Value), a' = { tmps := #[.string s, .int .i64 (p : Nat), undef, undef, .int .u64 0, .int .i64 0, .nilIface, .int .u64 (v : Nat), .int .u8 (c : Nat), .int .i64 (k : Nat), x10, x11, x12, x13, x14, x15, x16, x17, x18, x19, x20, x21, x22, x23, x24, x25, x26, x27, x28, x29, x30, x31, x32, x33, x34, x35, x36, x37, x38, x39, x40, x41, x42, x43, x44, x45, x46, x47, x48], defers := [] } ∧ 1 ≤ k ∧ k ≤ 10 ∧ c < 128 ∧ numR s a = if c = 0 ∧ 1 < k then (0, 0, 3) else (v, p, 0)) ∨
   (l = 1 ∧ ∃ (k v p : Int) (x8 : Value) (x10 x11 x12 x13 x14 x15 x16 x17 x18 x19 x20 x21 x22 x23 x24 x25 x26 x27 x28 x29 x30 x31 x32 x33 x34 x35 x36 x37 x38 x39 x40 x41 x42 x43 x44 x45 x46 x47 x48 : Value), a' = { tmps := #[.string s, .int .i64 p, undef, undef, .int .u64 0, .int .i64 0, .nilIface, .int .u64 v, x8, .int .i64 k, x10, x11, x12, x13, x14, x15, x16, x17, x18, x19, x20, x21, x22, x23, x24, x25, x26, x27, x28, x29, x30, x31, x32, x33, x34, x35, x36, x37, x38, x39, x40, x41, x42, x43, x44, x45, x46, x47, x48], defers := [] } ∧ numR s a = (0, 0, 3)))
theorem J0 (s:ByteArray) (a:Nat) (w:World) (k v p:Nat) (x8:Value) (x10 x11 x12 x13 x14 x15 x16 x17 x18 x19 x20 x21 x22 x23 x24 x25 x26 x27 x28 x29 x30 x31 x32 x33 x34 x35 x36 x37 x38 x39 x40 x41 x42 x43 x44 x45 x46 x47 x48:Value) (h1:1<=k) (h2:k<=9) (h3:p<=8000) (h4:v<2 ^ (7*k)) (h5:numR s a=run s (10-k) k p v) :
  J s a w 0 { tmps:=#[.string s,.int .i64 (p:Nat),undef,undef,.int .u64 0,.int .i64 0,.nilIface,.int .u64 (v:Nat),x8,.int .i64 (k:Nat),x10,x11,x12,x13,x14,x15,x16,x17,x18,x19,x20,x21,x22,x23,x24,x25,x26,x27,x28,x29,x30,x31,x32,x33,x34,x35,x36,x37,x38,x39,x40,x41,x42,x43,x44,x45,x46,x47,x48],defers:=[] } w :=
 ⟨rfl,.inl ⟨rfl,k,v,p,x8,x10,x11,x12,x13,x14,x15,x16,x17,x18,x19,x20,x21,x22,x23,x24,x25,x26,x27,x28,x29,x30,x31,x32,x33,x34,x35,x36,x37,x38,x39,x40,x41,x42,x43,x44,x45,x46,x47,x48,rfl,h1,h2,h3,h4,h5⟩⟩
theorem J2 (s:ByteArray) (a:Nat) (w:World) (k v p c:Nat) (x10 x11 x12 x13 x14 x15 x16 x17 x18 x19 x20 x21 x22 x23 x24 x25 x26 x27 x28 x29 x30 x31 x32 x33 x34 x35 x36 x37 x38 x39 x40 x41 x42 x43 x44 x45 x46 x47 x48:Value) (h1:1<=k) (h2:k<=10) (h3:c<128) (h5:numR s a=if c=0/\1<k then (0,0,3) else (v,p,0)) :
  J s a w 2 { tmps:=#[.string s,.int .i64 (p:Nat),undef,undef,.int .u64 0,.int .i64 0,.nilIface,.int .u64 (v:Nat),.int .u8 (c:Nat),.int .i64 (k:Nat),x10,x11,x12,x13,x14,x15,x16,x17,x18,x19,x20,x21,x22,x23,x24,x25,x26,x27,x28,x29,x30,x31,x32,x33,x34,x35,x36,x37,x38,x39,x40,x41,x42,x43,x44,x45,x46,x47,x48],defers:=[] } w :=
 ⟨rfl,.inr (.inl ⟨rfl,k,v,p,c,x10,x11,x12,x13,x14,x15,x16,x17,x18,x19,x20,x21,x22,x23,x24,x25,x26,x27,x28,x29,x30,x31,x32,x33,x34,x35,x36,x37,x38,x39,x40,x41,x42,x43,x44,x45,x46,x47,x48,rfl,h1,h2,h3,h5⟩)⟩
theorem J1 (s:ByteArray) (a:Nat) (w:World) (k v p:Int) (x8:Value) (x10 x11 x12 x13 x14 x15 x16 x17 x18 x19 x20 x21 x22 x23 x24 x25 x26 x27 x28 x29 x30 x31 x32 x33 x34 x35 x36 x37 x38 x39 x40 x41 x42 x43 x44 x45 x46 x47 x48:Value) (h5:numR s a=(0,0,3)) :
  J s a w 1 { tmps:=#[.string s,.int .i64 p,undef,undef,.int .u64 0,.int .i64 0,.nilIface,.int .u64 v,x8,.int .i64 k,x10,x11,x12,x13,x14,x15,x16,x17,x18,x19,x20,x21,x22,x23,x24,x25,x26,x27,x28,x29,x30,x31,x32,x33,x34,x35,x36,x37,x38,x39,x40,x41,x42,x43,x44,x45,x46,x47,x48],defers:=[] } w :=
 ⟨rfl,.inr (.inr ⟨rfl,k,v,p,x8,x10,x11,x12,x13,x14,x15,x16,x17,x18,x19,x20,x21,x22,x23,x24,x25,x26,x27,x28,x29,x30,x31,x32,x33,x34,x35,x36,x37,x38,x39,x40,x41,x42,x43,x44,x45,x46,x47,x48,rfl,h5⟩)⟩
def μ (l:Nat) (a':Act) (_:World):Nat:=if l=0 then 20-(intOf (a'.tmps.getD 9 undef)).toNat else if l=2 then 1 else 0
theorem bits_any (s:ByteArray) (a:Nat) (w:World) (hs:s.size<=8000) :
  Calls Tryz.prog 213 #[.string s,.int .i64 a] w fun e w'=>e=.returned (bitsV (numR s a))/\w'=w:=by
 go_enter Tryz.func213,Tryz.ntmps213
 go_wp2
 refine wp_scope_labels (J s a w) μ ?_ ?_
 ·by_cases hp:a<s.size
  ·have hb:s[a].toNat<256:=s[a].toNat_lt
   have hand:=and_low s[a].toNat hb
   have hy:s[a].toNat%128<=127:=by omega
   have hor:bits BinOp.or IntKind.u64 0 ((s[a].toNat%128:Nat):Int)=((s[a].toNat%128:Nat):Int):=by
    have:=u64_or_nat 0 (s[a].toNat%128) (by decide) (by omega)
    rw[Nat.zero_or]at this
    exact this
   obtain⟨y,hyy⟩:∃ y,y=s[a].toNat%128:=⟨_,rfl⟩
   rw[<-hyy]at hand hy hor
   have HY:Hid (y=s[a].toNat%128):=hyy
   clear hyy
   have HX:Hid (0+s[a].toNat%128*2 ^ (7*0)=y):=by unfold Hid;rw[HY.out];simp
   by_cases hc:s[a].toNat<128
   ·go_wp2
    go_step3
    go_wp2
    go_step3
    exact J2 s a w 1 y (a+1) s[a].toNat _ _ _ _ _ _ _ _ _ _ _ _ _ _ _ _ _ _ _ _ _ _ _ _ _ _ _ _ _ _ _ _ _ _ _ _ _ _ _ (by omega) (by omega) hc (by rw[if_neg (by omega)];exact(run_last s 9 0 a 0 hp (by omega) hc (by omega)).trans (by rw[HX.out]))
   ·go_wp2
    go_step3
    go_wp2
    go_step3
    exact J0 s a w 1 y (a+1) _ _ _ _ _ _ _ _ _ _ _ _ _ _ _ _ _ _ _ _ _ _ _ _ _ _ _ _ _ _ _ _ _ _ _ _ _ _ _ _ (by omega) (by omega) (by omega) (by omega) ((run_more s 9 0 a 0 hp (by omega) (by omega)).trans (by rw[HX.out]))
  ·have HE:Hid (numR s a=(0,0,4)):=run_end s 9 0 a 0 (by omega)
   go_wp2
   go_step3
   go_wp2
   rw[toLabel_ret]
   go_ret3
   exact⟨by rw[HE.out];rfl,rfl⟩
 ·intro l a' w' hJ
  obtain⟨rfl,hJ⟩:=hJ
  rcases hJ with⟨rfl,k,v,p,x8,x10,x11,x12,x13,x14,x15,x16,x17,x18,x19,x20,x21,x22,x23,x24,x25,x26,x27,x28,x29,x30,x31,x32,x33,x34,x35,x36,x37,x38,x39,x40,x41,x42,x43,x44,x45,x46,x47,x48,rfl,h1,h2,h3,h4,h5⟩|⟨rfl,k,v,p,c,x10,x11,x12,x13,x14,x15,x16,x17,x18,x19,x20,x21,x22,x23,x24,x25,x26,x27,x28,x29,x30,x31,x32,x33,x34,x35,x36,x37,x38,x39,x40,x41,x42,x43,x44,x45,x46,x47,x48,rfl,h1,h2,h3,h5⟩|⟨rfl,k,v,p,x8,x10,x11,x12,x13,x14,x15,x16,x17,x18,x19,x20,x21,x22,x23,x24,x25,x26,x27,x28,x29,x30,x31,x32,x33,x34,x35,x36,x37,x38,x39,x40,x41,x42,x43,x44,x45,x46,x47,x48,rfl,h5⟩
  ·refine⟨_,rfl,?_⟩
   have HR:=hide h5
   have HV:=hide h4
   have hvb:v<=9223372036854775807:=by have:=pow_le k h2;omega
   clear h5 h4
   obtain⟨f,hf⟩:∃ f,10-k=f+1:=⟨9-k,by omega⟩
   have HF:=hide hf
   clear hf
   by_cases hp:p<s.size
   ·have hb:s[p].toNat<256:=s[p].toNat_lt
    by_cases h9:k=9/\1<s[p].toNat
    ·have hk9:((k:Int)==9)=true:=beq_iff_eq.2 (by omega)
     have hc1:(1:Int)<s[p].toNat:=by omega
     have HE:Hid (numR s a=(0,0,3)):=HR.out.trans (by rw[HF.out];exact run_nine s f k p v hp h9.1 h9.2)
     have HH:=hide h9
     clear h9
     go_wp2
     go_step3
     exact⟨J1 s a _ _ _ _ _ _ _ _ _ _ _ _ _ _ _ _ _ _ _ _ _ _ _ _ _ _ _ _ _ _ _ _ _ _ _ _ _ _ _ _ _ _ _ _ HE.out,by simp[μ,intOf];omega⟩
    ·obtain⟨hm1,hm2⟩:=next_small v s[p].toNat k HV.out h2 h9
     have hand:=and_low s[p].toNat hb
     have hy:s[p].toNat%128<=127:=by omega
     have hsh:=shl_part (s[p].toNat%128) k hm1
     have hor:=or_part v s[p].toNat k HV.out hm1 hvb
     obtain⟨z,hz⟩:∃ z,z=s[p].toNat%128*2 ^ (7*k):=⟨_,rfl⟩
     obtain⟨x,hx⟩:∃ x,x=v+s[p].toNat%128*2 ^ (7*k):=⟨_,rfl⟩
     rw[<-hx,<-hz]at hor
     rw[<-hx]at hm2
     rw[<-hz]at hm1 hsh
     obtain⟨y,hyy⟩:∃ y,y=s[p].toNat%128:=⟨_,rfl⟩
     rw[<-hyy]at hand hy hsh
     have HX:=hide hx
     have HY:=hide hyy
     have HZ:=hide hz
     have H9:=hide h9
     clear hx hyy hz h9
     by_cases hc:s[p].toNat<128
     ·have HE:Hid (numR s a=if s[p].toNat=0/\1<k+1 then (0,0,3) else (x,p+1,0)):=HR.out.trans (by
       rw[HF.out]
       by_cases hq:s[p].toNat=0/\0<k
       ·rw[if_pos ⟨hq.1,by omega⟩];exact run_zero s f k p v hp hq.1 hq.2
       ·rw[if_neg (by omega),HX.out];exact run_last s f k p v hp H9.out hc hq)
      by_cases e9:k=9
      ·have hk9:((k:Int)==9)=true:=beq_iff_eq.2 (by omega)
       have hcd:decide ((1:Int)<s[p].toNat)=false:=decide_eq_false (by have:=H9.out;omega)
       have H99:=hide e9
       clear e9
       go_wp2
       go_step3
       exact⟨J2 s a _ (k+1) x (p+1) s[p].toNat _ _ _ _ _ _ _ _ _ _ _ _ _ _ _ _ _ _ _ _ _ _ _ _ _ _ _ _ _ _ _ _ _ _ _ _ _ _ _ (by omega) (by omega) hc HE.out,by simp[μ,intOf];omega⟩
      ·have hk9:((k:Int)==9)=false:=beq_eq_false_iff_ne.2 (by omega)
       go_wp2
       go_step3
       exact⟨J2 s a _ (k+1) x (p+1) s[p].toNat _ _ _ _ _ _ _ _ _ _ _ _ _ _ _ _ _ _ _ _ _ _ _ _ _ _ _ _ _ _ _ _ _ _ _ _ _ _ _ (by omega) (by omega) hc HE.out,by simp[μ,intOf];omega⟩
     ·have hn9:¬k=9:=by have:=H9.out;omega
      have hk9:((k:Int)==9)=false:=beq_eq_false_iff_ne.2 (by omega)
      have HE:Hid (numR s a=run s f (k+1) (p+1) x):=HR.out.trans (by rw[HF.out,HX.out];exact run_more s f k p v hp hn9 (by omega))
      go_wp2
      go_step3
      exact⟨J0 s a _ (k+1) x (p+1) _ _ _ _ _ _ _ _ _ _ _ _ _ _ _ _ _ _ _ _ _ _ _ _ _ _ _ _ _ _ _ _ _ _ _ _ _ _ _ _ (by omega) (by omega) (by omega) (by rw[HX.out];exact next_lt _ _ _ HV.out) (by rw[HE.out,show 10-(k+1)=f from by have:=HF.out;omega]),by simp[μ,intOf];omega⟩
   ·have HE:Hid (numR s a=(0,0,4)):=HR.out.trans (by rw[HF.out];exact run_end s f k p v (by omega))
    go_wp2
    rw[toLabel_ret]
    go_ret3
    exact⟨by rw[HE.out];rfl,rfl⟩
  ·refine⟨_,rfl,?_⟩
   by_cases hz:c=0/\1<k
   ·have HE:Hid (numR s a=(0,0,3)):=h5.trans (if_pos hz)
    have hcz:((c:Int)==0)=true:=beq_iff_eq.2 (by omega)
    have hk1:(1:Int)<k:=by omega
    have HZ:=hide hz
    clear h5 hz
    go_wp2
    go_step3
    exact⟨J1 s a _ _ _ _ _ _ _ _ _ _ _ _ _ _ _ _ _ _ _ _ _ _ _ _ _ _ _ _ _ _ _ _ _ _ _ _ _ _ _ _ _ _ _ _ HE.out,by simp[μ]⟩
   ·have HE:Hid (numR s a=(v,p,0)):=h5.trans (if_neg hz)
    clear h5
    by_cases cz:c=0
    ·have hcz:((c:Int)==0)=true:=beq_iff_eq.2 (by omega)
     have hk1:¬1<k:=by omega
     have hkd:decide ((1:Int)<k)=false:=decide_eq_false (by omega)
     have HC:=hide cz
     clear cz hz
     go_wp2
     rw[toLabel_ret]
     go_ret3
     exact⟨by rw[HE.out];rfl,rfl⟩
    ·have hcz:((c:Int)==0)=false:=beq_eq_false_iff_ne.2 (by omega)
     go_wp2
     rw[toLabel_ret]
     go_ret3
     exact⟨by rw[HE.out];rfl,rfl⟩
  ·refine⟨_,rfl,?_⟩
   have HE:=hide h5
   clear h5
   go_wp2
   rw[toLabel_ret]
   go_ret3
   exact⟨by rw[HE.out];rfl,rfl⟩
end Go.Proofs.YtikiihjabbmkcaaGreatDoor.Gn


/- Closed facts on what errors.As reads of the types that it meets here, each reckoned by the kernel, and three small laws on reflected values. -/
namespace Go.Proofs.YtikiihjabbmkcaaGreatDoor
open Go.RowKit Go.Extern.Stop Go.Stop Go.Extern
theorem Tryz.valueOfP (t:Addr) (w:World):(ReflectliteValue.unpack (.iface 230 (.pointer (some t)))).run Tryz.prog w
  = .ok (.agg #[.pointer (some ⟨4,230,none⟩),.pointer (some ⟨w.heap.size,0,none⟩),.int .u64 150]) (w.alloc (.cells #[.pointer (some t)] 230)):=by kernel_rfl
theorem Tryz.typeP (a:Addr) (w:World):(ReflectliteValue.methodAny (ReflectliteValue.valueError "reflectlite.Value.Type" 0) (fun t _ _ _=>ReflectliteType.toType t) #[.agg #[.pointer (some ⟨4,230,none⟩),.pointer (some a),.int .u64 150]]).run Tryz.prog w
  = .ok (.iface 279 (.agg #[.pointer (some ⟨4,230,none⟩)])) w:=by kernel_rfl
theorem Tryz.methodKind (h:Value) (w:World):(Go.method 435 279 (.agg #[h]) "Kind").run Tryz.prog w=.ok (267,h) w:=by kernel_rfl
theorem Tryz.kindP (w:World):((ReflectliteType.abiMethod fun t=>(fun a:Nat=>Value.int IntKind.u8 (a:Int)) <$> Rtype.kind t) #[.pointer (some ⟨4,230,none⟩)]).run Tryz.prog w=.ok (.int .u8 22) w:=by kernel_rfl
theorem Tryz.kindD (w:World):((ReflectliteType.abiMethod fun t=>(fun a:Nat=>Value.int IntKind.u8 (a:Int)) <$> Rtype.kind t) #[.pointer (some ⟨4,228,none⟩)]).run Tryz.prog w=.ok (.int .u8 25) w:=by kernel_rfl
theorem Tryz.partsP (a:Addr) (w:World):(ReflectliteValue.parts (.agg #[.pointer (some ⟨4,230,none⟩),.pointer (some a),.int .u64 150])).run Tryz.prog w=.ok (some (230,a,150)) w:=by kernel_rfl
theorem Tryz.isNilP (a p:Addr) (W:World) (ha:W.cell? a=some (.pointer (some p))) :
  (ReflectliteValue.method (ReflectliteValue.valueError "reflectlite.Value.IsNil" 0) ReflectliteValue.isNil #[.agg #[.pointer (some ⟨4,230,none⟩),.pointer (some a),.int .u64 150]]).run Tryz.prog W=.ok (.bool false) W:=by
 refine Eq.trans (b:=(Bind.bind (ReflectliteValue.parts (.agg #[.pointer (some ⟨4,230,none⟩),.pointer (some a),.int .u64 150])) _).run Tryz.prog W) rfl ?_
 simp only[Sem.run_bind,Tryz.partsP,Result.andThen]
 simp[ReflectliteValue.isNil,loadVar,isAgg,underlying,Tryz.underlying230,ha,Result.andThen]
theorem Tryz.methodElem (h:Value) (w:World):(Go.method 435 279 (.agg #[h]) "Elem").run Tryz.prog w=.ok (277,.agg #[h]) w:=by kernel_rfl
theorem Tryz.methodImplements (h:Value) (w:World):(Go.method 435 279 (.agg #[h]) "Implements").run Tryz.prog w=.ok (278,.agg #[h]) w:=by kernel_rfl
theorem Tryz.methodAssignableTo (h:Value) (w:World):(Go.method 435 279 (.agg #[h]) "AssignableTo").run Tryz.prog w=.ok (275,.agg #[h]) w:=by kernel_rfl
theorem Tryz.elemP (w:World):(ReflectliteType.method ReflectliteType.elem #[.agg #[.pointer (some ⟨4,230,none⟩)]]).run Tryz.prog w=.ok (.iface 279 (.agg #[.pointer (some ⟨4,228,none⟩)])) w:=by kernel_rfl
theorem Tryz.implementsD (w:World):(ReflectliteType.relation "Implements" ReflectliteType.implements_ #[.agg #[.pointer (some ⟨4,228,none⟩)],.iface 279 (.agg #[.pointer (some ⟨4,198,none⟩)])]).run Tryz.prog w=.ok (.bool true) w:=by kernel_rfl
theorem Tryz.typeOfD (v:Value) (w:World):(ReflectliteType.typeOf #[.iface 228 v]).run Tryz.prog w=.ok (.iface 279 (.agg #[.pointer (some ⟨4,228,none⟩)])) w:=by kernel_rfl
theorem Tryz.assignableD (w:World):(ReflectliteType.relation "AssignableTo" ReflectliteType.assignableTo #[.agg #[.pointer (some ⟨4,228,none⟩)],.iface 279 (.agg #[.pointer (some ⟨4,228,none⟩)])]).run Tryz.prog w=.ok (.bool true) w:=by kernel_rfl
theorem Tryz.valueOfD (c:Int) (w:World):(ReflectliteValue.unpack (.iface 228 (.agg #[.int .i64 c]))).run Tryz.prog w
  = .ok (.agg #[.pointer (some ⟨4,228,none⟩),.pointer (some ⟨w.heap.size,0,none⟩),.int .u64 153]) (w.alloc (.cells #[.int .i64 c] 228)):=by kernel_rfl
theorem Tryz.elemOfP (w:World):(Rtype.elem? 230).run Tryz.prog w=.ok (some 228) w:=by kernel_rfl
theorem Tryz.mkD (p:Addr) (w:World):(ReflectliteValue.mk 228 p ReflectliteValue.flagAddr).run Tryz.prog w=.ok (.agg #[.pointer (some ⟨4,228,none⟩),.pointer (some p),.int .u64 409]) w:=by kernel_rfl
theorem Tryz.elemVP (a p:Addr) (W:World) (ha:W.cell? a=some (.pointer (some p))) :
  (ReflectliteValue.method (ReflectliteValue.valueError "reflectlite.Value.Elem" 0) ReflectliteValue.elem #[.agg #[.pointer (some ⟨4,230,none⟩),.pointer (some a),.int .u64 150]]).run Tryz.prog W
   = .ok (.agg #[.pointer (some ⟨4,228,none⟩),.pointer (some p),.int .u64 409]) W:=by
 refine Eq.trans (b:=(Bind.bind (ReflectliteValue.parts (.agg #[.pointer (some ⟨4,230,none⟩),.pointer (some a),.int .u64 150])) _).run Tryz.prog W) rfl ?_
 simp only[Sem.run_bind,Tryz.partsP,Result.andThen]
 simp[ReflectliteValue.elem,loadVar,isAgg,underlying,Tryz.underlying230,ha,Result.andThen,Tryz.elemOfP,Tryz.mkD]
theorem Tryz.partsDa (a:Addr) (w:World):(ReflectliteValue.parts (.agg #[.pointer (some ⟨4,228,none⟩),.pointer (some a),.int .u64 409])).run Tryz.prog w=.ok (some (228,a,409)) w:=by kernel_rfl
theorem Tryz.partsD (a:Addr) (w:World):(ReflectliteValue.parts (.agg #[.pointer (some ⟨4,228,none⟩),.pointer (some a),.int .u64 153])).run Tryz.prog w=.ok (some (228,a,153)) w:=by kernel_rfl
theorem Tryz.directD (w:World):(Rtype.directlyAssignable 228 228).run Tryz.prog w=.ok true w:=by kernel_rfl
end Go.Proofs.YtikiihjabbmkcaaGreatDoor


namespace Go.Proofs.YtikiihjabbmkcaaGreatDoor
open Go.RowKit Go.Extern.Stop Go.Stop Go.Extern
theorem Tryz.setD (ta b:Addr) (c:Int) (old:Value) (W:World) (hb:W.cell? b=some (.int .i64 c)) (ht:W.cell? ta=some old) (hf:W.frozen? ta=false) :
  (ReflectliteValue.set #[.agg #[.pointer (some ⟨4,228,none⟩),.pointer (some ta),.int .u64 409],.agg #[.pointer (some ⟨4,228,none⟩),.pointer (some b),.int .u64 153]]).run Tryz.prog W
   = .ok (.tuple #[]) (W.setCell ta (.int .i64 c)):=by
 refine Eq.trans (b:=(Bind.bind (ReflectliteValue.parts (.agg #[.pointer (some ⟨4,228,none⟩),.pointer (some ta),.int .u64 409])) _).run Tryz.prog W) rfl ?_
 simp only[Sem.run_bind,Tryz.partsDa,Result.andThen]
 erw[Tryz.partsD b W]
 simp[ReflectliteValue.flagAddr,loadVar,isAgg,underlying,Tryz.underlying228,Result.andThen,Tryz.directD,storeVar,Value.cells,storeCells,Addr.add]
 have hl:=run_loadCells_list (P:=Tryz.prog) W b [.int .i64 c] (by
  intro j v hj
  match j,hj with
  |0,hj=>simp at hj;subst hj;simpa [Addr.add] using hb)
 have hl':(loadCells b 1).run Tryz.prog W=.ok #[.int .i64 c] W:=hl
 rw[hl']
 simp[storeCells,Addr.add]
 rw[run_store Tryz.prog W ta _ _ (by rfl)]
 simp[ht,hf]
/-- a fault of the program's own type,asked for with errors.As: it is taken into the variable at t;four blocks are new -/
theorem as_hit (c:Int) (t:Addr) (old:Value) (w:World) (hg:w.cell? ⟨1,0,none⟩=some (.iface 279 (.agg #[.pointer (some ⟨4,198,none⟩)]))) (ht0:w.cell? t=some old) (hf0:w.frozen? t=false) :
  Calls Tryz.prog 188 #[.iface 228 (.agg #[.int .i64 c]),.iface 230 (.pointer (some t))] w fun ev w'=>ev=.returned (.bool true)/\w'=((((w.alloc (.cells #[.pointer (some t)] 230)).alloc (.cells #[.pointer (some ⟨4,230,none⟩),.pointer (some ⟨w.heap.size,0,none⟩),.int .u64 150] 256)).alloc (.cells #[.pointer (some ⟨4,230,none⟩),.pointer (some ⟨w.heap.size,0,none⟩),.int .u64 150] 256)).alloc (.cells #[.int .i64 c] 228)).setCell t (.int .i64 c):=by
 have hA:=@run_callFunc_extern Tryz.prog 215 _ (fun args=>ReflectliteValue.unpack (args.getD 0 (.tuple #[]))) Tryz.func215 (by kernel_rfl) (by kernel_rfl) (by kernel_rfl) (by kernel_rfl)
 have hB:=@run_callFunc_extern Tryz.prog 216 _ (ReflectliteValue.methodAny (ReflectliteValue.valueError "reflectlite.Value.Type" 0) (fun t _ _ _=>ReflectliteType.toType t)) Tryz.func216 (by kernel_rfl) (by kernel_rfl) (by kernel_rfl) (by kernel_rfl)
 have hC:=@run_callFunc_extern Tryz.prog 217 _ (ReflectliteValue.method (ReflectliteValue.valueError "reflectlite.Value.IsNil" 0) ReflectliteValue.isNil) Tryz.func217 (by kernel_rfl) (by kernel_rfl) (by kernel_rfl) (by kernel_rfl)
 have hD:=@run_callFunc_extern Tryz.prog 267 _ (ReflectliteType.abiMethod fun t=>do pure (.int .u8 (<-Rtype.kind t))) Tryz.func267 (by kernel_rfl) (by kernel_rfl) (by kernel_rfl) (by kernel_rfl)
 have hE:=@run_callFunc_extern Tryz.prog 277 _ (ReflectliteType.method ReflectliteType.elem) Tryz.func277 (by kernel_rfl) (by kernel_rfl) (by kernel_rfl) (by kernel_rfl)
 have hF:=@run_callFunc_extern Tryz.prog 278 _ (ReflectliteType.relation "Implements" ReflectliteType.implements_) Tryz.func278 (by kernel_rfl) (by kernel_rfl) (by kernel_rfl) (by kernel_rfl)
 have hG:=@run_callFunc_extern Tryz.prog 232 _ ReflectliteType.typeOf Tryz.func232 (by kernel_rfl) (by kernel_rfl) (by kernel_rfl) (by kernel_rfl)
 have hH:=@run_callFunc_extern Tryz.prog 275 _ (ReflectliteType.relation "AssignableTo" ReflectliteType.assignableTo) Tryz.func275 (by kernel_rfl) (by kernel_rfl) (by kernel_rfl) (by kernel_rfl)
 have hI:=@run_callFunc_extern Tryz.prog 233 _ (ReflectliteValue.method (ReflectliteValue.valueError "reflectlite.Value.Elem" 0) ReflectliteValue.elem) Tryz.func233 (by kernel_rfl) (by kernel_rfl) (by kernel_rfl) (by kernel_rfl)
 have hJ:=@run_callFunc_extern Tryz.prog 234 _ ReflectliteValue.set Tryz.func234 (by kernel_rfl) (by kernel_rfl) (by kernel_rfl) (by kernel_rfl)
 have f1:=Tryz.typeOfD
 have f2:=Tryz.methodAssignableTo
 have f3:=Tryz.assignableD
 have f4:=Tryz.valueOfD
 have f5:=Tryz.valueOfP
 have f6:=Tryz.typeP
 have f7:=Tryz.methodKind
 have f8:=Tryz.methodElem
 have f9:=Tryz.methodImplements
 have f10:=Tryz.kindP
 have f11:=Tryz.kindD
 have f12:=Tryz.elemP
 have f13:=Tryz.implementsD
 obtain⟨vb,hvb⟩:∃ vb,vb=Obj.cells #[.pointer (some ⟨4,230,none⟩),.pointer (some ⟨w.heap.size,0,none⟩),.int .u64 150] 256:=⟨_,rfl⟩
 have n8:=Tryz.isNilP ⟨w.heap.size,0,none⟩ t ((w.alloc (.cells #[.pointer (some t)] 230)).alloc vb) (by rw[hvb];simp)
 have hlt:1 < w.heap.size:=by
  rcases Nat.lt_or_ge 1 w.heap.size with h|h
  ·exact h
  ·simp[World.cell?,Array.getElem?_eq_none h]at hg
 have hg2:((w.alloc (.cells #[.pointer (some t)] 230)).alloc vb).cell? ⟨1,0,none⟩=some (.iface 279 (.agg #[.pointer (some ⟨4,198,none⟩)])):=by
  rw[World.cell?_alloc_lt _ _ ⟨1,0,none⟩ (Nat.lt_of_lt_of_le hlt (by simp)),World.cell?_alloc_lt _ _ ⟨1,0,none⟩ hlt];exact hg
 have htl:t.block<w.heap.size:=by
  rcases Nat.lt_or_ge t.block w.heap.size with h|h
  ·exact h
  ·simp[World.cell?,Array.getElem?_eq_none h]at ht0
 have el:=Tryz.elemVP ⟨w.heap.size,0,none⟩ t (((w.alloc (.cells #[.pointer (some t)] 230)).alloc vb).alloc vb) (by rw[World.cell?_alloc_lt _ _ ⟨w.heap.size,0,none⟩ (by simp;omega),hvb];simp)
 have st:=Tryz.setD t ⟨w.heap.size+1+1+1,0,none⟩ c old ((((w.alloc (.cells #[.pointer (some t)] 230)).alloc vb).alloc vb).alloc (.cells #[.int .i64 c] 228))
  (by rw[World.cell?_alloc_at _ _ _ _ (by simp)];rfl)
  (by rw[World.cell?_alloc_lt _ _ t (by simp;omega),World.cell?_alloc_lt _ _ t (by simp;omega),World.cell?_alloc_lt _ _ t (by simp;omega),World.cell?_alloc_lt _ _ t htl];exact ht0)
  (by rw[World.frozen?_alloc_old _ _ t (by simp;omega),World.frozen?_alloc_old _ _ t (by simp;omega),World.frozen?_alloc_old _ _ t (by simp;omega),World.frozen?_alloc_old _ _ t (Nat.ne_of_lt htl)];exact hf0)
 subst hvb
 go_enter Tryz.func188,Tryz.ntmps188
 go_wp2
 refine wp_loop_rounds 1 ?_
 rw[rounds_succ]
 go_wp2
 go_ret
 exact⟨rfl,rfl⟩
end Go.Proofs.YtikiihjabbmkcaaGreatDoor

