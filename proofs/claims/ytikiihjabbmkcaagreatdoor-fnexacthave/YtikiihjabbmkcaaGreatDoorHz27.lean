/- Texts put together: LsBytes2, GetPlain, GetV, GotoLaw. -/
import Derived.Test.YtikiihjabbmkcaaGreatDoorHz26
import Derived.BigRegion
import Derived.Laws.BitsAllLaws
import Derived.Test.YtikiihjabbmkcaaGreatDoorProg
import Derived.WalkKit
import Derived.WalkSpells
import Derived.WalkLawsBesides
import Derived.Scope
import Derived.WalkMore
/- ListBytes: what both sides answer. -/
namespace Go.Proofs.YtikiihjabbmkcaaGreatDoor.Ls
open Go.RowKit
open Pk (cat numsL join_any)
open St (Strs)
open In (Ints)
open Nu (putS putT put_spec text_spec text_impl putS_size)
end Go.Proofs.YtikiihjabbmkcaaGreatDoor.Ls


/- Plain mathematics of reading a number: what stands at a place of a text, byte by byte. -/
namespace Go.Proofs.YtikiihjabbmkcaaGreatDoor.Gn
def byteN (s:ByteArray) (p:Nat):Nat:=(s.data.toList.getD p 0).toNat
theorem byteN_eq (s:ByteArray) (p:Nat) (h:p<s.size):s[p].toNat=byteN s p:=by
 have h':p<s.data.toList.length:=by simpa using h
 unfold byteN
 rw[List.getD_eq_getElem?_getD,List.getElem?_eq_getElem h']
 rfl
def run (s:ByteArray):Nat->Nat->Nat->Nat->Nat × Nat × Int
 |0,_,_,_=>(0,0,3)
 |f+1,k,p,u =>
  if s.size<=p then (0,0,4)
  else if k=9/\1<byteN s p then (0,0,3)
  else if byteN s p<128 then (if byteN s p=0/\0<k then (0,0,3) else (u+byteN s p%128*2 ^ (7*k),p+1,0))
  else run s f (k+1) (p+1) (u+byteN s p%128*2 ^ (7*k))
def numR (s:ByteArray) (a:Nat):Nat × Nat × Int:=run s 10 0 a 0
theorem run_end (s:ByteArray) (f k p u:Nat) (h:s.size<=p):run s (f+1) k p u=(0,0,4):=by
 rw[run,if_pos h]
theorem run_nine (s:ByteArray) (f k p u:Nat) (h:p<s.size) (hk:k=9) (hc:1<s[p].toNat):run s (f+1) k p u=(0,0,3):=by
 rw[byteN_eq s p h]at hc
 rw[run,if_neg (by omega),if_pos ⟨hk,hc⟩]
theorem run_zero (s:ByteArray) (f k p u:Nat) (h:p<s.size) (hc:s[p].toNat=0) (hk:0<k):run s (f+1) k p u=(0,0,3):=by
 rw[byteN_eq s p h]at hc
 rw[run,if_neg (by omega),if_neg (by omega),if_pos (by omega),if_pos ⟨hc,hk⟩]
theorem run_last (s:ByteArray) (f k p u:Nat) (h:p<s.size) (h9:¬(k=9/\1<s[p].toNat)) (hc:s[p].toNat<128) (hz:¬(s[p].toNat=0/\0<k)) :
  run s (f+1) k p u=(u+s[p].toNat%128*2 ^ (7*k),p+1,0):=by
 rw[byteN_eq s p h]at hc hz h9 ⊢
 rw[run,if_neg (by omega),if_neg h9,if_pos hc,if_neg hz]
theorem run_more (s:ByteArray) (f k p u:Nat) (h:p<s.size) (hk:k≠9) (hc:128<=s[p].toNat) :
  run s (f+1) k p u=run s f (k+1) (p+1) (u+s[p].toNat%128*2 ^ (7*k)):=by
 rw[byteN_eq s p h]at hc ⊢
 rw[run,if_neg (by omega),if_neg (by omega),if_neg (by omega)]
theorem pow_le (k:Nat) (hk:k<=9):2 ^ (7*k)<=9223372036854775808:=by
 have:2 ^ (7*k)<=2 ^ 63:=Nat.pow_le_pow_right (by decide) (by omega)
 exact this
theorem pow_next (k:Nat):2 ^ (7*(k+1))=128*2 ^ (7*k):=by
 rw[show 7*(k+1)=7+7*k by omega,Nat.pow_add]
theorem part_lt (c k:Nat):c%128*2 ^ (7*k)<=127*2 ^ (7*k):=Nat.mul_le_mul_right _ (by omega)
theorem next_lt (u c k:Nat) (hu:u<2 ^ (7*k)):u+c%128*2 ^ (7*k)<2 ^ (7*(k+1)):=by
 rw[pow_next]
 have:=part_lt c k
 omega
theorem next_small (u c k:Nat) (hu:u<2 ^ (7*k)) (hk:k<=9) (h9:¬(k=9/\1<c)):c%128*2 ^ (7*k)<=9223372036854775808/\u+c%128*2 ^ (7*k)<=18446744073709551615:=by
 have hp:=pow_le k hk
 by_cases e:k=9
 ·have hc:c%128<=1:=by omega
  have:=Nat.mul_le_mul_right (2 ^ (7*k)) hc
  omega
 ·have hn:=next_lt u c k hu
  have:=pow_le (k+1) (by omega)
  omega
theorem or_add (u c k:Nat) (hu:u<2 ^ (7*k)):u ||| (c%128*2 ^ (7*k))=u+c%128*2 ^ (7*k):=by
 rw[Nat.or_comm,nat_join (7*k) (c%128*2 ^ (7*k)) u (Nat.mul_mod_left _ _) hu,Nat.add_comm]
def unz (u:Nat):Int:=if u%2=1 then -((u/2:Nat):Int)-1 else ((u/2:Nat):Int)
theorem wrap_part (c k:Nat) (h:c%128*2 ^ (7*k)<=9223372036854775808):IntKind.u64.wrap ((c:Int)%128*2 ^ (7*k))=((c%128*2 ^ (7*k):Nat):Int):=by
 have e:((c:Int)%128*2 ^ (7*k))=((c%128*2 ^ (7*k):Nat):Int):=by
  rw[Int.natCast_mul,Int.natCast_emod,Int.natCast_pow];rfl
 rw[e,IntKind.wrap_u64]
 omega
theorem wrap_next (v c k:Nat) (h1:c%128*2 ^ (7*k)<=9223372036854775808) (h2:v+c%128*2 ^ (7*k)<=18446744073709551615) :
  IntKind.u64.wrap ((v:Int)+IntKind.u64.wrap ((c:Int)%128*2 ^ (7*k)))=((v+c%128*2 ^ (7*k):Nat):Int):=by
 rw[wrap_part c k h1,IntKind.wrap_u64]
 omega
theorem unz_odd (x:Nat) (h:x%2=1):unz x = -((x/2:Nat):Int)-1:=by unfold unz;rw[if_pos h]
theorem unz_even (x:Nat) (h:¬x%2=1):unz x=((x/2:Nat):Int):=by unfold unz;rw[if_neg h]
theorem and_low (c:Nat) (h:c<256):bits BinOp.and IntKind.u8 (c:Int) 127=((c%128:Nat):Int):=by
 have:=u8_and_nat c 127 h (by decide)
 rw[nat_mask7]at this
 exact this
theorem shl_part (y k:Nat) (h:y*2 ^ (7*k)<=9223372036854775808):IntKind.u64.wrap ((y:Int)*2 ^ (7*k))=((y*2 ^ (7*k):Nat):Int):=by
 have e:((y:Int)*2 ^ (7*k))=((y*2 ^ (7*k):Nat):Int):=by
  rw[Int.natCast_mul,Int.natCast_pow];rfl
 rw[e,IntKind.wrap_u64]
 omega
theorem or_part (v c k:Nat) (hv:v<2 ^ (7*k)) (h1:c%128*2 ^ (7*k)<=9223372036854775808) (h2:v<=9223372036854775807) :
  bits BinOp.or IntKind.u64 (v:Int) ((c%128*2 ^ (7*k):Nat):Int)=((v+c%128*2 ^ (7*k):Nat):Int):=by
 rw[u64_or_nat v _ (by omega) (by omega),or_add v c k hv]
theorem unz_odd' (x:Nat) (h:x%2=1):-((x:Int)/2)-1=unz x:=by rw[unz_odd x h];omega
theorem unz_even' (x:Nat) (h:¬x%2=1):(x:Int)/2=unz x:=by rw[unz_even x h];omega
end Go.Proofs.YtikiihjabbmkcaaGreatDoor.Gn


/- What GetNum answers, said of its text and place. -/
namespace Go.Proofs.YtikiihjabbmkcaaGreatDoor.Gn
open Go.RowKit
theorem hide {p:Prop} (h:p):Hid p:=h
def outN (n at_ code:Int):Value:=.agg #[.int .i64 n,.int .i64 at_,.int .i64 code]
def resV (r:Nat × Nat × Int):Value:=if r.2.2=0 then outN (unz r.1) r.2.1 0 else outN 0 0 r.2.2
def getV (s:ByteArray) (a:Int):Value:=if 8000<s.size then outN 0 0 2 else if a<0 then outN 0 0 1 else resV (numR s a.toNat)
end Go.Proofs.YtikiihjabbmkcaaGreatDoor.Gn


/- A law on a scope with three labels: the run comes back to the first one, each time with less to do, and goes on from it to the second or the third, and from the second to the third alone. -/
namespace Go.Proofs.YtikiihjabbmkcaaGreatDoor.Jump
open Go
def toLabel (J:Nat->Act->World->Prop) (Q:Exit->Act->World->Prop):Exit->Act->World->Prop
 |.goto l,a,w=>J l a w
 |e,a,w=>Q e a w
theorem toLabel_ret {J:Nat->Act->World->Prop} {Q:Exit->Act->World->Prop}:toLabel J Q Exit.ret=Q Exit.ret:=rfl
theorem wp_scope_labels {P:Program} {c:Code} {a:Act} {w:World} {Q:Exit->Act->World->Prop} (J:Nat->Act->World->Prop) (μ:Nat->Act->World->Nat)
  (first:c.wp P (toLabel J Q) a w)
  (pass:∀ l a w,J l a w->∃ r,findLabel c l=some r/\r.wp P (toLabel (fun l' a' w'=>J l' a' w'/\μ l' a' w' < μ l a w) Q) a w):(Code.scope c).wp P Q a w:=by
 intro b k cs
 have key:∀ n l a w,μ l a w=n->J l a w->∃ r,findLabel c l=some r/\∃ e a' w',Q e a' w'/\Arrives P (lone (b.at a (.code r :: .inScope c :: k)) cs w) b k cs e a' w':=by
  intro n
  induction n using Nat.strongRecOn with
  |_ n ih =>
   intro l a w hn hJ
   obtain⟨r,hf,hp⟩:=pass l a w hJ
   refine⟨r,hf,?_⟩
   obtain⟨e,a₁,w₁,hq,harr⟩:=hp b (.inScope c :: k) cs
   cases e with
   |normal=>exact⟨.normal,a₁,w₁,hq,Steps.trans harr (.one step_inScope)⟩
   |exit id=>exact⟨.exit id,a₁,w₁,hq,fun k' hk=>harr k' (by simp[exitTo,hk])⟩
   |goto l' =>
    obtain⟨hJ',hlt⟩:=hq
    obtain⟨r',hf',e₂,a₂,w₂,hq₂,harr₂⟩:=ih _ (by omega) l' a₁ w₁ rfl hJ'
    have hg:gotoIn l' (.inScope c :: k)=some (.code r' :: .inScope c :: k):=by simp[gotoIn,hf']
    exact⟨e₂,a₂,w₂,hq₂,.of_steps (harr _ hg) harr₂⟩
   |ret=>exact⟨_,a₁,w₁,hq,harr⟩
   |panic ch=>exact⟨_,a₁,w₁,hq,harr⟩
   |outgrown=>exact⟨_,a₁,w₁,hq,harr⟩
 obtain⟨e,a₁,w₁,hq,harr⟩:=first b (.inScope c :: k) cs
 cases e with
 |normal=>exact⟨.normal,a₁,w₁,hq,.head step_scope (Steps.trans harr (.one step_inScope))⟩
 |exit id=>exact⟨.exit id,a₁,w₁,hq,fun k' hk=>.head step_scope (harr k' (by simp[exitTo,hk]))⟩
 |goto l' =>
  obtain⟨r',hf',e₂,a₂,w₂,hq₂,harr₂⟩:=key _ l' a₁ w₁ rfl hq
  have hg:gotoIn l' (.inScope c :: k)=some (.code r' :: .inScope c :: k):=by simp[gotoIn,hf']
  exact⟨e₂,a₂,w₂,hq₂,.of_steps (.head step_scope (harr _ hg)) harr₂⟩
 |ret=>exact⟨_,a₁,w₁,hq,.of_steps (.one step_scope) harr⟩
 |panic ch=>exact⟨_,a₁,w₁,hq,.of_steps (.one step_scope) harr⟩
 |outgrown=>exact⟨_,a₁,w₁,hq,.of_steps (.one step_scope) harr⟩
end Go.Proofs.YtikiihjabbmkcaaGreatDoor.Jump

