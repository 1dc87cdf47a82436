/- Texts put together: IntHeld, IntIn. -/
import Derived.Test.YtikiihjabbmkcaaGreatDoorHz25
set_option maxRecDepth 100000
set_option maxHeartbeats 8000000
namespace Go.Proofs.YtikiihjabbmkcaaGreatDoor.In
open Go.RowKit
theorem mark_none (a:Option Addr) (c:Nat) (w:World) :
  Calls Tryz.prog 14 #[.slice a 0 c,.int .i64 1] w fun e w'=>e=.returned (.int .i64 1)/\w'=w:=by
 go_enter Tryz.func14,Tryz.ntmps14
 go_wp2_with fail
 go_loopw [5,1] (fun i kv wr=>i=.int .i64 0/\kv=.int .i64 1/\wr=w) (fun _ _ _=>0)
 case atStart=>exact⟨rfl,rfl,rfl⟩
 case round =>
  obtain⟨rfl,rfl,hw⟩:=hrel
  subst hw
  go_wp2_with fail
  go_ret
  exact⟨rfl,rfl⟩
theorem held_none (a:Option Addr) (c:Nat) (w:World) :
  Calls Tryz.prog 15 #[.slice a 0 c,.int .i64 1] w fun e w'=>e=.returned (.int .i64 1)/\w'=w:=by
 go_enter Tryz.func15,Tryz.ntmps15
 go_wp2_with fail
 go_loopw [5,1] (fun i kv wr=>i=.int .i64 0/\kv=.int .i64 1/\wr=w) (fun _ _ _=>0)
 case atStart=>exact⟨rfl,rfl,rfl⟩
 case round =>
  obtain⟨rfl,rfl,hw⟩:=hrel
  subst hw
  go_wp2_with fail
  go_ret
  exact⟨rfl,rfl⟩
theorem held_any (g t c n:Nat) (w:World) (h:IsO w g t (marks 1 n)) (hn:n<=1048576) :
  Calls Tryz.prog 15 #[.slice (some ⟨g,0,none⟩) n c,.int .i64 1] w fun e w'=>e=.returned (.int .i64 (1+n))/\Below w.heap.size w w':=by
 have HS:=hideI h
 clear h
 go_enter Tryz.func15,Tryz.ntmps15
 go_wp2_with fail
 go_loopw [5,1] (fun i kv wr=>∃ k:Nat,i=.int .i64 k/\kv=.int .i64 (1+k)/\k<=n/\wr=w) (fun i _ _=>n-(intOf i).toNat)
 case atStart=>exact⟨0,rfl,rfl,by omega,rfl⟩
 case round =>
  obtain⟨k,rfl,rfl,hk,hw⟩:=hrel
  subst hw
  by_cases hlt:k<n
  ·have hkl:k<(marks 1 n).length:=by rw[marks_length];exact hlt
   have ce:=HS.out.cell hkl
   rw[marks_get,show ((1+k:Nat):Int)=1+(k:Int) by omega]at ce
   go_wp2_with fail
   go_roundw
   case rel=>exact⟨k+1,by go_num,by go_num,by omega,trivial⟩
   case measure=>simp[intOf];omega
  ·have HKN:Hid ((1:Int)+k=1+n):=by
    unfold Hid
    omega
   go_wp2_with fail
   go_ret
   exact⟨by rw[<-HKN.out];rfl,Below.refl _ _⟩
end Go.Proofs.YtikiihjabbmkcaaGreatDoor.In


/- Rows of numbers between two marks of memory: what the laws' helpers do with them. -/
namespace Go.Proofs.YtikiihjabbmkcaaGreatDoor.In
open Go.RowKit
open St (Aft)
def OwnIn (w:World) (lo hi:Nat) (v:Value) (l:List Int):Prop :=
 (v=.slice none 0 0/\l=[])∨∃ g cap,v=.slice (some ⟨g,0,none⟩) l.length cap/\lo<=g/\g<hi/\IsO w g 2 l
theorem OwnI.inn {w:World} {base:Nat} {v:Value} {l:List Int} (h:OwnI w base v l):OwnIn w base w.heap.size v l:=by
 rcases h.split with h|⟨g,cap,hv,hg,_,ho⟩
 ·exact .inl h
 ·exact .inr ⟨g,cap,hv,hg,ho.lt,ho⟩
theorem IsI.inn {w:World} {g:Nat} {l:List Int} (h:IsI w g 2 l) (cap:Nat):OwnIn w g (g+1) (.slice (some ⟨g,0,none⟩) l.length cap) l :=
 .inr ⟨g,cap,rfl,Nat.le_refl _,Nat.lt_succ_self _,h.own⟩
theorem OwnIn.below {w w':World} {lo hi B:Nat} {v:Value} {l:List Int} (h:OwnIn w lo hi v l) (b:Below B w w') (hB:hi<=B):OwnIn w' lo hi v l:=by
 rcases h with h|⟨g,cap,hv,hg,hh,ho⟩
 ·exact .inl h
 ·exact .inr ⟨g,cap,hv,hg,hh,ho.below b (by omega)⟩
theorem OwnIn.aft {w w':World} {lo hi g:Nat} {v:Value} {l:List Int} (h:OwnIn w lo hi v l) (ha:Aft g w w') (hg:g<lo∨hi<=g) (hh:hi<=w.heap.size):OwnIn w' lo hi v l:=by
 rcases h with h|⟨g',cap,hv,hg',hh',ho⟩
 ·exact .inl h
 ·exact .inr ⟨g',cap,hv,hg',hh',ho.of_heap (ha.2.2.2.2 g' (by omega) (by omega))⟩
theorem OwnIn.ints {w:World} {lo hi:Nat} {v:Value} {l:List Int} (h:OwnIn w lo hi v l):∃ a cap,v=.slice a l.length cap/\Ints w hi a l:=by
 rcases h with⟨rfl,rfl⟩|⟨g,cap,rfl,_,hh,ho⟩
 ·exact⟨none,0,rfl,.inl rfl⟩
 ·exact⟨_,cap,rfl,ho.ints hh⟩
theorem eq_in {w:World} {lo hi lo' hi':Nat} {u v:Value} {l:List Int} (hu:OwnIn w lo hi u l) (hv:OwnIn w lo' hi' v l) (hn:l.length<=1048576) :
  Calls Tryz.prog 13 #[u,v] w fun e w'=>e=.returned (.bool true)/\Below w.heap.size w w':=by
 obtain⟨a,cap,rfl,ha⟩:=hu.ints
 obtain⟨b,cap',rfl,hb⟩:=hv.ints
 exact eq_any a b cap cap' l w (max hi hi') (ha.mono (Nat.le_max_left _ _)) (hb.mono (Nat.le_max_right _ _)) hn
def IntMarked (w:World) (lo hi:Nat) (v:Value) (n:Nat):Prop:=OwnIn w lo hi v (marks 1 n)
theorem mark_in {w:World} {lo hi:Nat} {v:Value} {l:List Int} (h:OwnIn w lo hi v l) (hn:l.length<=1048576) :
  Calls Tryz.prog 14 #[v,.int .i64 1] w fun e w'=>e=.returned (.int .i64 (1+l.length))/\OwnIn w' lo hi v (marks 1 l.length)/\∃ g,(g=lo∨(lo<=g/\g<hi))/\Aft g w w':=by
 rcases h with⟨rfl,rfl⟩|⟨g,cap,rfl,hg,hh,ho⟩
 ·refine(mark_none none 0 w).mono ?_
  rintro e w' ⟨rfl,rfl⟩
  exact⟨rfl,.inl ⟨rfl,rfl⟩,lo,.inl rfl,Aft.refl _ _⟩
 ·refine(mark_any g 2 cap l w ho hn).mono ?_
  rintro e w' ⟨rfl,hi',ha⟩
  exact⟨rfl,.inr ⟨g,cap,by rw[marks_length],hg,hh,hi'⟩,g,.inr ⟨hg,hh⟩,ha⟩
theorem held_in {w:World} {lo hi n:Nat} {v:Value} (h:OwnIn w lo hi v (marks 1 n)) (hn:n<=1048576) :
  Calls Tryz.prog 15 #[v,.int .i64 1] w fun e w'=>e=.returned (.int .i64 (1+n))/\Below w.heap.size w w':=by
 rcases h with⟨rfl,h0⟩|⟨g,cap,rfl,hg,hh,ho⟩
 ·have:n=0:=by rw[<-marks_length 1 n,h0];rfl
  subst this
  refine(held_none none 0 w).mono ?_
  rintro e w' ⟨rfl,rfl⟩
  exact⟨rfl,Below.refl _ _⟩
 ·rw[marks_length]
  exact held_any g 2 cap n w ho hn
end Go.Proofs.YtikiihjabbmkcaaGreatDoor.In

