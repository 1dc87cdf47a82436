/- Texts put together: GetSpec. -/
import Derived.Test.YtpddanmnlkcdpaaGreatDoorHz0
import Derived.WalkKit
import Derived.WalkSpells
import Derived.WalkLawsBesides
set_option maxRecDepth 100000
set_option maxHeartbeats 8000000
namespace Go.Proofs.YtpddanmnlkcdpaaGreatDoor.Gn
open Go.RowKit
theorem get_in (s:ByteArray) (a:Nat) (w:World) (hs:s.size<=8000) (ha:a<s.size) :
  Calls Tryz.prog 132 #[.string s,.int .i64 a] w fun e w'=>e=.returned (resV (numR s a))/\Below w.heap.size w w':=by
 go_enter Tryz.func132,Tryz.ntmps132
 go_wp2
 go_loop [5,6,7,8] (fun u i _ _=>∃ k v:Nat,k<=9/\i=.int .i64 k/\u=.int .u64 v/\v<2 ^ (7*k)/\numR s a=run s (10-k) k (a+k) v) (fun _ i _ _=>10-(intOf i).toNat)
 case atStart=>exact⟨0,0,by omega,rfl,rfl,by decide,rfl⟩
 case round =>
  obtain⟨k,v,hk,rfl,rfl,hv,hr⟩:=hrel
  have HV:=hide hv
  have HR:=hide hr
  have HK:=hide hk
  have hvb:v<=9223372036854775807:=by have:=pow_le k hk;omega
  clear hv hr
  obtain⟨f,hf⟩:∃ f,10-k=f+1:=⟨9-k,by omega⟩
  have HF:=hide hf
  clear hf
  by_cases hp:a+k<s.size
  ·have hb:s[a+k].toNat<256:=s[a+k].toNat_lt
   by_cases h9:k=9/\1<s[a+k].toNat
   ·have hk9:((k:Int)==9)=true:=beq_iff_eq.2 (by omega)
    have hc1:(1:Int)<s[a+k].toNat:=by omega
    have HE:Hid (numR s a=(0,0,3)):=HR.out.trans (by rw[HF.out];exact run_nine s f k (a+k) v hp h9.1 h9.2)
    have HH:=hide h9
    clear h9
    go_wp2
    refine bodyPost_ret (v:=outN 0 0 3) (by simp[results,outN,Tryz.results132,go_sem]) rfl ⟨by rw[HE.out];rfl,(Below.refl _ _).alloc (Nat.le_refl _) _⟩
   ·obtain⟨x,hx⟩:∃ x,x=v+s[a+k].toNat%128*2 ^ (7*k):=⟨_,rfl⟩
    obtain⟨hm1,hm2⟩:=next_small v s[a+k].toNat k HV.out hk h9
    have hw:=wrap_next v s[a+k].toNat k hm1 hm2
    rw[<-hx]at hw hm2
    have HX:=hide hx
    clear hx hm1
    have H9:=hide h9
    clear h9
    by_cases hc:s[a+k].toNat<128
    ·by_cases hz:s[a+k].toNat=0/\0<k
     ·have HE:Hid (numR s a=(0,0,3)):=HR.out.trans (by rw[HF.out];exact run_zero s f k (a+k) v hp hz.1 hz.2)
      have hcz:((s[a+k].toNat:Int)==0)=true:=beq_iff_eq.2 (by omega)
      have hcd:decide ((1:Int)<s[a+k].toNat)=false:=decide_eq_false (by omega)
      have hk0:(0:Int)<k:=by omega
      have HZ:=hide hz
      clear hz
      by_cases e9:k=9
      ·have hk9:((k:Int)==9)=true:=beq_iff_eq.2 (by omega)
       have H99:=hide e9
       clear e9
       go_wp2
       refine bodyPost_ret (v:=outN 0 0 3) (by simp[results,outN,Tryz.results132,go_sem]) rfl ⟨by rw[HE.out];rfl,(Below.refl _ _).alloc (Nat.le_refl _) _⟩
      ·have hk9:((k:Int)==9)=false:=beq_eq_false_iff_ne.2 (by omega)
       go_wp2
       refine bodyPost_ret (v:=outN 0 0 3) (by simp[results,outN,Tryz.results132,go_sem]) rfl ⟨by rw[HE.out];rfl,(Below.refl _ _).alloc (Nat.le_refl _) _⟩
     ·have HE:Hid (numR s a=(x,a+k+1,0)):=HR.out.trans (by rw[HF.out,HX.out];exact run_last s f k (a+k) v hp H9.out hc hz)
      have HZ:=hide hz
      clear hz
      by_cases cz:s[a+k].toNat=0
      ·have hk0:k=0:=by have:=HZ.out;omega
       have hcz:((s[a+k].toNat:Int)==0)=true:=beq_iff_eq.2 (by omega)
       have hnk:¬0<k:=by omega
       have hkd:decide (0<k)=false:=decide_eq_false hnk
       have hk9:((k:Int)==9)=false:=beq_eq_false_iff_ne.2 (by omega)
       have HC:=hide cz
       have HK0:=hide hk0
       clear cz hk0
       by_cases hodd:x%2=1
       ·have ho:(((x:Int)%2)==1)=true:=by rw[beq_iff_eq];omega
        have HO:=hide (unz_odd' x hodd)
        clear hodd
        go_wp2
        refine bodyPost_ret (v:=outN (-((x:Int)/2)-1) ((a:Int)+k+1) 0) (by simp[results,outN,Tryz.results132,go_sem]) rfl ⟨by rw[HE.out,HO.out];simp[resV],(Below.refl _ _).alloc (Nat.le_refl _) _⟩
       ·have ho:(((x:Int)%2)==1)=false:=by rw[beq_eq_false_iff_ne];omega
        have HO:=hide (unz_even' x hodd)
        clear hodd
        go_wp2
        refine bodyPost_ret (v:=outN ((x:Int)/2) ((a:Int)+k+1) 0) (by simp[results,outN,Tryz.results132,go_sem]) rfl ⟨by rw[HE.out,HO.out];simp[resV],(Below.refl _ _).alloc (Nat.le_refl _) _⟩
      ·have hcz:((s[a+k].toNat:Int)==0)=false:=beq_eq_false_iff_ne.2 (by omega)
       by_cases e9:k=9
       ·have hk9:((k:Int)==9)=true:=beq_iff_eq.2 (by omega)
        have hcd:decide ((1:Int)<s[a+k].toNat)=false:=decide_eq_false (by have:=H9.out;omega)
        have H99:=hide e9
        clear e9
        by_cases hodd:x%2=1
        ·have ho:(((x:Int)%2)==1)=true:=by rw[beq_iff_eq];omega
         have HO:=hide (unz_odd' x hodd)
         clear hodd
         go_wp2
         refine bodyPost_ret (v:=outN (-((x:Int)/2)-1) ((a:Int)+k+1) 0) (by simp[results,outN,Tryz.results132,go_sem]) rfl ⟨by rw[HE.out,HO.out];simp[resV],(Below.refl _ _).alloc (Nat.le_refl _) _⟩
        ·have ho:(((x:Int)%2)==1)=false:=by rw[beq_eq_false_iff_ne];omega
         have HO:=hide (unz_even' x hodd)
         clear hodd
         go_wp2
         refine bodyPost_ret (v:=outN ((x:Int)/2) ((a:Int)+k+1) 0) (by simp[results,outN,Tryz.results132,go_sem]) rfl ⟨by rw[HE.out,HO.out];simp[resV],(Below.refl _ _).alloc (Nat.le_refl _) _⟩
       ·have hk9:((k:Int)==9)=false:=beq_eq_false_iff_ne.2 (by omega)
        by_cases hodd:x%2=1
        ·have ho:(((x:Int)%2)==1)=true:=by rw[beq_iff_eq];omega
         have HO:=hide (unz_odd' x hodd)
         clear hodd
         go_wp2
         refine bodyPost_ret (v:=outN (-((x:Int)/2)-1) ((a:Int)+k+1) 0) (by simp[results,outN,Tryz.results132,go_sem]) rfl ⟨by rw[HE.out,HO.out];simp[resV],(Below.refl _ _).alloc (Nat.le_refl _) _⟩
        ·have ho:(((x:Int)%2)==1)=false:=by rw[beq_eq_false_iff_ne];omega
         have HO:=hide (unz_even' x hodd)
         clear hodd
         go_wp2
         refine bodyPost_ret (v:=outN ((x:Int)/2) ((a:Int)+k+1) 0) (by simp[results,outN,Tryz.results132,go_sem]) rfl ⟨by rw[HE.out,HO.out];simp[resV],(Below.refl _ _).alloc (Nat.le_refl _) _⟩
    ·have hn9:¬k=9:=by have:=H9.out;omega
     have hk9:((k:Int)==9)=false:=beq_eq_false_iff_ne.2 (by omega)
     have HE:Hid (numR s a=run s f (k+1) (a+k+1) x):=HR.out.trans (by rw[HF.out,HX.out];exact run_more s f k (a+k) v hp hn9 (by omega))
     go_wp2
     go_round
     case rel=>exact⟨k+1,x,by omega,by go_num,rfl,by rw[HX.out];exact next_lt _ _ _ HV.out,by rw[HE.out,show 10-(k+1)=f from by have:=HF.out;omega];rfl⟩
     case measure=>simp[intOf];omega
  ·have HE:Hid (numR s a=(0,0,4)):=HR.out.trans (by rw[HF.out];exact run_end s f k (a+k) v (by omega))
   go_wp2
   refine bodyPost_ret (v:=outN 0 0 4) (by simp[results,outN,Tryz.results132,go_sem]) rfl ⟨by rw[HE.out];rfl,(Below.refl _ _).alloc (Nat.le_refl _) _⟩
theorem get_spec (s:ByteArray) (a:Int) (w:World) (hs:s.size<=maxLen) :
  Calls Tryz.prog 132 #[.string s,.int .i64 a] w fun e w'=>e=.returned (getV s a)/\Below w.heap.size w w':=by
 unfold maxLen at hs
 by_cases h1:8000<s.size
 ·have HE:Hid (getV s a=outN 0 0 2):=by unfold Hid getV;rw[if_pos h1]
  go_enter Tryz.func132,Tryz.ntmps132
  go_wp2
  refine bodyPost_ret (v:=outN 0 0 2) (by simp[results,outN,Tryz.results132,go_sem]) rfl ⟨by rw[HE.out],(Below.refl _ _).alloc (Nat.le_refl _) _⟩
 ·by_cases h2:a<0
  ·have HE:Hid (getV s a=outN 0 0 1):=by unfold Hid getV;rw[if_neg h1,if_pos h2]
   go_enter Tryz.func132,Tryz.ntmps132
   go_wp2
   refine bodyPost_ret (v:=outN 0 0 1) (by simp[results,outN,Tryz.results132,go_sem]) rfl ⟨by rw[HE.out],(Below.refl _ _).alloc (Nat.le_refl _) _⟩
  ·obtain⟨n,rfl⟩:=Int.eq_ofNat_of_zero_le (show 0<=a from by omega)
   have e0:getV s (n:Int)=resV (numR s n):=by unfold getV;rw[if_neg h1,if_neg h2,Int.toNat_natCast]
   by_cases h3:n<s.size
   ·rw[e0]
    exact get_in s n w (by omega) h3
   ·have HE:Hid (getV s (n:Int)=outN 0 0 4):=e0.trans (by unfold numR;rw[run_end s 9 0 n 0 (by omega)];rfl)
    clear e0
    go_enter Tryz.func132,Tryz.ntmps132
    go_wp2
    refine wp_loop_rounds 1 ?_
    rw[rounds_succ]
    go_wp2
    refine bodyPost_ret (v:=outN 0 0 4) (by simp[results,outN,Tryz.results132,go_sem]) rfl ⟨by rw[HE.out],(Below.refl _ _).alloc (Nat.le_refl _) _⟩
end Go.Proofs.YtpddanmnlkcdpaaGreatDoor.Gn

