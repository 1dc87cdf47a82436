/- Texts put together: UnsealSpec. -/
import Derived.Test.YtpddanmnlkcdpaaGreatDoorHz22
set_option maxRecDepth 100000
set_option maxHeartbeats 8000000
namespace Go.Proofs.YtpddanmnlkcdpaaGreatDoor.Se
open Go.RowKit
open Nu (bv arr_string ret_strJ hideJ)
theorem seal_split (s t:ByteArray) (ht:t=s.extract 0 (s.size-4)) (hts:t.size<=7996):sealV t=s↔fourS (crcOf t)=s.extract (s.size-4) s.size:=by
 have e:t++s.extract (s.size-4) s.size=s:=by
  rw[ht,ByteArray.extract_append_extract];simp[Nat.max_eq_right]
 unfold sealV
 rw[if_pos hts]
 constructor
 ·intro h
  rw[<-e]at h
  generalize s.extract (s.size-4) s.size=r at h e ⊢
  have h':t++fourS (crcOf t)=t++r:=by
   rw[e]at h
   rw[e]
   exact h
  exact(ByteArray.append_right_inj t).1 h'
 ·intro h
  rw[h]
  exact e
theorem unseal_spec (s:ByteArray) (w:World) (hs:s.size<=maxLen) :
  Calls Tryz.prog 131 #[.string s] w fun e w'=>e=.returned (unsealV s)/\Below w.heap.size w w':=by
 unfold maxLen at hs
 by_cases h1:8000<s.size
 ·have HV:=hideJ (show unsealV s=outV ⟨#[]⟩ 0 2 by unfold unsealV;rw[if_pos h1])
  go_enter Tryz.func131,Tryz.ntmps131
  go_wp2
  refine bodyPost_ret (v:=outV ⟨#[]⟩ 0 2) (by simp[results,outV,Tryz.results131,go_sem]) rfl ⟨by rw[HV.out],?_⟩
  exact(Below.refl _ _).alloc (Nat.le_refl _) _
 ·by_cases h2:s.size<4
  ·have HV:=hideJ (show unsealV s=outV ⟨#[]⟩ 0 4 by unfold unsealV;rw[if_neg h1,if_pos h2])
   go_enter Tryz.func131,Tryz.ntmps131
   go_wp2
   refine bodyPost_ret (v:=outV ⟨#[]⟩ 0 4) (by simp[results,outV,Tryz.results131,go_sem]) rfl ⟨by rw[HV.out],?_⟩
   exact(Below.refl _ _).alloc (Nat.le_refl _) _
  ·obtain⟨t,ht⟩:∃ t,t=s.extract 0 (s.size-4):=⟨_,rfl⟩
   have hts:t.size<=7996:=by rw[ht];simp;omega
   by_cases hq:sealV t=s
   ·have HV:=hideJ (unsealV_yes s t h1 h2 ht hq)
    have hB:((fourS (crcOf t)).toList==(s.extract (s.size-4) s.size).toList)=true:=by rw[list_eq_iff];exact decide_eq_true ((seal_split s t ht hts).1 hq)
    have hB2:((fourS (crcOf t)).toList==(s.extract ((s.size:Int)-4).toNat s.size).toList)=true:=by rw[show ((s.size:Int)-4).toNat=s.size-4 from by omega];exact hB
    have HT:=hideJ ht
    clear ht hq
    have g1:(0:Int)<=(s.size:Int)-4:=by omega
    have g2:(s.size:Int)-4<=(s.size:Int):=by omega
    have hwr:IntKind.i64.wrap ((s.size:Int)-4)=(s.size:Int)-4:=by rw[IntKind.wrap_i64];omega
    go_enter Tryz.func131,Tryz.ntmps131
    go_wp2
    rw[<-HT.out]
    go_region_with (first|(go_at_call 164;refine(Cr.crc_spec 0 t _ (by omega) (by omega)).mono ?_;rintro e w' ⟨rfl,hw⟩;subst w')|(go_at_call 163;refine(four_any (crcOf t) _ (crcOf_lt t)).mono ?_;rintro e wa ⟨rfl,hb1⟩))
    obtain⟨hc1,hf1⟩:=bcell hb1
    have hz1:w.heap.size+1<=wa.heap.size:=by have:=hb1.size;simpa using this
    go_wp2
    refine bodyPost_ret (v:=outV t 0 0) (by simp[results,outV,Tryz.results131,go_sem,hc1]) rfl ⟨by rw[HV.out],?_⟩
    exact((below2d hb1).setCell (Nat.le_refl _) _ |>.setCell (Nat.le_refl _) _).setCell (Nat.le_refl _) _
   ·have HV:=hideJ (unsealV_no s t h1 h2 ht hq)
    have hB:((fourS (crcOf t)).toList==(s.extract (s.size-4) s.size).toList)=false:=by rw[list_eq_iff];exact decide_eq_false (fun h=>hq ((seal_split s t ht hts).2 h))
    have hB2:((fourS (crcOf t)).toList==(s.extract ((s.size:Int)-4).toNat s.size).toList)=false:=by rw[show ((s.size:Int)-4).toNat=s.size-4 from by omega];exact hB
    have HT:=hideJ ht
    clear ht hq
    have g1:(0:Int)<=(s.size:Int)-4:=by omega
    have g2:(s.size:Int)-4<=(s.size:Int):=by omega
    have hwr:IntKind.i64.wrap ((s.size:Int)-4)=(s.size:Int)-4:=by rw[IntKind.wrap_i64];omega
    go_enter Tryz.func131,Tryz.ntmps131
    go_wp2
    rw[<-HT.out]
    go_region_with (first|(go_at_call 164;refine(Cr.crc_spec 0 t _ (by omega) (by omega)).mono ?_;rintro e w' ⟨rfl,hw⟩;subst w')|(go_at_call 163;refine(four_any (crcOf t) _ (crcOf_lt t)).mono ?_;rintro e wa ⟨rfl,hb1⟩))
    obtain⟨hc1,hf1⟩:=bcell hb1
    have hz1:w.heap.size+1<=wa.heap.size:=by have:=hb1.size;simpa using this
    go_wp2
    refine bodyPost_ret (v:=outV ⟨#[]⟩ 0 5) (by simp[results,outV,Tryz.results131,go_sem,hc1]) rfl ⟨by rw[HV.out],?_⟩
    exact((below2d hb1).setCell (Nat.le_refl _) _ |>.setCell (Nat.le_refl _) _).setCell (Nat.le_refl _) _
end Go.Proofs.YtpddanmnlkcdpaaGreatDoor.Se

