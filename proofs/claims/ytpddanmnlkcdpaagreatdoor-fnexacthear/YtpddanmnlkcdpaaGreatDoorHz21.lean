/- Texts put together: LsRight, JoinWalks, OnesPlain. -/
import Derived.Test.YtpddanmnlkcdpaaGreatDoorHz17
import Derived.Test.YtpddanmnlkcdpaaGreatDoorHz7
import Derived.Laws.BitsAllLaws
set_option maxRecDepth 100000
set_option maxHeartbeats 8000000
namespace Go.Proofs.YtpddanmnlkcdpaaGreatDoor.Ls
open Go.RowKit
open Bk (cnt cnt_le count_any)
open Bi (is_yes is_no)
theorem hideL {p:Prop} (h:p):Hid p:=h
def rightB (z b:Int) (r:ByteArray):Bool:=decide (0<=z/\z<=1000/\1<=b/\b<=48/\r.size=32/\z<=b*64)
def lV (z b:Int) (r:ByteArray):Value:=.agg #[.int .i64 z,.int .i64 b,.string r]
def countN (z b:Int) (r:ByteArray):Nat:=if rightB z b r=true then cnt z.toNat b.toNat else 0
theorem rightB_yes {z b:Int} {r:ByteArray} (h:rightB z b r=true):0<=z/\z<=1000/\1<=b/\b<=48/\r.size=32/\z<=b*64:=of_decide_eq_true h
theorem countN_yes {p k:Nat} {r:ByteArray} (h:rightB p k r=true):countN p k r=cnt p k/\cnt p k<=64:=by
 have h1:=rightB_yes h
 unfold countN
 rw[if_pos h]
 refine⟨rfl,(cnt_le (by omega)).2 (by omega)⟩
theorem countN_no {z b:Int} {r:ByteArray} (h:rightB z b r=false):countN z b r=0:=by
 unfold countN
 rw[h]
 rfl
theorem countN_le (z b:Int) (r:ByteArray):countN z b r<=64:=by
 cases h:rightB z b r with
 |false=>rw[countN_no h];omega
 |true =>
  have h1:=rightB_yes h
  obtain⟨p,rfl⟩:=Int.eq_ofNat_of_zero_le h1.1
  obtain⟨k,rfl⟩:=Int.eq_ofNat_of_zero_le (show 0<=b by omega)
  have:=countN_yes h
  omega
theorem right_impl (z b:Int) (r:ByteArray) (w:World) :
  Calls Tryz.prog 112 #[lV z b r] w fun e w'=>e=.returned (.bool (rightB z b r))/\Below w.heap.size w w':=by
 unfold lV
 by_cases h1:z<0
 ·have HF:Hid (rightB z b r=false):=by unfold Hid rightB;simp;omega
  rw[HF.out]
  go_enter Tryz.func112,Tryz.ntmps112
  go_wp2_with fail
  go_ret
  exact⟨rfl,(Below.refl _ _).alloc (Nat.le_refl _) _⟩
 ·by_cases h2:1000<z
  ·have HF:Hid (rightB z b r=false):=by unfold Hid rightB;simp;omega
   rw[HF.out]
   go_enter Tryz.func112,Tryz.ntmps112
   go_wp2_with fail
   go_ret
   exact⟨rfl,(Below.refl _ _).alloc (Nat.le_refl _) _⟩
  ·by_cases h3:b<1
   ·have HF:Hid (rightB z b r=false):=by unfold Hid rightB;simp;omega
    rw[HF.out]
    go_enter Tryz.func112,Tryz.ntmps112
    go_wp2_with fail
    go_ret
    exact⟨rfl,(Below.refl _ _).alloc (Nat.le_refl _) _⟩
   ·by_cases h4:48<b
    ·have HF:Hid (rightB z b r=false):=by unfold Hid rightB;simp;omega
     rw[HF.out]
     go_enter Tryz.func112,Tryz.ntmps112
     go_wp2_with fail
     go_ret
     exact⟨rfl,(Below.refl _ _).alloc (Nat.le_refl _) _⟩
    ·by_cases h5:r.size=32
     ·have HF:Hid (rightB z b r=decide (z<=b*64)):=by unfold Hid rightB;rw[decide_eq_decide];omega
      rw[HF.out]
      have h5':((r.size:Int)==32)=true:=by rw[h5];rfl
      have H5:=hideL h5
      clear h5
      have hw:IntKind.i64.wrap (b*64)=b*64:=by rw[IntKind.wrap_i64];omega
      go_enter Tryz.func112,Tryz.ntmps112
      go_wp2_with fail
      go_ret
      exact⟨rfl,(Below.refl _ _).alloc (Nat.le_refl _) _⟩
     ·have HF:Hid (rightB z b r=false):=by unfold Hid rightB;simp;omega
      rw[HF.out]
      have h5':((r.size:Int)==32)=false:=beq_eq_false_iff_ne.2 (by omega)
      go_enter Tryz.func112,Tryz.ntmps112
      go_wp2_with fail
      go_ret
      exact⟨rfl,(Below.refl _ _).alloc (Nat.le_refl _) _⟩
theorem right_spec (z b:Int) (r:ByteArray) (w:World) :
  Calls Tryz.prog 101 #[lV z b r] w fun e w'=>e=.returned (.bool (rightB z b r))/\Below w.heap.size w w':=by
 unfold lV
 have hbl:∀ o,Below w.heap.size w (w.alloc o):=fun o=>(Below.refl _ _).alloc (Nat.le_refl _) _
 by_cases h1:0<=z/\z<=1000
 ·have H1:=hideL (fun W=>is_yes z 0 1000 W h1.1 h1.2)
  obtain⟨p,rfl⟩:=Int.eq_ofNat_of_zero_le h1.1
  by_cases h2:1<=b/\b<=48
  ·have H2:=hideL (fun W=>is_yes b 1 48 W h2.1 h2.2)
   obtain⟨k,rfl⟩:=Int.eq_ofNat_of_zero_le (show 0<=b by omega)
   by_cases h5:r.size=32
   ·have h5':((r.size:Int)==32)=true:=by rw[h5];rfl
    have HC:=hideL (fun W=>count_any p k W (by omega) (by omega) (by omega))
    have HE:=hideL (cnt_le (p:=p) (k:=k) (by omega))
    have H12:=hideL (And.intro h1 h2)
    have H5:=hideL h5
    clear h1 h2 h5
    by_cases h6:cnt p k<=64
    ·have HF:Hid (rightB p k r=true):=by unfold Hid rightB;have:=HE.out.1 h6;have:=H12.out;have:=H5.out;simp;omega
     have h6':((cnt p k:Nat):Int)<=64:=by omega
     rw[HF.out]
     generalize cnt p k=c at HC h6'
     clear h6 HE HF H12 H5
     go_enter Tryz.func101,Tryz.ntmps101
     go_wp2_with fail
     refine(H1.out _).mono ?_
     rintro e w1 ⟨rfl,hw⟩
     subst w1
     go_wp2_with fail
     refine(H2.out _).mono ?_
     rintro e w1 ⟨rfl,hw⟩
     subst w1
     go_wp2_with fail
     refine(HC.out _).mono ?_
     rintro e w1 ⟨rfl,hw⟩
     subst w1
     go_wp2_with fail
     go_ret
     exact⟨rfl,hbl _⟩
    ·have HF:Hid (rightB p k r=false):=by unfold Hid rightB;have:=HE.out.2;have:=H12.out;have:=H5.out;simp;omega
     have h6':decide (((cnt p k:Nat):Int)<=64)=false:=by simp;omega
     rw[HF.out]
     generalize cnt p k=c at HC h6'
     clear h6 HE HF H12 H5
     go_enter Tryz.func101,Tryz.ntmps101
     go_wp2_with fail
     refine(H1.out _).mono ?_
     rintro e w1 ⟨rfl,hw⟩
     subst w1
     go_wp2_with fail
     refine(H2.out _).mono ?_
     rintro e w1 ⟨rfl,hw⟩
     subst w1
     go_wp2_with fail
     refine(HC.out _).mono ?_
     rintro e w1 ⟨rfl,hw⟩
     subst w1
     go_wp2_with fail
     go_ret
     exact⟨rfl,hbl _⟩
   ·have HF:Hid (rightB p k r=false):=by unfold Hid rightB;simp;omega
    rw[HF.out]
    have h5':((r.size:Int)==32)=false:=beq_eq_false_iff_ne.2 (by omega)
    clear HF
    go_enter Tryz.func101,Tryz.ntmps101
    go_wp2_with fail
    refine(H1.out _).mono ?_
    rintro e w1 ⟨rfl,hw⟩
    subst w1
    go_wp2_with fail
    refine(H2.out _).mono ?_
    rintro e w1 ⟨rfl,hw⟩
    subst w1
    go_wp2_with fail
    go_ret
    exact⟨rfl,hbl _⟩
  ·have H2:=hideL (fun W=>is_no b 1 48 W (by omega))
   have HF:Hid (rightB p b r=false):=by unfold Hid rightB;simp;omega
   rw[HF.out]
   clear HF h2
   go_enter Tryz.func101,Tryz.ntmps101
   go_wp2_with fail
   refine(H1.out _).mono ?_
   rintro e w1 ⟨rfl,hw⟩
   subst w1
   go_wp2_with fail
   refine(H2.out _).mono ?_
   rintro e w1 ⟨rfl,hw⟩
   subst w1
   go_wp2_with fail
   go_ret
   exact⟨rfl,hbl _⟩
 ·have H1:=hideL (fun W=>is_no z 0 1000 W (by omega))
  have HF:Hid (rightB z b r=false):=by unfold Hid rightB;simp;omega
  rw[HF.out]
  clear HF h1
  go_enter Tryz.func101,Tryz.ntmps101
  go_wp2_with fail
  refine(H1.out _).mono ?_
  rintro e w1 ⟨rfl,hw⟩
  subst w1
  go_wp2_with fail
  go_ret
  exact⟨rfl,hbl _⟩
theorem count_impl (z b:Int) (r:ByteArray) (w:World) :
  Calls Tryz.prog 68 #[lV z b r] w fun e w'=>e=.returned (.int .i64 (countN z b r:Nat))/\Below w.heap.size w w':=by
 have HR:=hideL (fun W=>right_impl z b r W)
 cases hc:rightB z b r with
 |false =>
  have HF:=hideL (countN_no hc)
  rw[hc]at HR
  rw[HF.out]
  clear HF hc
  unfold lV at HR ⊢
  go_enter Tryz.func68,Tryz.ntmps68
  go_wp2_with fail
  refine(HR.out _).mono ?_
  rintro e w1 ⟨rfl,hb1⟩
  have HB1:=hideL (((Below.refl w.heap.size w).alloc (Nat.le_refl _) _).trans (hb1.mono (by simp)))
  clear hb1
  go_wp2_with fail
  go_ret
  exact⟨rfl,HB1.out⟩
 |true =>
  have h1:=rightB_yes hc
  obtain⟨p,rfl⟩:=Int.eq_ofNat_of_zero_le h1.1
  obtain⟨k,rfl⟩:=Int.eq_ofNat_of_zero_le (show 0<=b by omega)
  obtain⟨HF,hcb⟩:=countN_yes hc
  have HF:=hideL HF
  rw[HF.out]
  have hq:((p:Int)+k-1).tdiv k=((cnt p k:Nat):Int):=by
   unfold cnt
   rw[Int.tdiv_eq_ediv_of_nonneg (by omega),Int.natCast_ediv]
   congr 1
   omega
  have hk0:((k:Int)==0)=false:=by simp;omega
  rw[hc]at HR
  clear HF hc
  generalize cnt p k=c at hq hcb ⊢
  obtain⟨v,hv⟩:∃ v,v=lV p k r:=⟨_,rfl⟩
  unfold lV at HR ⊢
  go_enter Tryz.func68,Tryz.ntmps68
  go_wp2_with fail
  have HX:Hid ((w.alloc (.cells #[.int .i64 p,.int .i64 k,.string r] 30)).heap[w.heap.size]? = some (.cells #[.int .i64 p,.int .i64 k,.string r] 30 (0,0))):=heap_alloc_new w _
  refine(HR.out _).mono ?_
  rintro e w1 ⟨rfl,hb1⟩
  have HB1:=hideL (((Below.refl w.heap.size w).alloc (Nat.le_refl _) _).trans (hb1.mono (by simp)))
  have HX1:=hideL ((hb1.block _ (by simp)).trans HX.out)
  clear hb1 HX
  have c0:w1.cell? ⟨w.heap.size,0,none⟩=some (.int .i64 p):=cell_of_row w1 _ 0 _ _ _ HX1.out
  have c1:w1.cell? ⟨w.heap.size,1,none⟩=some (.int .i64 k):=cell_of_row w1 _ 1 _ _ _ HX1.out
  go_wp2_with fail
  go_ret
  exact⟨rfl,HB1.out⟩
theorem count_spec (z b:Int) (r:ByteArray) (w:World) :
  Calls Tryz.prog 59 #[lV z b r] w fun e w'=>e=.returned (.int .i64 (countN z b r:Nat))/\Below w.heap.size w w':=by
 have HR:=hideL (fun W=>right_spec z b r W)
 cases hc:rightB z b r with
 |false =>
  have HF:=hideL (countN_no hc)
  rw[hc]at HR
  rw[HF.out]
  clear HF hc
  unfold lV at HR ⊢
  go_enter Tryz.func59,Tryz.ntmps59
  go_wp2_with fail
  refine(HR.out _).mono ?_
  rintro e w1 ⟨rfl,hb1⟩
  have HB1:=hideL (((Below.refl w.heap.size w).alloc (Nat.le_refl _) _).trans (hb1.mono (by simp)))
  clear hb1
  go_wp2_with fail
  go_ret
  exact⟨rfl,HB1.out⟩
 |true =>
  have h1:=rightB_yes hc
  obtain⟨p,rfl⟩:=Int.eq_ofNat_of_zero_le h1.1
  obtain⟨k,rfl⟩:=Int.eq_ofNat_of_zero_le (show 0<=b by omega)
  obtain⟨HF,hcb⟩:=countN_yes hc
  have HF:=hideL HF
  rw[HF.out]
  have HC:=hideL (fun W=>count_any p k W (by omega) (by omega) (by omega))
  rw[hc]at HR
  clear HF hc
  generalize cnt p k=c at hcb HC ⊢
  unfold lV at HR ⊢
  go_enter Tryz.func59,Tryz.ntmps59
  go_wp2_with fail
  have HX:Hid ((w.alloc (.cells #[.int .i64 p,.int .i64 k,.string r] 30)).heap[w.heap.size]? = some (.cells #[.int .i64 p,.int .i64 k,.string r] 30 (0,0))):=heap_alloc_new w _
  refine(HR.out _).mono ?_
  rintro e w1 ⟨rfl,hb1⟩
  have HB1:=hideL (((Below.refl w.heap.size w).alloc (Nat.le_refl _) _).trans (hb1.mono (by simp)))
  have HX1:=hideL ((hb1.block _ (by simp)).trans HX.out)
  clear hb1 HX
  have c0:w1.cell? ⟨w.heap.size,0,none⟩=some (.int .i64 p):=cell_of_row w1 _ 0 _ _ _ HX1.out
  have c1:w1.cell? ⟨w.heap.size,1,none⟩=some (.int .i64 k):=cell_of_row w1 _ 1 _ _ _ HX1.out
  go_wp2_with fail
  refine(HC.out _).mono ?_
  rintro e w2 ⟨rfl,hw⟩
  subst w2
  go_wp2_with fail
  go_ret
  exact⟨rfl,HB1.out⟩
end Go.Proofs.YtpddanmnlkcdpaaGreatDoor.Ls


namespace Go.Proofs.YtpddanmnlkcdpaaGreatDoor.Nu
open Go.RowKit
theorem join_some (a b:ByteArray) (w:World) (h:a.size+b.size<=1099511627776) (hb:¬b=ByteArray.empty) :
  Calls Tryz.prog 196 #[.string a,.string b] w fun e w'=>e=.returned (.string (a++b))/\Below w.heap.size w w':=by
 obtain⟨i0,hi,hz0,hz1,hz2⟩:=info_parts Tryz.infoJ5
 go_enter Tryz.func196,Tryz.ntmps196
 go_wp2_with (at_make;refine wpList_make_full _ rfl (.tmp 10) (.tmp 10) 168 rfl w.heap.size 5 i0 (.int .u8 0) 1 Tryz.underlying168 hi hz0 hz1 .i64 .i64 _ _ (a.size+b.size) rfl rfl (by simp) (by simp) (by rw[hz2];omega) (by unfold maxLen;omega) (Nat.le_refl _) ?_;intro w1 hown1 hgrow1;obtain⟨cur,hblk,hlen⟩:=made_block hown1;have hbel1:=(Below.refl w.heap.size w).grown hgrow1 (Nat.le_refl _) (by simp);obtain⟨w2,w3,c1,c2,c3,hb3⟩:=join_facts (P:=Tryz.prog) (ty:=3) (sT:=9) (a:=a) (b:=b) (dp:=some ⟨w.heap.size,a.size,none⟩) (dLen:=b.size) (dCap:=b.size) Tryz.underlying168 Tryz.underlying5 Tryz.underlying9 Tryz.sizeJ5 hblk hlen rfl hbel1 (fun _=>rfl) (Nat.le_refl _);clear hown1 hgrow1 hblk hlen hbel1)
 go_ret
 exact⟨rfl,by assumption⟩
theorem join_none (a:ByteArray) (w:World) (h:a.size<=1099511627776) :
  Calls Tryz.prog 196 #[.string a,.string ByteArray.empty] w fun e w'=>e=.returned (.string (a++ByteArray.empty))/\Below w.heap.size w w':=by
 obtain⟨i0,hi,hz0,hz1,hz2⟩:=info_parts Tryz.infoJ5
 go_enter Tryz.func196,Tryz.ntmps196
 go_wp2_with (at_make;refine wpList_make_full _ rfl (.tmp 10) (.tmp 10) 168 rfl w.heap.size 5 i0 (.int .u8 0) 1 Tryz.underlying168 hi hz0 hz1 .i64 .i64 _ _ a.size rfl rfl (by simp) (by simp) (by rw[hz2];omega) (by unfold maxLen;omega) (Nat.le_refl _) ?_;intro w1 hown1 hgrow1;obtain⟨cur,hblk,hlen⟩:=made_block hown1;have hbel1:=(Below.refl w.heap.size w).grown hgrow1 (Nat.le_refl _) (by simp);obtain⟨w2,w3,c1,c2,c3,hb3⟩:=join_facts (P:=Tryz.prog) (ty:=3) (sT:=9) (a:=a) (b:=ByteArray.empty) (dp:=some ⟨w.heap.size,0,none⟩) (dLen:=0) (dCap:=0) Tryz.underlying168 Tryz.underlying5 Tryz.underlying9 Tryz.sizeJ5 hblk hlen (by simp) hbel1 (by simp) (by simp);clear hown1 hgrow1 hblk hlen hbel1)
 go_ret
 exact⟨ret_strJ (by simp),by assumption⟩
theorem join_any (a b:ByteArray) (w:World) (h:a.size+b.size<=1099511627776) :
  Calls Tryz.prog 196 #[.string a,.string b] w fun e w'=>e=.returned (.string (a++b))/\Below w.heap.size w w':=by
 by_cases hb:b=ByteArray.empty
 ·subst hb
  exact join_none a w (by omega)
 ·exact join_some a b w h hb
end Go.Proofs.YtpddanmnlkcdpaaGreatDoor.Nu


/- Plain mathematics: how many bits of a number are 1, put together byte by byte. -/
namespace Go.Proofs.YtpddanmnlkcdpaaGreatDoor.Tr
def ones (n:Nat):Nat:=if _h:n=0 then 0 else n%2+ones (n/2)
termination_by n
decreasing_by omega
def f1 (a:Nat):Nat:=(a/2 &&& 85)+(a &&& 85)
def f2 (a:Nat):Nat:=(a/4 &&& 51)+(a &&& 51)
def ones8 (a:Nat):Nat:=a%2+(a/2%2+(a/4%2+(a/8%2+(a/16%2+(a/32%2+(a/64%2+a/128%2))))))
end Go.Proofs.YtpddanmnlkcdpaaGreatDoor.Tr

