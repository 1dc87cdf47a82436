import Derived.Test.YtbdcffjcogglbaaGreatDoorOz20
import Derived.Test.YtbdcffjcogglbaaGreatDoorOz39
import Derived.Test.YtbdcffjcogglbaaGreatDoorOz9
import Derived.RegionTactic
import Derived.Test.YtbdcffjcogglbaaGreatDoorOz21
import Derived.Deep.CutRange
import Derived.Deep.RegionHeld3
set_option maxRecDepth 100000
set_option maxHeartbeats 8000000
namespace Go.Proofs.YtbdcffjcogglbaaGreatDoor
open Go.RowKit
open Go.Proofs.Tryz
namespace Gn
theorem ret_int {k:IntKind} {a b:Int} (h:a=b):Ending.returned (.int k a)=.returned (.int k b):=by rw[h]
theorem not_half (u:Nat) (h:u<=18446744073709551615):bits BinOp.xor IntKind.u64 IntKind.u64.max ((u:Int)/2)=((18446744073709551615-u/2:Nat):Int):=by
 have e:((u:Int)/2)=((u/2:Nat):Int):=by omega
 rw[e,show IntKind.u64.max=((18446744073709551615:Nat):Int) from rfl,u64_xor_nat _ _ (by decide) (by omega)];have e:=congrArg BitVec.toNat (BitVec.allOnes_xor (x:=BitVec.ofNat 64 (u/2)));rw[BitVec.toNat_xor,BitVec.toNat_not,BitVec.toNat_allOnes,BitVec.toNat_ofNat,Nat.mod_eq_of_lt (by omega)]at e;exact congrArg (fun n:Nat=>(n:Int)) e
theorem low_bit (u:Nat) (h:u<=18446744073709551615):bits BinOp.and IntKind.u64 (u:Int) 1=((u%2:Nat):Int):=by
 have:=u64_and_nat u 1 (by omega) (by decide)
 rw[nat_mask1]at this;exact this
theorem unfold_any (u:Nat) (w:World) (h:u<=18446744073709551615) :
  Calls prog 173 #[.int .u64 u] w fun e w'=>e=.returned (.int .i64 (unz u))/\w'=w:=by
 have hl:=low_bit u h;by_cases hodd:u%2=1
 ·have ht:(bits BinOp.and IntKind.u64 (u:Int) 1==1)=true:=by rw[hl,hodd];rfl
  obtain⟨z,hz⟩:∃ z,z=18446744073709551615-u/2:=⟨_,rfl⟩;have hn:=not_half u h;rw[<-hz]at hn;have HO:=hide (unz_odd u hodd);have HZ:=hide hz;clear hl hodd hz;go_enter func173,ntmps173
  go_wp2
  go_ret;exact⟨ret_int (by rw[HO.o,HZ.o];simp[wrap64];omega),rfl⟩
 ·have ht:(bits BinOp.and IntKind.u64 (u:Int) 1==1)=false:=by rw[hl];simp;omega
  have HO:=hide (unz_even' u hodd);clear hl hodd;go_enter func173,ntmps173
  go_wp2
  go_ret;exact⟨ret_int HO.o,rfl⟩
theorem place_big (s:ByteArray) (a:Int) (w:World) (hs:s.size<=maxLen) (h:8000<s.size) :
  Calls prog 171 #[.string s,.int .i64 a] w fun e w'=>e=.returned (.iface 171 (.agg #[.int .i64 2]))/\w'=w:=by
 unfold maxLen at hs;go_enter func171,ntmps171
 go_wp2
 go_ret;exact⟨rfl,rfl⟩
theorem place_neg (s:ByteArray) (a:Int) (w:World) (hs:¬8000<s.size) (h:a<0) :
  Calls prog 171 #[.string s,.int .i64 a] w fun e w'=>e=.returned (.iface 171 (.agg #[.int .i64 1]))/\w'=w:=by
 go_enter func171,ntmps171
 go_wp2
 go_ret;exact⟨rfl,rfl⟩
theorem place_ok (s:ByteArray) (a:Int) (w:World) (hs:¬8000<s.size) (h:¬a<0) :
  Calls prog 171 #[.string s,.int .i64 a] w fun e w'=>e=.returned .nilIface/\w'=w:=by
 go_enter func171,ntmps171
 go_wp2
 go_ret;exact⟨rfl,rfl⟩
def rd (s:ByteArray) (a:Int):Int × Nat × Int:=if 8000<s.size then (0,0,2) else if a<0 then (0,0,1) else (unz (numR s a.toNat).1,(numR s a.toNat).2.1,(numR s a.toNat).2.2)
theorem run_codes (s:ByteArray):∀ f k p u,(run s f k p u).2.2=0∨((run s f k p u).1=0/\(run s f k p u).2.1=0/\((run s f k p u).2.2=3∨(run s f k p u).2.2=4)):=by
 intro f
 induction f with
 |zero=>intro k p u;exact .inr ⟨rfl,rfl,.inl rfl⟩
 |succ f ih =>
  intro k p u;rw[run]
  split
  ·exact .inr ⟨rfl,rfl,.inr rfl⟩
  ·split
   ·exact .inr ⟨rfl,rfl,.inl rfl⟩
   ·split
    ·split
     ·exact .inr ⟨rfl,rfl,.inl rfl⟩
     ·exact .inl rfl
    ·exact ih _ _ _
theorem run_bound (s:ByteArray):∀ f k p u,k<=9->u<2 ^ (7*k)->(run s f k p u).1<=18446744073709551615:=by
 intro f
 induction f with
 |zero=>intro k p u _ _;exact Nat.zero_le _
 |succ f ih =>
  intro k p u hk hu;rw[run]
  split
  ·exact Nat.zero_le _
  ·split
   ·exact Nat.zero_le _
   ·rename_i h9
    split
    ·split
     ·exact Nat.zero_le _
     ·exact(next_small u (byteN s p) k hu hk h9).2
    ·exact ih _ _ _ (by omega) (next_lt _ _ _ hu)
theorem run_place (s:ByteArray):∀ f k p u,(run s f k p u).2.1<=s.size:=by
 intro f
 induction f with
 |zero=>intro k p u;exact Nat.zero_le _
 |succ f ih =>
  intro k p u;rw[run]
  split
  ·exact Nat.zero_le _
  ·split
   ·exact Nat.zero_le _
   ·split
    ·split
     ·exact Nat.zero_le _
     ·show p+1<=s.size;omega
    ·exact ih _ _ _
theorem read_any (s:ByteArray) (a:Int) (w:World) (hs:s.size<=maxLen) :
  Calls prog 143 #[.string s,.int .i64 a] w fun e w'=>e=.returned (.tuple #[.int .i64 (rd s a).1,.int .i64 (rd s a).2.1,errV (rd s a).2.2])/\w'=w:=by
 by_cases h1:8000<s.size
 ·have HE:Hid (rd s a=(0,0,2)):=by unfold Hid rd;rw[if_pos h1]
  go_enter func143,ntmps143
  go_wp2_with fail
  refine(place_big s a _ hs h1).mono ?_;rintro e w' ⟨rfl,hw⟩;subst w'
  go_wp2
  go_ret3
  exact⟨by rw[HE.o];rfl,rfl⟩
 ·by_cases h2:a<0
  ·have HE:Hid (rd s a=(0,0,1)):=by unfold Hid rd;rw[if_neg h1,if_pos h2]
   go_enter func143,ntmps143
   go_wp2_with fail
   refine(place_neg s a _ h1 h2).mono ?_;rintro e w' ⟨rfl,hw⟩;subst w'
   go_wp2
   go_ret3
   exact⟨by rw[HE.o];rfl,rfl⟩
  ·obtain⟨n,rfl⟩:=Int.eq_ofNat_of_zero_le (show 0<=a from by omega)
   have HE:Hid (rd s (n:Int)=(unz (numR s n).1,(numR s n).2.1,(numR s n).2.2)):=by unfold Hid rd;rw[if_neg h1,if_neg h2,Int.toNat_natCast]
   have hb:(numR s n).1<=18446744073709551615:=run_bound s 10 0 n 0 (by decide) (by decide);go_enter func143,ntmps143
   go_wp2_with fail
   refine(place_ok s n _ h1 (by omega)).mono ?_;rintro e w' ⟨rfl,hw⟩;subst w'
   go_wp2_with fail
   refine(bits_any s n _ (by omega)).mono ?_;generalize numR s n=r at HE hb ⊢;obtain⟨u,p,c⟩:=r;simp only[bitsV]at HE hb ⊢;generalize hev:errV c=ev;have HEV:=hide hev;clear hev;rintro e w' ⟨rfl,hw⟩;subst w'
   go_wp2_with fail
   refine(unfold_any u _ hb).mono ?_;rintro e w' ⟨rfl,hw⟩;subst w'
   go_wp2
   go_ret3
   exact⟨by rw[HE.o,<-HEV.o];rfl,rfl⟩
def handle:Value:=.iface 182 (.agg #[.pointer (some ⟨4,85,none⟩)])
theorem code_any (c:Int) (w:World) (hg:w.cell? ⟨3,0,none⟩=some handle) :
  Calls prog 106 #[.iface 171 (.agg #[.int .i64 c])] w fun e w'=>e=.returned (.int .i64 c)/\Below w.heap.size w w':=by
 have hlt:3 < w.heap.size:=by
  rcases Nat.lt_or_ge 3 w.heap.size with h|h
  ·exact h
  ·simp[World.cell?,Array.getElem?_eq_none h]at hg
 have hgA:(w.alloc (.cells #[.int .i64 0] 171)).cell? ⟨3,0,none⟩=some handle:=by
  rw[World.cell?_alloc_lt _ _ ⟨3,0,none⟩ hlt];exact hg
 have htA:(w.alloc (.cells #[.int .i64 0] 171)).cell? ⟨w.heap.size,0,none⟩=some (.int .i64 0):=by simp
 have hfA:(w.alloc (.cells #[.int .i64 0] 171)).frozen? ⟨w.heap.size,0,none⟩=false:=by simp
 go_enter func106,ntmps106
 go_wp2_with fail
 refine(as_hit c _ (.int .i64 0) _ hgA htA hfA).mono ?_;rintro e w' ⟨rfl,rfl⟩
 go_wp2
 go_ret;exact⟨rfl,(((((Below.refl _ _).alloc nl _).alloc (by simp) _).alloc (by simp;omega) _).alloc (by simp;omega) _).alloc (by simp;omega) _⟩
theorem rd_codes (s:ByteArray) (a:Int):(rd s a).2.2=0∨(rd s a).2.2≠0/\(rd s a).1=0/\(rd s a).2.1=0:=by
 unfold rd
 split
 ·exact .inr ⟨by decide,rfl,rfl⟩
 ·split
  ·exact .inr ⟨by decide,rfl,rfl⟩
  ·rcases run_codes s 10 0 a.toNat 0 with h|⟨h1,h2,h3⟩
   ·exact .inl h
   ·refine .inr ⟨?_,?_,h2⟩
    ·show (numR s a.toNat).2.2≠0
     unfold numR;omega
    ·show unz (numR s a.toNat).1=0
     unfold numR;rw[h1];rfl
theorem getV_rd (s:ByteArray) (a:Int):getV s a=if (rd s a).2.2=0 then outN (rd s a).1 (rd s a).2.1 0 else outN 0 0 (rd s a).2.2:=by
 unfold getV rd
 split
 ·rfl
 ·split
  ·rfl
  ·rfl
theorem bcell {W w1:World} (hb:Below W.heap.size W w1):(∀ b o,b<W.heap.size->w1.cell? ⟨b,o,none⟩=W.cell? ⟨b,o,none⟩)/\(∀ b o,b<W.heap.size->w1.frozen? ⟨b,o,none⟩=W.frozen? ⟨b,o,none⟩) :=
 ⟨fun b o h=>hb.cell (p:=⟨b,o,none⟩) h,fun b o h=>hb.frozen (p:=⟨b,o,none⟩) h⟩
theorem lt_of_handle {w:World} (hg:w.cell? ⟨3,0,none⟩=some handle):3 < w.heap.size:=by
 rcases Nat.lt_or_ge 3 w.heap.size with h|h
 ·exact h
 ·simp[World.cell?,Array.getElem?_eq_none h]at hg
theorem handle_below {w w1:World} (hb:Below w.heap.size w w1) (hg:w.cell? ⟨3,0,none⟩=some handle):w1.cell? ⟨3,0,none⟩=some handle :=
 (hb.cell (p:=⟨3,0,none⟩) (lt_of_handle hg)).trans hg
theorem handle_alloc {w:World} (o:Obj) (hg:w.cell? ⟨3,0,none⟩=some handle):(w.alloc o).cell? ⟨3,0,none⟩=some handle:=by
 rw[World.cell?_alloc_lt _ _ ⟨3,0,none⟩ (lt_of_handle hg)];exact hg
theorem get_impl (s:ByteArray) (a:Int) (w:World) (hs:s.size<=maxLen) (hg:w.cell? ⟨3,0,none⟩=some handle) :
  Calls prog 107 #[.string s,.int .i64 a] w fun e w'=>e=.returned (getV s a)/\Below w.heap.size w w':=by
 have HV:=hide (getV_rd s a);have HG:=hide hg;clear hg;by_cases h0:(rd s a).2.2=0
 ·go_enter func107,ntmps107
  go_wp2_with fail
  refine(read_any s a _ hs).mono ?_;generalize rd s a=r at HV h0 ⊢;obtain⟨n,p,c⟩:=r
  simp only at HV h0 ⊢
  subst h0;rintro e w' ⟨rfl,hw⟩;subst w';simp only[errV,if_pos]
  go_wp2
  refine bodyPost_ret (v:=outN n p 0) (by simp[results,outN,results107,go_sem]) rfl ⟨by rw[HV.o];rfl,(Below.refl _ _).alloc nl _⟩
 ·go_enter func107,ntmps107
  go_wp2_with fail
  refine(read_any s a _ hs).mono ?_;generalize rd s a=r at HV h0 ⊢;obtain⟨n,p,c⟩:=r
  simp only at HV h0 ⊢
  have H0:=hide h0;rintro e w' ⟨rfl,hw⟩;subst w';simp only[errV,if_neg h0];clear h0
  go_wp2_with fail
  refine(code_any c _ (handle_alloc _ HG.o)).mono ?_;rintro e w1 ⟨rfl,hb1⟩;obtain⟨hc1,hf1⟩:=bcell hb1
  go_wp2
  refine bodyPost_ret (v:=outN 0 0 c) (by simp[results,outN,results107,go_sem,hc1]) rfl ⟨by rw[HV.o,if_neg H0.o],?_⟩;exact((((Below.refl w.heap.size w).alloc nl _).trans (hb1.mono (by simp))).setCell nl _ |>.setCell nl _).setCell nl _
def rt (s:ByteArray) (a:Int):ByteArray × Nat × Int :=
 if (rd s a).2.2≠0 then (⟨#[]⟩,0,(rd s a).2.2)
 else if (rd s a).1<0∨8000<(rd s a).1 then (⟨#[]⟩,0,3)
 else if s.size<(rd s a).2.1+(rd s a).1.toNat then (⟨#[]⟩,0,4)
 else (s.extract (rd s a).2.1 ((rd s a).2.1+(rd s a).1.toNat),(rd s a).2.1+(rd s a).1.toNat,0)
def outT (t:ByteArray) (at_ code:Int):Value:=.agg #[.string t,.int .i64 at_,.int .i64 code]
def textV (s:ByteArray) (a:Int):Value:=outT (rt s a).1 (rt s a).2.1 (rt s a).2.2
theorem rd_place (s:ByteArray) (a:Int) (h:(rd s a).2.2=0):s.size<=8000/\(rd s a).2.1<=s.size:=by
 unfold rd at h ⊢
 split at h
 ·exact absurd h (by decide)
 ·split at h
  ·exact absurd h (by decide)
  ·rename_i h1 h2
   rw[if_neg h1,if_neg h2];exact⟨by omega,run_place s 10 0 a.toNat 0⟩
theorem rt_bad (s:ByteArray) (a n:Int) (p:Nat) (c:Int) (hr:rd s a=(n,p,c)) (h:¬c=0):rt s a=(⟨#[]⟩,0,c):=by
 unfold rt;rw[hr];exact if_pos h
theorem rt_size (s:ByteArray) (a n:Int) (p:Nat) (hr:rd s a=(n,p,0)) (h:n<0∨8000<n):rt s a=(⟨#[]⟩,0,3):=by
 unfold rt;rw[hr];exact(if_neg (by simp)).trans (if_pos h)
theorem rt_short (s:ByteArray) (a:Int) (m p:Nat) (hr:rd s a=((m:Int),p,0)) (h8:m<=8000) (h:s.size<p+m):rt s a=(⟨#[]⟩,0,4):=by
 unfold rt;rw[hr];exact(if_neg (by simp)).trans ((if_neg (by show ¬((m:Int)<0∨8000<(m:Int));omega)).trans (if_pos h))
theorem rt_ok (s:ByteArray) (a:Int) (m p:Nat) (hr:rd s a=((m:Int),p,0)) (h8:m<=8000) (h:¬s.size<p+m):rt s a=(s.extract p (p+m),p+m,0):=by
 unfold rt;rw[hr];exact(if_neg (by simp)).trans ((if_neg (by show ¬((m:Int)<0∨8000<(m:Int));omega)).trans (if_neg h))
theorem textV_of (s:ByteArray) (a:Int) (t:ByteArray) (p:Nat) (c:Int) (h:rt s a=(t,p,c)):textV s a=outT t p c:=by
 unfold textV;rw[h]
def tupV (r:ByteArray × Nat × Int):Value:=.tuple #[.string r.1,.int .i64 r.2.1,errV r.2.2]
theorem readText_any (s:ByteArray) (a:Int) (w:World) (hs:s.size<=maxLen) :
  Calls prog 105 #[.string s,.int .i64 a] w fun e w'=>e=.returned (tupV (rt s a))/\Below w.heap.size w w':=by
 obtain⟨⟨n,p,c⟩,hr⟩:∃ r,rd s a=r:=⟨_,rfl⟩;have HR:=hide hr;by_cases h0:c=0
 ·subst h0
  obtain⟨hs8,hp⟩:=rd_place s a (by rw[hr]);rw[hr]at hp
  simp only at hp
  by_cases hn:n<0∨8000<n
  ·have HT:=hide (rt_size s a n p hr hn)
   clear hr;by_cases hneg:n<0
   ·clear hn
    go_enter func105,ntmps105;(go_wp2_with fail);refine(read_any s a _ hs).mono ?_;rw[HR.o];simp only[errV,if_pos];rintro e w' ⟨rfl,hw⟩;subst w'
    go_wp2
    go_ret3
    exact⟨by rw[HT.o];rfl,Below.refl _ _⟩
   ·have hbig:(8000:Int)<n:=by omega
    clear hn;go_enter func105,ntmps105;(go_wp2_with fail);refine(read_any s a _ hs).mono ?_;rw[HR.o];simp only[errV,if_pos];rintro e w' ⟨rfl,hw⟩;subst w'
    go_wp2
    go_ret3
    exact⟨by rw[HT.o];rfl,Below.refl _ _⟩
  ·obtain⟨m,rfl⟩:=Int.eq_ofNat_of_zero_le (show 0<=n from by omega)
   have hm8:m<=8000:=by omega
   have hnb:¬((8000:Int)<m):=by omega
   by_cases hl:s.size<p+m
   ·have HT:=hide (rt_short s a m p hr hm8 hl)
    clear hn hr;go_enter func105,ntmps105;(go_wp2_with fail);refine(read_any s a _ hs).mono ?_;rw[HR.o];simp only[errV,if_pos];rintro e w' ⟨rfl,hw⟩;subst w'
    go_wp2
    go_ret3
    exact⟨by rw[HT.o];rfl,Below.refl _ _⟩
   ·have HT:=hide (rt_ok s a m p hr hm8 hl)
    clear hn hr;go_enter func105,ntmps105;(go_wp2_with fail);refine(read_any s a _ hs).mono ?_;rw[HR.o];simp only[errV,if_pos];rintro e w' ⟨rfl,hw⟩;subst w';(go_wp2_with fail);refine(Nu.cut_any s p (p+m) _ (by omega) (by omega) (by omega)).mono ?_;rintro e w1 ⟨rfl,hb1⟩
    go_wp2
    go_ret3
    exact⟨by rw[HT.o];rfl,hb1⟩
 ·have HT:=hide (rt_bad s a n p c hr h0)
  have H0:=hide h0;go_enter func105,ntmps105
  go_wp2_with fail
  refine(read_any s a _ hs).mono ?_;rw[HR.o];simp only[errV,if_neg h0];clear hr h0;rintro e w' ⟨rfl,hw⟩;subst w'
  go_wp2
  go_ret3
  exact⟨by rw[HT.o];simp only[tupV,errV,if_neg H0.o];rfl,Below.refl _ _⟩
theorem rt_codes (s:ByteArray) (a:Int) (h:¬(rt s a).2.2=0):(rt s a).1=⟨#[]⟩/\(rt s a).2.1=0:=by
 unfold rt at h ⊢
 split at h
 ·rename_i h1;rw[if_pos h1];exact⟨rfl,rfl⟩
 ·rename_i h1
  rw[if_neg h1]
  split at h
  ·rename_i h2;rw[if_pos h2];exact⟨rfl,rfl⟩
  ·rename_i h2
   rw[if_neg h2]
   split at h
   ·rename_i h3;rw[if_pos h3];exact⟨rfl,rfl⟩
   ·exact absurd rfl h
theorem text_impl (s:ByteArray) (a:Int) (w:World) (hs:s.size<=maxLen) (hg:w.cell? ⟨3,0,none⟩=some handle) :
  Calls prog 71 #[.string s,.int .i64 a] w fun e w'=>e=.returned (textV s a)/\Below w.heap.size w w':=by
 have HG:=hide hg;clear hg;obtain⟨⟨t,p,c⟩,hr⟩:∃ r,rt s a=r:=⟨_,rfl⟩;have HR:=hide hr;by_cases h0:c=0
 ·subst h0
  have HT:=hide (textV_of s a t p 0 hr);clear hr;go_enter func71,ntmps71
  go_wp2_with fail
  refine(readText_any s a _ hs).mono ?_;rw[HR.o];simp only[tupV,errV,if_pos];rintro e w1 ⟨rfl,hb1⟩;obtain⟨hc1,hf1⟩:=bcell hb1
  go_wp2
  refine bodyPost_ret (v:=outT t p 0) (by simp[results,outT,results71,go_sem,hc1]) rfl ⟨by rw[HT.o],?_⟩;exact((((Below.refl w.heap.size w).alloc nl _).trans (hb1.mono (by simp))).setCell nl _ |>.setCell nl _).setCell nl _
 ·have hz:=rt_codes s a (by rw[hr];exact h0)
  rw[hr]at hz
  simp only at hz
  obtain⟨rfl,rfl⟩:=hz;have HT:=hide (textV_of s a _ _ c hr);clear hr;go_enter func71,ntmps71
  go_wp2_with fail
  refine(readText_any s a _ hs).mono ?_;rw[HR.o];simp only[tupV,errV,if_neg h0];clear h0;rintro e w1 ⟨rfl,hb1⟩;obtain⟨hc1,hf1⟩:=bcell hb1
  have hz1:w.heap.size<w1.heap.size:=by have:=hb1.size;simp at this;omega
  have HB1:=hide (((Below.refl w.heap.size w).alloc nl _).trans (hb1.mono (by simp)))
  go_wp2_with fail
  refine(code_any c _ (handle_below HB1.o HG.o)).mono ?_;rintro e w2 ⟨rfl,hb2⟩;obtain⟨hc2,hf2⟩:=bcell hb2
  go_wp2
  refine bodyPost_ret (v:=outT ⟨#[]⟩ 0 c) (by simp[results,outT,results71,go_sem,hc1,hc2,hz1]) rfl ⟨by rw[HT.o];rfl,?_⟩;exact((((HB1.o).trans (hb2.mono HB1.o.size)).setCell nl _).setCell nl _).setCell nl _
end Gn
namespace Fr
open Sh (upd)
open Ze (numsR hideZ)
def front (f:Nat->Int) (k:Nat):Nat->Int:=fun j=>if j=0 then f k else if j<=k then f (j-1) else f j
def row0:Nat->Int:=fun j=>(j:Int)
def look (f:Nat->Int) (c:Int):Nat:=(List.range 256).findIdx fun k=>f k==c
def Full (f:Nat->Int):Prop:=(∀ c:Nat,c<256->∃ k,k<256/\f k=c)/\∀ k,k<256->0<=f k/\f k<256
theorem full0:Full row0:=⟨fun c h=>⟨c,h,rfl⟩,fun k h=>by unfold row0;omega⟩
theorem front_zero (f:Nat->Int) (k:Nat):front f k 0=f k:=if_pos rfl
theorem front_low (f:Nat->Int) (k j:Nat) (h0:j≠0) (h:j<=k):front f k j=f (j-1):=by
 unfold front;rw[if_neg h0,if_pos h]
theorem front_high (f:Nat->Int) (k j:Nat) (h:k<j):front f k j=f j:=by
 unfold front;rw[if_neg (by omega),if_neg (by omega)]
theorem Full.front {f:Nat->Int} (h:Full f) (k:Nat) (hk:k<256):Full (front f k):=by
 refine⟨fun c hc=>?_,fun j hj=>?_⟩
 ·obtain⟨i,hi,e⟩:=h.1 c hc
  rcases Nat.lt_trichotomy i k with hl|hl|hl
  ·exact⟨i+1,by omega,by rw[front_low f k (i+1) (by omega) (by omega)];exact e⟩
  ·exact⟨0,by omega,by rw[front_zero,<-hl];exact e⟩
  ·exact⟨i,hi,by rw[front_high f k i hl];exact e⟩
 ·by_cases h0:j=0
  ·subst h0;rw[front_zero];exact h.2 k hk
  ·by_cases h1:j<=k
   ·rw[front_low f k j h0 h1];exact h.2 (j-1) (by omega)
   ·rw[front_high f k j (by omega)];exact h.2 j hj
theorem find_get (N:Nat) (p:Nat->Bool) (h:(List.range N).findIdx p<(List.range N).length):p ((List.range N).findIdx p)=true:=by
 have h1:=List.findIdx_getElem (xs:=List.range N) (p:=p) (w:=h);have h2:(List.range N)[(List.range N).findIdx p]=(List.range N).findIdx p:=List.getElem_range h;rw[h2]at h1;exact h1
theorem look_some {f:Nat->Int} (hf:Full f) {c:Nat} (hc:c<256):look f c<256/\f (look f c)=c/\∀ i,i<look f c->f i≠c:=by
 obtain⟨k,hk,e⟩:=hf.1 c hc
 have hlt:look f c<(List.range 256).length:=by
  unfold look;rw[List.findIdx_lt_length];exact⟨k,by simpa using hk,by simpa using e⟩
 have h1:look f c<256:=by simpa using hlt
 refine⟨h1,?_,fun i hi=>?_⟩
 ·exact beq_iff_eq.1 (find_get 256 (fun k=>f k==(c:Int)) hlt)
 ·have h2:i<(List.range 256).findIdx fun k=>f k==(c:Int):=hi
  have:=List.not_of_lt_findIdx h2
  simpa using this
def fstep (s:List Int × (Nat->Int)) (c:UInt8):List Int × (Nat->Int):=(s.1++[(look s.2 c.toNat:Int)],front s.2 (look s.2 c.toNat))
def fst' (l:List UInt8):List Int × (Nat->Int):=l.foldl fstep ([],row0)
theorem takeB {α:Type} {l:List α} {k:Nat} (h:k<l.length):l.take (k+1)=l.take k++[l[k]]:=List.take_succ_eq_append_getElem h
theorem fst_more {l:List UInt8} {k:Nat} (h:k<l.length):fst' (l.take (k+1))=((fst' (l.take k)).1++[(look (fst' (l.take k)).2 l[k].toNat:Int)],front (fst' (l.take k)).2 (look (fst' (l.take k)).2 l[k].toNat)):=by
 unfold fst';rw[takeB h,List.foldl_append];rfl
theorem fst_full (l:List UInt8):∀ k,k<=l.length->Full (fst' (l.take k)).2/\(fst' (l.take k)).1.length=k:=by
 intro k
 induction k with
 |zero=>intro _;exact⟨full0,rfl⟩
 |succ k ih =>
  intro hk;obtain⟨h1,h2⟩:=ih (by omega);rw[fst_more hk];refine⟨h1.front _ (look_some h1 (c:=l[k].toNat) (UInt8.toNat_lt _)).1,?_⟩;simp[h2]
def frontR (l:List UInt8):List Int:=if l.length<=400 then (fst' l).1 else []
theorem frontR_yes {l:List UInt8} (h:l.length<=400):frontR l=(fst' l).1:=if_pos h
theorem frontR_no {l:List UInt8} (h:400<l.length):frontR l=[]:=if_neg (by omega)
theorem frontR_len (l:List UInt8):(frontR l).length<=400:=by
 by_cases h:l.length<=400
 ·rw[frontR_yes h]
  have:=(fst_full l l.length nl).2
  rw[List.take_length]at this;omega
 ·rw[frontR_no (by omega)]
  exact Nat.zero_le _
def kstep (s:List UInt8 × (Nat->Int)) (n:Int):List UInt8 × (Nat->Int):=(s.1++[UInt8.ofNat (s.2 n.toNat).toNat],front s.2 n.toNat)
def kst (l:List Int):List UInt8 × (Nat->Int):=l.foldl kstep ([],row0)
theorem kst_more {l:List Int} {k:Nat} (h:k<l.length):kst (l.take (k+1))=((kst (l.take k)).1++[UInt8.ofNat ((kst (l.take k)).2 l[k].toNat).toNat],front (kst (l.take k)).2 l[k].toNat):=by
 unfold kst;rw[takeB h,List.foldl_append];rfl
theorem kst_full (l:List Int) (hl:∀ x∈l,0<=x/\x<=255):∀ k,k<=l.length->Full (kst (l.take k)).2/\(kst (l.take k)).1.length=k:=by
 intro k
 induction k with
 |zero=>intro _;exact⟨full0,rfl⟩
 |succ k ih =>
  intro hk;obtain⟨h1,h2⟩:=ih (by omega)
  have:=hl _ (List.getElem_mem (l:=l) (n:=k) hk)
  rw[kst_more hk];refine⟨h1.front _ (by omega),?_⟩;simp[h2]
def fbackR (l:List Int):List UInt8:=if numsR l 255=true then (kst l).1 else []
theorem fbackR_yes {l:List Int} (h:numsR l 255=true):fbackR l=(kst l).1:=if_pos h
theorem fbackR_no {l:List Int} (h:numsR l 255=false):fbackR l=[]:=if_neg (by rw[h];decide)
theorem kst_fst (l:List UInt8):∀ k,k<=l.length->kst (fst' (l.take k)).1=(l.take k,(fst' (l.take k)).2):=by
 intro k
 induction k with
 |zero=>intro _;rfl
 |succ k ih =>
  intro hk;have hf:=(fst_full l k (by omega)).1;obtain⟨h1,h2,_⟩:=look_some hf (c:=l[k].toNat) (UInt8.toNat_lt _);rw[fst_more hk]
  simp only
  rw[kst,List.foldl_append];have e:=ih (by omega);unfold kst at e;rw[e];simp only[List.foldl_cons,List.foldl_nil,kstep];rw[takeB hk]
  congr 1
  ·congr 1
   rw[Int.toNat_natCast,h2];simp
theorem front_back (l:List UInt8) (h:l.length<=400):fbackR (frontR l)=l:=by
 have h0:=fst_full l l.length nl;have hk:=kst_fst l l.length nl;rw[List.take_length]at h0 hk;rw[frontR_yes h,fbackR_yes,hk]
 have hall:∀ k,k<=l.length->∀ x∈(fst' (l.take k)).1,0<=x/\x<=255:=by
  intro k
  induction k with
  |zero=>intro _ x hx;cases hx
  |succ k ih =>
   intro hk x hx;have hf:=(fst_full l k (by omega)).1;obtain⟨h1,_,_⟩:=look_some hf (c:=l[k].toNat) (UInt8.toNat_lt _);rw[fst_more hk]at hx
   rcases List.mem_append.1 hx with hx|hx
   ·exact ih (by omega) x hx
   ·rw[List.mem_singleton.1 hx]
    omega
 have:=hall l.length nl
 rw[List.take_length]at this;unfold numsR;rw[decide_eq_true (by omega),Ze.upTo_of this];rfl
end Fr
namespace Nm2
open Nu Go.Proofs.YtbdcffjcogglbaaGreatDoor.Gn
theorem getD_mid (pre l post:List UInt8) (j:Nat) (h:j<l.length):(pre++(l++post)).getD (pre.length+j) 0=l.getD j 0:=by
 rw[List.getD_eq_getElem?_getD,List.getD_eq_getElem?_getD,List.getElem?_append_right (by omega),List.getElem?_append_left (by omega)]
 congr 2
 omega
theorem numH_get (U K j:Nat) (hj:j<K):(numH U K).getD j 0=UInt8.ofNat (U/128 ^ j%128+128):=by
 rw[List.getD_eq_getElem?_getD];simp[numH,hj]
theorem numL_get (U K j:Nat) (hj:j<K):(numL U K).getD j 0=UInt8.ofNat (U/128 ^ j%128+128):=by
 rw[<-numH_get U K j hj,List.getD_eq_getElem?_getD,List.getD_eq_getElem?_getD];unfold numL;rw[List.getElem?_append_left (by rw[numH_length];exact hj)]
theorem numL_last (U K:Nat):(numL U K).getD K 0=UInt8.ofNat (U/128 ^ K):=by
 rw[List.getD_eq_getElem?_getD];unfold numL;rw[List.getElem?_append_right (by rw[numH_length];omega),numH_length];simp
theorem size_of (s:ByteArray):s.size=s.data.toList.length:=by rw[Array.length_toList];rfl
theorem mid (s:ByteArray) (U:Nat) (pre post:List UInt8) (hU:U<18446744073709551616) (h:s.data.toList=pre++(numB U++post)) :
  numR s pre.length=(U,pre.length+(numB U).length,0):=by
 obtain⟨hK,hall,hlast⟩:=cnt_spec U hU;have hn:numB U=numL U (cnt 9 U):=rfl
 have hlen:(numB U).length=cnt 9 U+1:=by rw[hn,numL_length]
 have hsz:s.size=pre.length+(cnt 9 U+1)+post.length:=by rw[size_of,h];simp[hlen];omega
 have hd:=dec s U pre.length (cnt 9 U) hU hK hall hlast (by omega)
  (fun j hj=>by
   unfold byteN
   rw[h,getD_mid pre _ post j (by omega),hn,numL_get _ _ _ hj,UInt8.toNat_ofNat',Nat.mod_eq_of_lt (by omega)])
  (by
   unfold byteN
   rw[h,getD_mid pre _ post _ (by omega),hn,numL_last,UInt8.toNat_ofNat',Nat.mod_eq_of_lt (by omega)])
  (cnt 9 U) 0 (by omega) (by omega)
 rw[Nat.pow_zero,Nat.mod_one]at hd;rw[hlen];exact hd
theorem putS_list (n:Int):(putS n).data.toList=numB (zz n):=rfl
theorem putS_len (n:Int):(putS n).size=(numB (zz n)).length:=by rw[size_of,putS_list]
theorem rd_of (s:ByteArray) (a u p:Nat) (c:Int) (hs:s.size<=8000) (h:numR s a=(u,p,c)):rd s (a:Int)=(unz u,p,c):=by
 unfold rd;rw[if_neg (by omega),if_neg (by omega),Int.toNat_natCast,h]
theorem num_back (s:ByteArray) (n:Int) (pre post:List UInt8) (h1:-9223372036854775808<=n) (h2:n<=9223372036854775807) (hs:s.size<=8000)
  (h:s.data.toList=pre++(numB (zz n)++post)):rd s (pre.length:Int)=(n,pre.length+(putS n).size,0):=by
 rw[rd_of s pre.length _ _ _ hs (mid s (zz n) pre post (zz_lt n h1 h2) h),unz_zz,putS_len]
theorem extract_list (s:ByteArray) (a b:Nat):(s.extract a b).data.toList=(s.data.toList.drop a).take (b-a):=by
 rw[ByteArray.data_extract,Array.toList_extract,List.extract_eq_take_drop]
theorem putT_some (u:ByteArray) (h:u.size<=8000):putT u=putS (u.size:Int)++u:=by unfold putT;rw[if_pos h]
theorem putT_list (u:ByteArray) (h:u.size<=8000):(putT u).data.toList=numB (zz (u.size:Int))++u.data.toList:=by
 rw[putT_some u h,ByteArray.data_append,Array.toList_append,putS_list]
theorem putT_size (u:ByteArray) (h:u.size<=8000):(putT u).size=(putS (u.size:Int)).size+u.size:=by
 rw[putT_some u h,ByteArray.size_append]
theorem ba_ext {a b:ByteArray} (h:a.data.toList=b.data.toList):a=b:=by
 cases a;cases b
 simp only[ByteArray.mk.injEq];exact Array.toList_inj.1 h
end Nm2
namespace Fr
open Sh (IsB rowF upd rowF_size rowF_get rowF_one rowF_congr results_row below_row row_size upd_same upd_other)
open Ze (hideZ)
open St (Aft)
theorem Tryz.zeroA156:(prog.info? 156).bind (·.zero)=some (.agg (rowF .u8 256 fun _=>0)):=by kernel_rfl
theorem Tryz.sizeA156:(prog.info? 156).map (·.size)=some 256:=by kernel_rfl
theorem Tryz.sizeB5:(prog.info? 5).map (·.size)=some 1:=by kernel_rfl
theorem wpList_alloc_row {P:Program} {w:World} {ops:Array Oper} {rest:List Oper} {a:Act} {Q:Exit->Act->World->Prop} {d:Tmp} {ty tt:TypeId} {pos:String} {af:Array Edge}
  {k:IntKind} {n:Nat} (hz:(P.info? ty).bind (·.zero)=some (.agg (rowF k n fun _=>0)))
  (h:∀ w',IsB w' w.heap.size ty k n (fun _=>0)->(∀ B,B<=w.heap.size->Below B w w')->w'.heap.size=w.heap.size+1->(∀ j,j<w.heap.size->w'.heap[j]? = w.heap[j]?)->wpList P ops Q rest (a.put (some d) (.pointer (some ⟨w.heap.size,0,none⟩))) w') :
  wpList P ops Q (⟨some d,.alloc ty,tt,pos,af,none⟩ :: rest) a w:=by
 refine wpList_plain rfl fun K hK=>?_
 obtain⟨i,hi,hzi⟩:∃ i,P.info? ty=some i/\i.zero=some (.agg (rowF k n fun _=>0)):=by
  cases hi:P.info? ty with
  |none=>rw[hi]at hz;cases hz
  |some i=>exact⟨i,rfl,by rw[hi]at hz;exact hz⟩
 have hl:(Instr.alloc ty true (.tuple #[])).run P w=.ok (.pointer (some ⟨w.heap.size,0,none⟩)) (w.alloc (.cells (rowF k n fun _=>0) ty)):=by
  simp[Instr.alloc,zeroValue,typeInfo,hi,hzi,newVar,newRow,Value.cells]
 unfold Oper.wp;simp[execOp,hl,Result.andThen];exact hK _ _ (h _ (IsB.new w ty k n _) (fun B hB=>(Below.refl B w).alloc hB _) (by simp) (fun j hj=>Below.heap_alloc w _ j hj))
def copyF (f:Nat->Int) (p:Nat):Nat->Int:=fun j=>if j=0 then f 0 else if j<=p then f (j-1) else f j
theorem copy_front (f:Nat->Int) (p j:Nat):upd (copyF f p) 0 (f p) j=front f p j:=by
 unfold upd copyF front;by_cases h:j=0
 ·rw[if_pos h,if_pos h]
 ·rw[if_neg h,if_neg h,if_neg h]
theorem copy_row (f:Nat->Int) (p:Nat) (hp:p<256) :
  ((rowF .u8 256 f).toList.take 1++(List.range p).map (fun j=>Value.int .u8 (f j))++(rowF .u8 256 f).toList.drop (1+((List.range p).map (fun j=>Value.int .u8 (f j))).length)).toArray=rowF .u8 256 (copyF f p):=by
 rw[List.append_assoc]
 apply Array.ext'
 apply List.ext_getElem?
 intro j;simp only[rowF,List.length_map,List.length_range];by_cases h0:j=0
 ·subst h0
  rw[List.getElem?_append_left (by simp)];simp[copyF]
 ·rw[List.getElem?_append_right (by simp;omega)]
  simp only[List.length_take,List.length_map,List.length_range];rw[show j-min 1 256=j-1 by omega];by_cases h1:j<=p
  ·rw[List.getElem?_append_left (by simp;omega)]
   have:j<256:=by omega
   have h2:j-1<p:=by omega
   simp[copyF,h0,h1,h2,this]
  ·rw[List.getElem?_append_right (by simp;omega),List.getElem?_drop]
   simp only[List.length_map,List.length_range];rw[show 1+p+(j-1-p)=j by omega];by_cases h2:j<256
   ·simp[copyF,h0,h1,h2]
   ·simp[h2]
theorem run_copy_up {P:Program} (w:World) (dT sT ty elem:TypeId) (hu:P.underlying dT=some (.slice elem)) (hsz:(P.info? elem).map (·.size)=some 1)
  (g p dCap sCap:Nat) (t:TypeId) (f:Nat->Int) (hp:p<256) (hb:IsB w g t .u8 256 f) :
  ∃ w',(Builtin.copy_ #[dT,sT] ty #[.slice (some ⟨g,1,none⟩) 255 dCap,.slice (some ⟨g,0,none⟩) p sCap]).run P w=.ok (goInt p) w'/\IsB w' g t .u8 256 (copyF f p)/\Aft g w w':=by
 have hrun:=run_copy_row (P:=P) w dT sT ty elem g 1 255 dCap ⟨g,0,none⟩ p sCap (rowF .u8 256 f) t ((List.range p).map (fun j=>Value.int .u8 (f j))) hu hsz hb (by simp[Nat.min_def];omega)
  (fun j v hv=>by
   have hadd:(⟨g,0,none⟩:Addr).add j=⟨g,j,none⟩:=by unfold Addr.add;split<;>simp_all
   rw[hadd];rw[List.getElem?_map]at hv;by_cases hj:j<p
   ·rw[List.getElem?_range hj]at hv
    rw[hb.cell (by omega)];exact hv
   ·rw[List.getElem?_eq_none (by simpa using hj)]at hv
    cases hv)
  (by rw[rowF_size];simp;omega) (fun v hv=>by
   obtain⟨j,_,rfl⟩:=List.mem_map.1 hv
   rfl)
 rw[copy_row f p hp,List.length_map,List.length_range]at hrun;exact⟨_,hrun,hb.row _,rfl,rfl,rfl,by simp[World.setRow],fun k hk hg=>setRow_other w g k _ hg⟩
theorem bring_impl (g p:Nat) (t:TypeId) (f:Nat->Int) (w:World) (hb:IsB w g t .u8 256 f) (hp:p<256) :
  Calls prog 127 #[.pointer (some ⟨g,0,none⟩),.int .i64 p] w fun e w'=>e=.returned (.tuple #[])/\IsB w' g t .u8 256 (front f p)/\Aft g w w':=by
 have c0:=hb.cell hp;have HB:=hideZ hb;have HA:=hideZ (Aft.refl g w);obtain⟨x,hx⟩:∃ x,x=f p:=⟨_,rfl⟩;have HX:=hideZ hx;rw[<-hx]at c0;clear hx hb;go_enter func127,ntmps127
 go_wp2_with fail
 have hp1:(p:Int)<=256:=by omega
 have hp2:¬(p:Int)<0:=by omega
 have hp3:¬(256:Int)<(p:Int):=by omega
 obtain⟨W4,hcp,hb4,ha4⟩:=run_copy_up (P:=prog) w.drew 22 22 3 5 underlying22 Tryz.sizeB5 g p 255 256 t f hp (HB.o.of_heap rfl);have HB4:=hideZ hb4;have HA4:Hid (Aft g w W4):=⟨ha4.1,ha4.2.1,ha4.2.2.1,ha4.2.2.2.1,ha4.2.2.2.2⟩;clear hb4 ha4;have c1:=HB4.o.cell (j:=0) (by omega);have f1:=HB4.o.frozen 0;have HF:=hideZ (HB4.o.set 0 x)
 go_region
 go_wp2_with fail
 refine bodyPost_end (v:=.tuple #[]) (by simp[results,results127,go_sem]) rfl ⟨rfl,HF.o.congr (fun j _=>?_),HA4.o.set 0 _⟩;rw[HX.o];exact copy_front f p j
def rise (k:Nat):Nat->Int:=fun j=>if j<k then (j:Int) else 0
theorem rise_next (k j:Nat):upd (rise k) k (k:Int) j=rise (k+1) j:=by
 unfold upd rise;by_cases e:j=k
 ·subst e;rw[if_pos rfl,if_pos (by omega)]
 ·rw[if_neg e]
  by_cases h:j<k
  ·rw[if_pos h,if_pos (by omega)]
  ·rw[if_neg h,if_neg (by omega)]
theorem rise_all (j:Nat) (h:j<256):rise 256 j=row0 j:=if_pos h
theorem rising_impl (w:World) :
  Calls prog 126 #[] w fun e w'=>e=.returned (.agg (rowF .u8 256 row0))/\Below w.heap.size w w':=by
 go_enter func126,ntmps126
 go_wp2_with ((with_reducible refine wpList_alloc_row Tryz.zeroA156 ?_);intro w1 hb1 hbel1 hs1 ho1)
 rename_i w0 hb0 hbel0 hs0 ho0 K0 a0
 have HB1:=hideZ hb1;have HB0:=hideZ (hb0.of_heap (ho1 w.heap.size (by omega)));have HBel:=hideZ ((hbel0 w.heap.size nl).trans (hbel1 w.heap.size (by omega)));rw[hs0]at HB1 hs1;clear hb1 hbel1 ho1 hb0 hbel0 ho0
 go_loopw [3] (fun i wr=>∃ k:Nat,i=.int .i64 k/\k<=256/\IsB wr (w.heap.size+1) 156 .u8 256 (rise k)/\IsB wr w.heap.size 156 .u8 256 (fun _=>0)/\Below w.heap.size w wr) (fun i _=>256-(intOf i).toNat)
 case atStart=>exact⟨0,rfl,by omega,HB1.o.congr (fun j _=>by unfold rise;rw[if_neg (by omega)]),HB0.o,HBel.o⟩
 case round =>
  obtain⟨k,rfl,hk,h1,h0,hbel⟩:=hrel;have G1:=hideZ h1;have G0:=hideZ h0;have GB:=hideZ hbel;by_cases hlt:k<256
  ·have ck:=h1.cell (j:=k) hlt
   have fk:=h1.frozen k
   have hwr:((k:Int))%256=(k:Int):=by omega
   have HN:=hideZ (h1.set k (k:Int));clear h1 h0 hbel
   go_wp2_with fail
   go_roundw
   case rel=>exact⟨k+1,by go_num,by omega,HN.o.congr (fun j _=>rise_next k j),G0.o.set_other _ _ (by simp),GB.o.setCell (by simp) _⟩
   case measure=>simp[intOf];omega
  ·obtain rfl:k=256:=by omega
   have G2:=hideZ (h1.congr (fun j hj=>rise_all j hj));clear h1 h0 hbel
   go_wp2_with (first|((with_reducible refine Sh.wpList_load_row G2.o underlying156 Tryz.sizeA156 ?_ ?_);(· rfl))|((with_reducible refine Sh.wpList_store_row G0.o Tryz.sizeA156 row0 ?_ ?_ ?_);(· rfl);(· rfl)))
   exact bodyPost_ret (v:=.agg (rowF .u8 256 row0)) (results_row rfl _ rfl (G0.o.row _) underlying156 Tryz.sizeA156) rfl ⟨rfl,below_row GB.o nl _⟩
end Fr
namespace Fr
open Sh (IsB rowF upd made_row upd_same upd_other)
open Ze (hideZ)
open St (Aft)
theorem row_spec (w:World) :
  Calls prog 137 #[] w fun e w'=>e=.returned (.slice (some ⟨w.heap.size,0,none⟩) 256 256)/\IsB w' w.heap.size 5 .u8 256 row0/\Below w.heap.size w w':=by
 obtain⟨i0,hi,hz0,hz1,hz2⟩:=info_parts Nu.Tryz.infoJ5;go_enter func137,ntmps137
 go_wp2_with (at_make;refine wpList_make_full _ rfl (.const (.int .i64 256)) (.const (.int .i64 256)) 22 rfl w.heap.size 5 i0 (.int .u8 0) 1 underlying22 hi hz0 hz1 .i64 .i64 _ _ 256 rfl rfl (by simp) (by simp) (by rw[hz2];omega) (by unfold maxLen;omega) nl ?_;intro w1 hown1 hgrow1;have HR:=hideZ (made_row hown1);have HB:=hideZ ((Below.refl w.heap.size w).grown hgrow1 nl (by simp));clear hown1 hgrow1)
 go_loopw [2] (fun i wr=>∃ k:Nat,i=.int .i64 k/\k<=256/\IsB wr w.heap.size 5 .u8 256 (rise k)/\Below w.heap.size w wr) (fun i _=>256-(intOf i).toNat)
 case atStart=>exact⟨0,rfl,by omega,HR.o.congr (fun j _=>by unfold rise;rw[if_neg (by omega)]),HB.o⟩
 case round =>
  obtain⟨k,rfl,hk,h1,hbel⟩:=hrel;have G1:=hideZ h1;have GB:=hideZ hbel;by_cases hlt:k<256
  ·have ck:=h1.cell (j:=k) hlt
   have fk:=h1.frozen k
   have hwr:((k:Int))%256=(k:Int):=by omega
   have HN:=hideZ (h1.set k (k:Int));clear h1 hbel
   go_wp2_with fail
   go_roundw
   case rel=>exact⟨k+1,by go_num,by omega,HN.o.congr (fun j _=>rise_next k j),GB.o.setCell (by simp) _⟩
   case measure=>simp[intOf];omega
  ·obtain rfl:k=256:=by omega
   have G2:=hideZ (h1.congr (fun j hj=>rise_all j hj));clear h1 hbel
   go_wp2_with fail
   go_ret;exact⟨rfl,G2.o,GB.o⟩
def downF (f:Nat->Int) (p k:Nat):Nat->Int:=fun j=>if k<j/\j<=p then f (j-1) else f j
theorem down_start (f:Nat->Int) (p j:Nat):downF f p p j=f j:=by
 unfold downF;rw[if_neg (by omega)]
theorem down_next (f:Nat->Int) (p k j:Nat) (h:k+1<=p):upd (downF f p (k+1)) (k+1) (f k) j=downF f p k j:=by
 unfold upd downF;by_cases e:j=k+1
 ·subst e
  rw[if_pos rfl,if_pos (by omega)];rfl
 ·rw[if_neg e]
  by_cases h2:k+1<j/\j<=p
  ·rw[if_pos h2,if_pos (by omega)]
  ·rw[if_neg h2,if_neg (by omega)]
theorem down_at (f:Nat->Int) (p k:Nat):downF f p (k+1) k=f k:=by
 unfold downF;rw[if_neg (by omega)]
theorem down_front (f:Nat->Int) (p j:Nat):upd (downF f p 0) 0 (f p) j=front f p j:=by
 unfold upd downF front;by_cases h:j=0
 ·rw[if_pos h,if_pos h]
 ·rw[if_neg h,if_neg h]
  by_cases h2:j<=p
  ·rw[if_pos (by omega),if_pos h2]
  ·rw[if_neg (by omega),if_neg h2]
theorem front_spec (g p c:Nat) (t:TypeId) (f:Nat->Int) (w:World) (hb:IsB w g t .u8 256 f) (hp:p<256) :
  Calls prog 138 #[.slice (some ⟨g,0,none⟩) 256 c,.int .i64 p] w fun e w'=>e=.returned (.tuple #[])/\IsB w' g t .u8 256 (front f p)/\Aft g w w':=by
 have c0:=hb.cell hp;have HB:=hideZ hb;have HA:=hideZ (Aft.refl g w);obtain⟨x,hx⟩:∃ x,x=f p:=⟨_,rfl⟩;have HX:=hideZ hx;rw[<-hx]at c0;clear hx hb;go_enter func138,ntmps138
 go_wp2_with fail
 go_loopw [1] (fun i wr=>∃ k:Nat,i=.int .i64 k/\k<=p/\IsB wr g t .u8 256 (downF f p k)/\Aft g w wr) (fun i _=>(intOf i).toNat)
 case atStart=>exact⟨p,rfl,nl,HB.o.congr (fun j _=>(down_start f p j).symm),HA.o⟩
 case round =>
  obtain⟨k,rfl,hk,h1,ha⟩:=hrel;have G1:=hideZ h1;have GA:=hideZ ha
  cases k with
  |zero =>
   have c1:=h1.cell (j:=0) (by omega);have f1:=h1.frozen 0;have HF:=hideZ (h1.set 0 x);clear h1 ha
   go_wp2_with fail
   refine bodyPost_end (v:=.tuple #[]) (by simp[results,results138,go_sem]) rfl ⟨rfl,HF.o.congr (fun j _=>?_),GA.o.set 0 _⟩;rw[HX.o];exact down_front f p j
  |succ k =>
   have c1:=h1.cell (j:=k) (by omega);have c2:=h1.cell (j:=k+1) (by omega);have f1:=h1.frozen (k+1);obtain⟨y,hy⟩:∃ y,y=f k:=⟨_,rfl⟩;rw[down_at,<-hy]at c1
   have HF:Hid (IsB (wr.setCell ⟨g,k+1,none⟩ (.int .u8 y)) g t .u8 256 (downF f p k)):=by
    have:=(h1.set (k+1) y).congr (f':=downF f p k) (fun j _=>by rw[hy];exact down_next f p k j hk)
    exact this
   have e1:((k+1:Nat):Int)=(k:Int)+1:=by omega
   have e2:((k:Int)+1).toNat=k+1:=by omega
   rw[e1];clear h1 ha hy e1
   go_wp2_with fail
   go_roundw
   case rel=>exact⟨k,by go_num,by omega,HF.o,GA.o.set (k+1) _⟩
   case measure=>simp[intOf]
end Fr
namespace Fr
open Sh (IsB rowF upd made_row upd_same upd_other strF)
open Ze (hideZ numsR upTo upTo_yes numsR_of numsR_long numsR_yes nums_spec)
open Bi (upTo_impl)
open St (Aft)
open In (Ints)
open Nu (ret_strJ bv own_string app_below)
def fillB (b:List UInt8):Nat->Nat:=fun j=>(b.getD j 0).toNat
theorem fillB_lt (b:List UInt8) (j:Nat):fillB b j<256:=UInt8.toNat_lt _
theorem fillB_next (b:List UInt8) (k:Nat) (x:Int) (hk:b.length=k) (h0:0<=x) (h1:x<256) (j:Nat) :
  upd (fun j=>((fillB b j:Nat):Int)) k x j=((fillB (b++[UInt8.ofNat x.toNat]) j:Nat):Int):=by
 unfold upd fillB;subst hk;by_cases e:j=b.length
 ·subst e
  rw[if_pos rfl,List.getD_eq_getElem?_getD,List.getElem?_append_right nl];simp;omega
 ·rw[if_neg e]
  simp only[List.getD_eq_getElem?_getD];by_cases h:j<b.length
  ·rw[List.getElem?_append_left h]
  ·rw[List.getElem?_eq_none (by omega),List.getElem?_eq_none (by simp;omega)]
theorem fillB_all (b:List UInt8):strF b.length (fillB b)=⟨b.toArray⟩:=by
 unfold strF
 congr 1
 congr 1
 apply List.ext_getElem
 ·simp
 ·intro i h1 h2
  have h3:i<b.length:=by simpa using h1
  simp[fillB,List.getD_eq_getElem?_getD,List.getElem?_eq_getElem h3]
theorem frontBack_impl (l:List Int) (a:Option Addr) (cap B:Nat) (w:World) (hi:Ints w B a l) (hB:B<=w.heap.size) (hn:l.length<=1048576) :
  Calls prog 183 #[.slice a l.length cap] w fun e w'=>e=.returned (.string ⟨(fbackR l).toArray⟩)/\Below w.heap.size w w':=by
 obtain⟨i0,hi0,hz0,hz1,hz2⟩:=info_parts Nu.Tryz.infoJ5;by_cases hlong:400<l.length
 ·rw[fbackR_no (numsR_long hlong)]
  clear hi;generalize l.length=n at hlong hn ⊢;go_enter func183,ntmps183
  go_wp2_with fail
  go_ret;exact⟨rfl,Below.refl _ _⟩
 ·have HU:=hideZ (upTo_impl l 255 a cap B w hi hn)
  cases hu:upTo l 255 with
  |false =>
   rw[fbackR_no ((numsR_of (by omega)).trans hu)];rw[hu]at HU;clear hi hu;generalize l.length=n at HU hlong hn ⊢;have hd:decide (400<(n:Int))=false:=decide_eq_false (by omega);go_enter func183,ntmps183
   go_wp2_with fail
   refine HU.o.mono ?_;rintro e w' ⟨rfl,hw⟩;subst w'
   go_wp2_with fail
   go_ret;exact⟨rfl,Below.refl _ _⟩
  |true =>
   rw[fbackR_yes ((numsR_of (by omega)).trans hu)];have HUP:=hideZ (upTo_yes hu);rw[hu]at HU;have HS:=hideZ (hi.mono hB);clear hi hu;obtain⟨n,hln⟩:∃ n,n=l.length:=⟨_,rfl⟩;have HLN:=hideZ hln;rw[<-hln]at HU hlong ⊢;clear hln hn;have hd:decide (400<(n:Int))=false:=decide_eq_false (by omega);go_enter func183,ntmps183
   go_wp2_with fail
   refine HU.o.mono ?_;rintro e w' ⟨rfl,hw⟩;subst w'
   go_wp2_with fail
   refine(rising_impl w).mono ?_;rintro e w1 ⟨rfl,hb1⟩;have HB1:=hideZ hb1;have z1:=hb1.size;clear hb1
   go_wp2_with (first|((with_reducible refine wpList_alloc_row Tryz.zeroA156 ?_);intro w2 hb2 hbel2 hs2 ho2;have G2:=hideZ hb2;have HB2:=hideZ (HB1.o.trans (hbel2 _ z1));clear hb2 hbel2 ho2)|((with_reducible refine Sh.wpList_store_row' G2.o Tryz.sizeA156 row0 ?_ ?_ ?_);(· rfl);(· rfl);intro w3 hb3 hbel3 hs3 ho3;have G3:=hideZ hb3;have HB3:=hideZ (HB2.o.trans (hbel3 _ z1));clear hb3 hbel3 ho3)|(at_make;refine wpList_make_full _ rfl (.tmp 17) (.tmp 17) 22 rfl w3.heap.size 5 i0 (.int .u8 0) 1 underlying22 hi0 hz0 hz1 .i64 .i64 _ _ n rfl rfl (by simp) (by simp) (by rw[hz2];omega) (by unfold maxLen;omega) nl ?_;intro w4 hown4 hgrow4;have HR4:=hideZ (made_row hown4);have hb4:=(Below.refl w3.heap.size w3).grown hgrow4 nl (by simp);have G4:=hideZ (G3.o.below hb4 (by omega));have HB4:=hideZ (HB3.o.trans (hb4.mono (by omega)));clear hown4 hgrow4 hb4))
   obtain⟨g1,hg1⟩:∃ g1,g1=w1.heap.size:=⟨_,rfl⟩
   have e3:w3.heap.size=w1.heap.size+1:=by omega
   rw[e3]at HR4
   have hgw:w.heap.size<=g1:=by omega
   rw[<-hg1]at G4 HR4 ⊢;obtain⟨g2,hg2⟩:∃ g2,g2=g1+1:=⟨_,rfl⟩
   have hg12:g1<g2:=by omega
   rw[<-hg2]at HR4 ⊢;clear e3;clear hg1 hg2 hs2 hs3 z1 HU
   go_loopw [21] (fun i wr=>∃ k:Nat,i=.int .i64 k/\k<=n/\IsB wr g1 156 .u8 256 (kst (l.take k)).2/\IsB wr g2 5 .u8 n (fun j=>((fillB (kst (l.take k)).1 j:Nat):Int))/\Below w.heap.size w wr) (fun i _=>n-(intOf i).toNat)
   case atStart=>exact⟨0,rfl,Nat.zero_le _,G4.o,HR4.o.congr (fun j _=>by simp[fillB,kst]),HB4.o⟩
   case round =>
    obtain⟨k,rfl,hk,hrow,htxt,hbel⟩:=hrel;obtain⟨hfull,hlen⟩:=kst_full l HUP.o k (by have:=HLN.o;omega);have R1:=hideZ hrow;have T1:=hideZ htxt;have GB:=hideZ hbel;clear hbel;by_cases hlt:k<n
    ·have hkl:k<l.length:=by rw[<-HLN.o];exact hlt
     obtain⟨b,off,rfl,hb,hc⟩:=(HS.o.below GB.o).some (by omega);have ci:=hc k hkl;have hx255:=HUP.o _ (List.getElem_mem hkl);have HM:=hideZ (kst_more hkl);obtain⟨x,hx⟩:∃ x,x=l[k]:=⟨_,rfl⟩;rw[<-hx]at ci hx255 HM;obtain⟨p,rfl⟩:∃ p:Nat,x=p:=⟨x.toNat,by omega⟩;have hp:p<256:=(by omega);have hfp:=hfull.2 p hp;rw[Int.toNat_natCast]at HM;obtain⟨f,hf⟩:∃ f,f=(kst (l.take k)).2:=⟨_,rfl⟩;obtain⟨bs,hbs⟩:∃ bs,bs=(kst (l.take k)).1:=⟨_,rfl⟩;rw[<-hf]at R1 HM hrow hfp;rw[<-hbs]at T1 HM hlen htxt;have c1:=hrow.cell (j:=p) hp;have c2:=htxt.cell (j:=k) hlt;have f2:=htxt.frozen k;obtain⟨y,hy⟩:∃ y,y=f p:=⟨_,rfl⟩;have HY:=hideZ hy;rw[<-hy]at c1 hfp;have HT2:=hideZ ((htxt.set k y).congr (fun j _=>fillB_next bs k y hlen hfp.1 hfp.2 j));have HR2:=hideZ (hrow.set_other ⟨g2,k,none⟩ (.int .u8 y) (by simp;omega));have HBr:=hideZ (bring_impl g1 p 156 f _ HR2.o hp);rw[<-hy]at HM;clear hc hx hf hbs hrow htxt hfull hlen hy;(go_wp2_with fail);refine HBr.o.mono ?_;rintro e w5 ⟨rfl,hb5,ha5⟩;have G5:=hideZ hb5;have T5:=hideZ (HT2.o.of_heap (ha5.2.2.2.2 g2 HT2.o.lt (by omega)));have B5:=hideZ (Aft.below (GB.o.setCell (p:=⟨g2,k,none⟩) (by simp;omega) (.int .u8 y)) ha5 (by omega) (by have:=HT2.o.lt;omega));clear hb5 ha5;(go_wp2_with fail)
     go_roundw
     case rel=>exact⟨k+1,by go_num,by omega,by rw[HM.o];exact G5.o,by rw[HM.o];exact T5.o,B5.o⟩
     case measure=>simp[intOf];omega
    ·obtain rfl:k=n:=by omega
     have HT:Hid (l.take k=l):=by
      unfold Hid;rw[HLN.o,List.take_length]
     rw[HT.o]at htxt hlen;have hcv:=htxt.str (P:=prog) (src:=22) (dst:=9) k k nl (fun j _=>fillB_lt _ j) underlying22 underlying5 underlying9
     have HF:Hid (strF k (fillB (kst l).1)=⟨(kst l).1.toArray⟩):=by
      unfold Hid;rw[<-hlen];exact fillB_all _
     rw[HF.o]at hcv;clear hrow htxt hfull hlen;(go_wp2_with fail);go_ret;exact⟨rfl,GB.o⟩
end Fr
namespace Fr
open Sh (IsB rowF upd made_row bt bt_get)
open Ze (hideZ)
open St (Aft)
open In (Ints IsI OwnI made_ints)
open In.Tryz (infoI2)
def padI (xs:List Int) (n:Nat):List Int:=xs++List.replicate (n-xs.length) 0
theorem padI_len (xs:List Int) (n:Nat) (h:xs.length<=n):(padI xs n).length=n:=by simp[padI];omega
theorem padI_next (xs:List Int) (n:Nat) (v:Int) (h:xs.length<n):(padI xs n).set xs.length v=padI (xs++[v]) n:=by
 unfold padI;rw[List.set_append_right _ _ nl,Nat.sub_self,List.append_assoc]
 congr 1
 obtain⟨m,hm⟩:∃ m,n-xs.length=m+1:=⟨n-xs.length-1,by omega⟩;rw[hm,List.replicate_succ,List.length_append,List.length_singleton,show n-(xs.length+1)=m by omega];rfl
theorem padI_all (xs:List Int):padI xs xs.length=xs:=by simp[padI]
theorem list_get (t:ByteArray) (k:Nat) (h:k<t.size):∃ h':k<t.data.toList.length,t.data.toList[k]=t[k]:=⟨by simpa using h,by simp[ByteArray.getElem_eq_getElem_data]⟩
theorem row_own {w:World} {g base:Nat} {l:List Int} (h:IsI w g 2 l) (hb:base<=g) (hm:l.length<=maxLen):OwnI w base (.slice (some ⟨g,0,none⟩) l.length l.length) l :=
 ⟨by simp,.inr ⟨g,l.length,_,rfl,hb,h,nl,hm,by simp[In.irow],by rw[List.take_of_length_le (by simp[In.irow])];simp[In.irow]⟩⟩
theorem below_drewN {B:Nat} {w w':World} (h:Below B w w') (n:Nat):Below B w (w'.drewN n):=⟨h.os,h.tape,h.output,h.size,h.block⟩
theorem isI_of_heap {w w':World} {g t:Nat} {l:List Int} (h:IsI w g t l) (e:w'.heap[g]? = w.heap[g]?):IsI w' g t l:=by
 unfold IsI;rw[e];exact h
theorem frontOf_impl (t:ByteArray) (w:World) (hn:t.size<=1048576) :
  Calls prog 88 #[.string t] w fun e w'=>∃ v,e=.returned v/\OwnI w' w.heap.size v (frontR t.data.toList)/\Below w.heap.size w w':=by
 obtain⟨i0,hi0,hz0,hz1,hz2⟩:=info_parts infoI2
 have hdl:t.data.toList.length=t.size:=by simp
 by_cases hlong:400<t.size
 ·rw[frontR_no (by omega)]
  clear hdl;go_enter func88,ntmps88
  go_wp2_with fail
  go_step3
  go_wp2_with fail
  try rw[Exit.noGoto_ret]
  go_ret;exact⟨_,rfl,OwnI.nil _ _,Below.refl _ _⟩
 ·rw[frontR_yes (by omega)]
  have HDL:=hideZ hdl;clear hdl
  have hlong':¬(400:Int)<(t.size:Int):=by omega
  go_enter func88,ntmps88
  go_wp2_with fail
  go_step3
  go_wp2_with fail
  refine(rising_impl w).mono ?_;rintro e w1 ⟨rfl,hb1⟩;have HB1:=hideZ hb1;have z1:=hb1.size;clear hb1;obtain⟨n,hln⟩:∃ n,n=t.size:=⟨_,rfl⟩
  go_wp2_with (first|((with_reducible refine wpList_alloc_row Tryz.zeroA156 ?_);intro w2 hb2 hbel2 hs2 ho2;have G2:=hideZ hb2;have HB2:=hideZ (HB1.o.trans (hbel2 _ z1));clear hb2 hbel2 ho2)|((with_reducible refine Sh.wpList_store_row' G2.o Tryz.sizeA156 row0 ?_ ?_ ?_);(· rfl);(· rfl);intro w3 hb3 hbel3 hs3 ho3;have G3:=hideZ hb3;have HB3:=hideZ (HB2.o.trans (hbel3 _ z1));clear hb3 hbel3 ho3)|(at_make;refine wpList_make_full _ rfl (.tmp 12) (.tmp 12) 69 rfl w3.heap.size 2 i0 (.int .i64 0) 1 underlying69 hi0 hz0 hz1 .i64 .i64 _ _ t.size rfl rfl (by simp) (by simp) (by rw[hz2];omega) (by unfold maxLen;omega) nl ?_;intro w4 hown4 hgrow4;have HR4:=hideZ (made_ints hown4);have hb4:=(Below.refl w3.heap.size w3).grown hgrow4 nl (by simp);have G4:=hideZ (G3.o.below hb4 (by omega));have HB4:=hideZ (HB3.o.trans (hb4.mono (by omega)));clear hown4 hgrow4 hb4))
  go_step3
  go_wp2_with fail
  clear hln n;obtain⟨g1,hg1⟩:∃ g1,g1=w1.heap.size:=⟨_,rfl⟩
  have e3:w3.heap.size=w1.heap.size+1:=by omega
  rw[e3]at HR4
  have hgw:w.heap.size<=g1:=by omega
  rw[<-hg1]at G4 HR4 ⊢;obtain⟨g2,hg2⟩:∃ g2,g2=g1+1:=⟨_,rfl⟩
  have hg12:g1<g2:=by omega
  rw[<-hg2]at HR4 ⊢;clear e3 hg1 hg2 hs2 hs3 z1;obtain⟨l,hl⟩:∃ l,l=t.data.toList:=⟨_,rfl⟩;rw[<-hl]at HDL;have HL:=hideZ hl;clear hl
  go_loopw [16] (fun i wr=>∃ k:Nat,i=.int .i64 k/\k<=t.size/\IsB wr g1 156 .u8 256 (fst' (l.take k)).2/\IsI wr g2 2 (padI (fst' (l.take k)).1 t.size)/\Below w.heap.size w wr) (fun i _=>t.size-(intOf i).toNat)
  case atStart=>exact⟨0,rfl,Nat.zero_le _,G4.o,by simpa [padI,fst'] using HR4.o,HB4.o⟩
  case round =>
   obtain⟨k,rfl,hk,hrow,hpl,hbel⟩:=hrel;obtain⟨hfull,hlen⟩:=fst_full l k (by have:=HDL.o;omega);have R1:=hideZ hrow;have T1:=hideZ hpl;have GB:=hideZ hbel;clear hbel;by_cases hlt:k<t.size
   ·obtain⟨hkl',hget⟩:=list_get t k hlt
    have hkl:k<l.length:=by rw[HDL.o];exact hlt
    have hge:l[k]=t[k]:=by
     have:=HL.o
     subst this;exact hget
    have HM:=hideZ (fst_more hkl);rw[hge]at HM;obtain⟨c,hc⟩:∃ c:UInt8,t[k]=c:=⟨_,rfl⟩;rw[hc]at HM;obtain⟨f,hf⟩:∃ f,f=(fst' (l.take k)).2:=⟨_,rfl⟩;obtain⟨ps,hps⟩:∃ ps,ps=(fst' (l.take k)).1:=⟨_,rfl⟩;rw[<-hf]at R1 HM hfull;rw[<-hps]at T1 HM hlen;have hlk:=look_some hfull (c:=c.toNat) (UInt8.toNat_lt _);obtain⟨q,hq⟩:∃ q,q=look f c.toNat:=⟨_,rfl⟩;rw[<-hq]at hlk HM;have hq256:=hlk.1;have HLK:=hideZ hlk.2;have HLE:=hideZ hlen;have HFU:=hideZ hfull;clear hget hge hf hps hrow hpl hfull hlen hlk hq;(go_wp2_with fail)
    go_loopw [19] (fun i wr2=>∃ p:Nat,i=.int .i64 p/\p<=q/\IsB wr2 g1 156 .u8 256 f/\IsI wr2 g2 2 (padI ps t.size)/\Below w.heap.size w wr2) (fun i _=>q-(intOf i).toNat)
    case atStart=>exact⟨0,rfl,Nat.zero_le _,R1.o,T1.o,GB.o⟩
    case round =>
     obtain⟨p,rfl,hp,hrow2,hpl2,hbel2⟩:=hrel;have R2:=hideZ hrow2;have T2:=hideZ hpl2;have GB2:=hideZ hbel2;have c1:=hrow2.cell (j:=p) (by omega);have hbnd:=HFU.o.2 p (by omega);obtain⟨y,hy⟩:∃ y,y=f p:=⟨_,rfl⟩;rw[<-hy]at c1 hbnd;have HY:=hideZ hy;clear hrow2 hpl2 hbel2 hy;by_cases hpq:p=q
     ·have hyc:(y==((c.toNat:Nat):Int))=true:=beq_iff_eq.2 (by rw[HY.o,hpq];exact HLK.o.1)
      have hq1:q<256:=hq256;have c2:=T2.o.cell (j:=k) (by rw[padI_len _ _ (by have:=HLE.o;omega)];exact hlt);have f2:=T2.o.frozen k
      have HT3:Hid (∀ nq,IsI ((wr.drewN nq).setCell ⟨g2,k,none⟩ (.int .i64 p)) g2 2 (padI (ps++[(p:Int)]) t.size)):=fun nq=>by
       have h1:IsI (wr.drewN nq) g2 2 (padI ps t.size):=T2.o;have h2:=h1.set k (p:Int);have h3:=padI_next ps t.size (p:Int) (by have:=HLE.o;omega);rw[HLE.o]at h3;rw[h3]at h2;exact h2
      have HR3:Hid (∀ nq,IsB ((wr.drewN nq).setCell ⟨g2,k,none⟩ (.int .i64 p)) g1 156 .u8 256 f):=fun nq=>by
       have h1:IsB (wr.drewN nq) g1 156 .u8 256 f:=R2.o;exact h1.set_other _ _ (by simp;omega)
      have HBr:=hideZ (fun nq=>bring_impl g1 p 156 f _ (HR3.o nq) (by omega));have HB3':Hid (∀ nq,Below w.heap.size w ((wr.drewN nq).setCell ⟨g2,k,none⟩ (.int .i64 p))):=fun nq=>(below_drewN GB2.o nq).setCell (p:=⟨g2,k,none⟩) (by simp;omega) _;rw[<-hpq]at HM;clear hpq;(go_wp2_with fail)
      go_quiet (fail)
      all_goals (try go_wp2_with fail)
      refine(HBr.o _).mono ?_;rintro e w5 ⟨rfl,hb5,ha5⟩;have G5:=hideZ hb5;have T5:=hideZ (isI_of_heap (HT3.o _) (ha5.2.2.2.2 g2 (HT3.o _).lt (by omega)));have B5:=hideZ (Aft.below (HB3'.o _) ha5 (by omega) (by have:=(HT3.o nq).lt;omega));clear hb5 ha5;(go_wp2_with fail)
      go_roundw
      case rel=>exact⟨k+1,by go_num,by omega,by rw[HM.o];exact G5.o,by rw[HM.o];exact T5.o,B5.o⟩
      case measure=>simp[intOf];omega
     ·have hyc:(y==((c.toNat:Nat):Int))=false:=beq_eq_false_iff_ne.2 (by rw[HY.o];exact HLK.o.2 p (by omega))
      (go_wp2_with fail)
      go_quiet (fail)
      all_goals (try go_wp2_with fail)
      go_roundw
      case rel=>exact⟨p+1,by go_num,by omega,R2.o,T2.o,below_drewN GB2.o _⟩
      case measure=>simp[intOf];omega
   ·obtain rfl:k=t.size:=by omega
    have HT:Hid (l.take t.size=l):=by
     unfold Hid;rw[<-HDL.o,List.take_length]
    rw[HT.o]at hpl hlen
    have hpa:padI (fst' l).1 t.size=(fst' l).1:=by
     rw[<-hlen];exact padI_all _
    rw[hpa]at hpl;have HV:=hideZ (row_own (base:=w.heap.size) hpl (by omega) (by unfold maxLen;omega));rw[hlen]at HV;have HLL:=HL.o;rw[HLL]at HV;clear hrow hpl hfull hlen hpa HLL;(go_wp2_with fail)
    try rw[Exit.noGoto_ret]
    go_ret;exact⟨_,rfl,HV.o,GB.o⟩
end Fr
namespace Dr
theorem blk_set3 {W:World} {B:Nat} {x0 x1 x2 x3:Value} {T:TypeId} (h:W.heap[B]? = some (.cells #[x0,x1,x2,x3] T (0,0))) (v:Value) :
  (W.setCell ⟨B,3,none⟩ v).heap[B]? = some (.cells #[x0,x1,x2,v] T (0,0)):=by
 rw[heap_setCell_same W B 3 _ T v h];rfl
def sobj (a:Option Addr) (len cap:Nat) (mix size:Int):Obj:=.cells #[.slice a len cap,.int .i64 0,.int .u64 mix,.int .i64 size] 67 (0,0)
theorem src_of {w wr:World} {a:Option Addr} {len cap:Nat} {mix size:Int} (hr:Row w w.heap.size a len) (ho:Only w.heap.size (w.alloc (sobj a len cap 88172645463325252 0)) wr)
  (hb:wr.heap[w.heap.size]? = some (sobj a len cap mix size)) (h1:0<=mix) (h2:mix<=18446744073709551615) (h3:0<=size) (h4:size<=12):Src wr w.heap.size a len cap:=by
 refine⟨ho.row ?_,0,mix,size,hb,Int.le_refl _,by omega,h1,h2,h3,h4⟩
 rcases hr with h0|⟨b,off,rfl,hne,hc⟩
 ·exact .inl h0
 ·refine .inr ⟨b,off,rfl,hne,fun i hi=>?_⟩
  obtain⟨z,hz,z1,z2⟩:=hc i hi;exact⟨z,(World.cell?_alloc_lt _ _ ⟨b,off+i,none⟩ (World.block_lt_of_cell? w _ hz)).trans hz,z1,z2⟩
theorem source_any (a:Option Addr) (len cap:Nat) (w:World) (hl:len<=1048576) (hr:Row w w.heap.size a len) :
  Calls prog 14 #[.slice a len cap] w fun e w'=>e=.returned (.pointer (some ⟨w.heap.size,0,none⟩))/\Src w' w.heap.size a len cap/\Below w.heap.size w w'/\w'.heap.size=w.heap.size+1:=by
 have HR:=hideD hr;clear hr;go_enter func14,ntmps14
 go_wp2
 go_loopw [4] (fun i wr=>∃ (k:Nat) (mix:Int),i=.int .i64 k/\k<=len/\0<=mix/\mix<=18446744073709551615/\wr.heap[w.heap.size]? = some (sobj a len cap mix 0)/\Only w.heap.size (w.alloc (sobj a len cap 88172645463325252 0)) wr) (fun i _=>len-(intOf i).toNat)
 case atStart=>exact⟨0,88172645463325252,rfl,Nat.zero_le _,by decide,by decide,heap_alloc_new _ _,Only.refl _ _⟩
 case round =>
  obtain⟨k,mix,rfl,hk,h2,h3,hb,ho⟩:=hrel
  have c2:wr.cell? ⟨w.heap.size,2,none⟩=some (.int .u64 mix):=by rw[cell_of_row wr _ 2 _ _ _ hb];rfl
  have c3:wr.cell? ⟨w.heap.size,3,none⟩=some (.int .i64 0):=by rw[cell_of_row wr _ 3 _ _ _ hb];rfl
  have f:=fun o=>frozen_of_row wr w.heap.size o _ _ hb;have HB:=hideD hb;have HO:=hideD ho;clear hb ho;by_cases hlt:k<len
  ·by_cases h64:k<64
   ·rcases HR.o with h0|⟨b,off,rfl,hne,hc⟩
    ·exfalso;omega
    ·obtain⟨z,hz,z1,z2⟩:=hc k hlt
     have hzr:wr.cell? ⟨b,off+k,none⟩=some (.int .u8 z):=(World.cell?_of_block (w:=w.alloc _) (a:=⟨b,off+k,none⟩) (HO.o.2.2.2.2 b (Nat.ne_of_lt hne))).trans ((World.cell?_alloc_lt _ _ ⟨b,off+k,none⟩ hne).trans hz);clear hc hz;have g1:(k:Int)<(len:Int):=(by omega)
     go_wp2
     go_region
     go_wp2
     go_roundw
     case rel=>exact⟨k+1,_,by go_num,by omega,(wrap64_bd _).1,(wrap64_bd _).2,blk_set HB.o _,(HO.o.set 2 _).drew⟩
     case measure=>simp[intOf];omega
   ·have hd:decide ((k:Int)<64)=false:=decide_eq_false (by omega)
    have g1:(k:Int)<(len:Int):=by omega
    have s3:=fun v=>sc1 (W:=wr) (p:=⟨w.heap.size,3,none⟩) (x:=.int .i64 0) c3 v;by_cases hbig:(12:Int)<(len:Int)/20
    ·go_wp2
     go_ret;refine⟨rfl,src_of HR.o ((HO.o.set 3 _).set 3 _) (blk_set3 (blk_set3 HB.o _) _) h2 h3 (by omega) (by omega),?_,?_⟩
     ·exact((HO.o.set 3 _).set 3 _).below ((Below.refl _ _).alloc nl _) nl
     ·have:=((HO.o.set 3 (.int .i64 0)).set 3 (.int .i64 0)).2.2.2.1
      simpa [World.setCell] using this
    ·go_wp2
     go_ret;refine⟨rfl,src_of HR.o (HO.o.set 3 _) (blk_set3 HB.o _) h2 h3 (by omega) (by omega),?_,?_⟩
     ·exact(HO.o.set 3 _).below ((Below.refl _ _).alloc nl _) nl
     ·have:=(HO.o.set 3 (.int .i64 0)).2.2.2.1
      simpa [World.setCell] using this
  ·have hd:decide ((k:Int)<(len:Int))=false:=decide_eq_false (by omega)
   have s3:=fun v=>sc1 (W:=wr) (p:=⟨w.heap.size,3,none⟩) (x:=.int .i64 0) c3 v;by_cases hbig:(12:Int)<(len:Int)/20
   ·go_wp2
    go_ret;refine⟨rfl,src_of HR.o ((HO.o.set 3 _).set 3 _) (blk_set3 (blk_set3 HB.o _) _) h2 h3 (by omega) (by omega),?_,?_⟩
    ·exact((HO.o.set 3 _).set 3 _).below ((Below.refl _ _).alloc nl _) nl
    ·have:=((HO.o.set 3 (.int .i64 0)).set 3 (.int .i64 0)).2.2.2.1
     simpa [World.setCell] using this
   ·go_wp2
    go_ret;refine⟨rfl,src_of HR.o (HO.o.set 3 _) (blk_set3 HB.o _) h2 h3 (by omega) (by omega),?_,?_⟩
    ·exact(HO.o.set 3 _).below ((Below.refl _ _).alloc nl _) nl
    ·have:=(HO.o.set 3 (.int .i64 0)).2.2.2.1
     simpa [World.setCell] using this
end Dr
namespace Dr
open Nu (bv own_string)
structure Aft (B:Nat) (w w':World):Prop where
 os:w'.os=w.os
 tape:w'.tape=w.tape
 output:w'.output=w.output
 size:w.heap.size<=w'.heap.size
 block:∀ k,k<w.heap.size->k≠B->w'.heap[k]? = w.heap[k]?
theorem Aft.trans {B:Nat} {a b c:World} (h:Aft B a b) (k:Aft B b c):Aft B a c :=
 ⟨k.os.trans h.os,k.tape.trans h.tape,k.output.trans h.output,Nat.le_trans h.size k.size,fun i hi hn=>(k.block i (Nat.lt_of_lt_of_le hi h.size) hn).trans (h.block i hi hn)⟩
theorem Only.aft {B:Nat} {w w':World} (h:Only B w w'):Aft B w w':=⟨h.1,h.2.1,h.2.2.1,by rw[h.2.2.2.1];exact nl,fun k _ hk=>h.2.2.2.2 k hk⟩
theorem aft_below {B:Nat} {w w':World} (h:Below w.heap.size w w'):Aft B w w':=⟨h.os,h.tape,h.output,h.size,fun k hk _=>h.block k hk⟩
theorem Aft.below {B C:Nat} {w0 w w':World} (hb:Below C w0 w) (h:Aft B w w') (hC:C<=B) (hS:C<=w.heap.size):Below C w0 w' :=
 hb.trans ⟨h.os,h.tape,h.output,h.size,fun k hk=>h.block k (by omega) (by omega)⟩
theorem Src.stays {B:Nat} {w w':World} {a:Option Addr} {len cap:Nat} (hs:Src w B a len cap) (h:∀ k,k<=B->w'.heap[k]? = w.heap[k]?):Src w' B a len cap:=by
 obtain⟨hr,at_,mix,size,hb,h0⟩:=hs;refine⟨?_,at_,mix,size,(h B nl).trans hb,h0⟩
 rcases hr with h0|⟨b,off,rfl,hlt,hc⟩
 ·exact .inl h0
 ·refine .inr ⟨b,off,rfl,hlt,fun i hi=>?_⟩
  obtain⟨z,hz,z1,z2⟩:=hc i hi;exact⟨z,(World.cell?_of_block (w:=w) (a:=⟨b,off+i,none⟩) (h b (Nat.le_of_lt hlt))).trans hz,z1,z2⟩
theorem Src.lt {B:Nat} {w:World} {a:Option Addr} {len cap:Nat} (hs:Src w B a len cap):B<w.heap.size:=by
 obtain⟨_,at_,mix,size,hb,_⟩:=hs
 rcases Nat.lt_or_ge B w.heap.size with h|h
 ·exact h
 ·rw[Array.getElem?_eq_none h]at hb
  exact absurd hb (by simp)
theorem Src.below {B:Nat} {w w':World} {a:Option Addr} {len cap:Nat} (hs:Src w B a len cap) (h:Below w.heap.size w w'):Src w' B a len cap :=
 hs.stays fun k hk=>h.block k (Nat.lt_of_le_of_lt hk hs.lt)
theorem one_any (B:Nat) (a:Option Addr) (len cap:Nat) (most:Int) (w:World) (hl:len<=1048576) (hm2:most<=9223372036854775807) (hs:Src w B a len cap) :
  Calls prog 36 #[.pointer (some ⟨B,0,none⟩),.int .i64 most] w fun e w'=>∃ r:Bool,e=.returned (.bool r)/\Src w' B a len cap/\Only B w w':=by
 go_enter func36,ntmps36
 go_wp2_with fail
 refine(n_any B a len cap most _ hl hm2 hs).mono ?_;rintro e w1 ⟨r,rfl,h0,h1,h2,h3⟩
 go_wp2
 go_ret;exact⟨_,rfl,h2,h3⟩
theorem owns_only {B base:Nat} {w w':World} {e:TypeId} {v:Value} {n size:Nat} {xs:List Value} (h:w.ownsRow base e size v n xs) (ho:Only B w w') (hB:B<base):w'.ownsRow base e size v n xs:=by
 obtain⟨h1,h2⟩:=h;refine⟨h1,?_⟩
 rcases h2 with h2|⟨g,cap,cur,e1,e2,e3,e4⟩
 ·exact .inl h2
 ·exact .inr ⟨g,cap,cur,e1,e2,(ho.2.2.2.2 g (by omega)).trans e3,e4⟩
theorem aft_more {B:Nat} {w w1 w2:World} (h:Aft B w w1) (hb:Below w.heap.size w1 w2):Aft B w w2 :=
 ⟨hb.os.trans h.os,hb.tape.trans h.tape,hb.output.trans h.output,Nat.le_trans h.size hb.size,fun k hk hn=>(hb.block k hk).trans (h.block k hk hn)⟩
theorem bv_int (r:Int) (h0:0<=r) (h1:r<=255):bv (UInt8.ofNat r.toNat)=.int .u8 r:=by
 unfold bv;rw[UInt8.toNat_ofNat',Nat.mod_eq_of_lt (by omega)]
 congr 1
 omega
theorem Tryz.infoD5:(prog.info? 5).map (fun i=>(i.zero,i.size,i.bytes))=some (some (.int .u8 0),1,1):=by kernel_rfl
/-- s.bytes(n): a text of n bytes -/
theorem bytes_any (B:Nat) (a:Option Addr) (len cap m:Nat) (w:World) (hl:len<=1048576) (hm:m<=1048576) (hs:Src w B a len cap) :
  Calls prog 60 #[.pointer (some ⟨B,0,none⟩),.int .i64 m] w fun e w'=>∃ l:List UInt8,l.length=m/\e=.returned (.string ⟨l.toArray⟩)/\Src w' B a len cap/\Aft B w w':=by
 have hB:=hs.lt;have HS:=hideD hs;clear hs;obtain⟨i0,hi,hz0,hz1,hz2⟩:=info_parts Tryz.infoD5;go_enter func60,ntmps60
 go_wp2
 go_loopw [5,6] (fun v i wr=>∃ (k:Nat) (l:List UInt8),i=.int .i64 k/\k<=m/\l.length=k/\wr.ownsRow w.heap.size 5 1 v k (l.map bv)/\Src wr B a len cap/\Aft B w wr) (fun _ i _=>m-(intOf i).toNat)
 case atStart =>
  exact⟨0,[],rfl,Nat.zero_le _,rfl,World.ownsRow_made _ _ _ nl (by decide) rfl,HS.o.below ((Below.refl _ _).alloc nl _),aft_below ((Below.refl _ _).alloc nl _)⟩
 case round =>
  obtain⟨k,l,rfl,hk,hlen,hown,hsr,haft⟩:=hrel;have HL:=hideD hlen;have HSR:=hideD hsr;have HA:=hideD haft;have HO:=hideD hown;clear hlen hsr haft hown;by_cases hlt:k<m
  ·go_wp2_with fail
   refine(n_any B a len cap 256 _ hl (by omega) HSR.o).mono ?_;rintro e w1 ⟨r,rfl,r0,r1,hs1,ho1⟩
   have r2:r<=255:=by omega
   have hown1:=owns_only HO.o ho1 hB;have HS1:=hideD hs1;have HA1:=hideD (HA.o.trans ho1.aft);clear hs1
   go_wp2_with (at_builtin;refine wpList_append_own _ rfl (.tmp 13) (.tmp 17) 22 rfl w.heap.size 5 i0 (.int .u8 0) 1 1 underlying22 hi hz0 hz1 hz2 rfl (by decide) _ _ _ rfl (hown1.alloc _) ⟨w1.heap.size,0,none⟩ 1 1 [.int .u8 r] rfl rfl ?c1 ?c2 ?c3 ?c4 ?c5 ?_)
   case c1 =>
    intro j u hj
    match j,hj with
    |0,hj=>simp at hj;subst hj;simp[Addr.add]
   case c2=>intro u hu;simp at hu;subst hu;rfl
   case c3=>unfold maxLen;omega
   case c4=>omega
   case c5=>have:=HA1.o.size;simp;omega
   intro v' w2 hown2 hgrow _;have hb2:=Go.Proofs.YtbdcffjcogglbaaGreatDoor.Nu.app_below (w:=w1) (Below.refl w.heap.size w1) HA1.o.size hown1 hgrow;have HS2:=hideD (HS1.o.stays fun j hj=>hb2.block j (by omega));have HA2:=hideD (aft_more HA1.o hb2)
   have HO2:Hid (w2.ownsRow w.heap.size 5 1 v' (k+1) ((l++[UInt8.ofNat r.toNat]).map bv)):=by
    unfold Hid;rw[List.map_append,List.map_singleton,bv_int r r0 r2];exact hown2
   clear hown2 hgrow hown1 hb2 ho1
   go_wp2
   go_roundw
   case rel=>exact⟨k+1,l++[UInt8.ofNat r.toNat],by go_num,by omega,by rw[List.length_append,HL.o];rfl,HO2.o,HS2.o,HA2.o⟩
   case measure=>simp[intOf];omega
  ·have hkm:k=m:=by omega
   have HKM:=hideD hkm;have hconv:=own_string (P:=prog) (src:=22) (dst:=9) l (by rw[HL.o];exact HO.o) underlying22 underlying5 underlying9;clear hkm
   go_wp2
   go_ret;exact⟨l,by rw[HL.o,HKM.o],rfl,HSR.o,HA.o⟩
end Dr
namespace Up
open Gn (rd getV getV_rd outN)
open Dr (Aft Only)
theorem set_k3 {W:World} {g:Nat} {x y z:Value} {T:TypeId} (h:W.heap[g]? = some (.cells #[x,y,z] T (0,0))) (v:Value):(W.setCell ⟨g,0,none⟩ v).heap[g]? = some (.cells #[v,y,z] T (0,0))/\(W.setCell ⟨g,1,none⟩ v).heap[g]? = some (.cells #[x,v,z] T (0,0))/\(W.setCell ⟨g,2,none⟩ v).heap[g]? = some (.cells #[x,y,v] T (0,0)):=by
 refine⟨?_,?_,?_⟩
 ·rw[heap_setCell_same W g 0 _ T v h];rfl
 ·rw[heap_setCell_same W g 1 _ T v h];rfl
 ·rw[heap_setCell_same W g 2 _ T v h];rfl
theorem blk_low {w w':World} {g:Nat} {x:Obj} (h:w.heap[g]? = some x) (hb:Below w.heap.size w w'):w'.heap[g]? = some x:=(hb.block g (Array.getElem?_eq_some_iff.1 h).1).trans h
def okN (t:ByteArray) (at_:Int) (bad:Bool) (most:Int):Prop:=bad=false/\(rd t at_).2.2=0/\0<=(rd t at_).1/\(rd t at_).1<=most
end Up
namespace Ze
open In (Ints OwnI IsO one_newI one_cellI app_one)
open In.Tryz (infoI2)
def Bs (l:List Int) (k:Nat) (lo:List Int) (q:Nat):Prop :=
 ((bst (l.take k)).1.length<=400/\lo=(bst (l.take k)).1/\q=(bst (l.take k)).2)∨(400<(bst (l.take k)).1.length/\400<lo.length)
end Ze
end Go.Proofs.YtbdcffjcogglbaaGreatDoor
