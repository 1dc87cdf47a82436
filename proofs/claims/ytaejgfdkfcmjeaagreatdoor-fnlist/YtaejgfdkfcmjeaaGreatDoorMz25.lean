import Derived.Test.YtaejgfdkfcmjeaaGreatDoorMz18
import Derived.Test.YtaejgfdkfcmjeaaGreatDoorMz19
import Derived.RegionTactic
import Derived.Test.YtaejgfdkfcmjeaaGreatDoorMz24
import Derived.Maps.RangeWalk
import Derived.Maps.OwnSet
import Derived.StringKeys
import Derived.Shelf.Strings.Prefix
import Derived.Test.YtaejgfdkfcmjeaaGreatDoorMz32
import Derived.Maps.OwnOps
set_option maxRecDepth 100000
set_option maxHeartbeats 8000000
namespace Go.Proofs.YtaejgfdkfcmjeaaGreatDoor
open Go.RowKit
open Go.Proofs.Tryz
namespace Gn
theorem ret_int {k:IntKind} {a b:Int} (h:a=b):Ending.returned (.int k a)=.returned (.int k b):=by rw[h]
theorem not_half (u:Nat) (h:u<=18446744073709551615):bits BinOp.xor IntKind.u64 IntKind.u64.max ((u:Int)/2)=((18446744073709551615-u/2:Nat):Int):=by
 have e:((u:Int)/2)=((u/2:Nat):Int):=by omega
 rw[e,show IntKind.u64.max=((18446744073709551615:Nat):Int) from rfl,u64_xor_nat _ _ (by decide) (by omega)];have e:=congrArg BitVec.toNat (BitVec.allOnes_xor (x:=BitVec.ofNat 64 (u/2)));rw[BitVec.toNat_xor,BitVec.toNat_not,BitVec.toNat_allOnes,BitVec.toNat_ofNat,Nat.mod_eq_of_lt (by omega)]at e;exact congrArg (fun n:Nat=>(n:Int)) e
theorem low_bit (u:Nat) (h:u<=18446744073709551615):bits BinOp.and IntKind.u64 (u:Int) 1=((u%2:Nat):Int):=by
 have:=u64_and_nat u 1 (by omega) (by decide)
 rw[nat_mask1]at this;exact this
theorem unfold_any (u:Nat) (w:World) (h:u<=18446744073709551615) :
  Calls prog 130 #[.int .u64 u] w fun e w'=>e=.returned (.int .i64 (unz u))/\w'=w:=by
 have hl:=low_bit u h;by_cases hodd:u%2=1
 ·have ht:(bits BinOp.and IntKind.u64 (u:Int) 1==1)=true:=by rw[hl,hodd];rfl
  obtain⟨z,hz⟩:∃ z,z=18446744073709551615-u/2:=⟨_,rfl⟩;have hn:=not_half u h;rw[<-hz]at hn;have HO:=hide (unz_odd u hodd);have HZ:=hide hz;clear hl hodd hz;go_enter func130,ntmps130
  go_wp2
  go_ret;exact⟨ret_int (by rw[HO.o,HZ.o];simp[wrap64];omega),rfl⟩
 ·have ht:(bits BinOp.and IntKind.u64 (u:Int) 1==1)=false:=by rw[hl];simp;omega
  have HO:=hide (unz_even' u hodd);clear hl hodd;go_enter func130,ntmps130
  go_wp2
  go_ret;exact⟨ret_int HO.o,rfl⟩
theorem place_big (s:ByteArray) (a:Int) (w:World) (hs:s.size<=maxLen) (h:8000<s.size) :
  Calls prog 128 #[.string s,.int .i64 a] w fun e w'=>e=.returned (.iface 137 (.agg #[.int .i64 2]))/\w'=w:=by
 unfold maxLen at hs;go_enter func128,ntmps128
 go_wp2
 go_ret;exact⟨rfl,rfl⟩
theorem place_neg (s:ByteArray) (a:Int) (w:World) (hs:¬8000<s.size) (h:a<0) :
  Calls prog 128 #[.string s,.int .i64 a] w fun e w'=>e=.returned (.iface 137 (.agg #[.int .i64 1]))/\w'=w:=by
 go_enter func128,ntmps128
 go_wp2
 go_ret;exact⟨rfl,rfl⟩
theorem place_ok (s:ByteArray) (a:Int) (w:World) (hs:¬8000<s.size) (h:¬a<0) :
  Calls prog 128 #[.string s,.int .i64 a] w fun e w'=>e=.returned .nilIface/\w'=w:=by
 go_enter func128,ntmps128
 go_wp2
 go_ret;exact⟨rfl,rfl⟩
def rd (s:ByteArray) (a:Int):Int × Nat × Int:=if 8000<s.size then (0,0,2) else if a<0 then (0,0,1) else (unz (numR s a.toNat).1,(numR s a.toNat).2.1,(numR s a.toNat).2.2)
theorem run_codes (s:ByteArray):∀ f k p u,(run s f k p u).2.2=0∨((run s f k p u).1=0/\(run s f k p u).2.1=0/\((run s f k p u).2.2=3∨(run s f k p u).2.2=4)):=by
 intro f
 induction f with
 |zero=>intro k p u;exact .inr ⟨rfl,rfl,.inl rfl⟩
 |succ f ih =>
  intro k p u;rw[run]
  split
  ·exact .inr ⟨rfl,rfl,.inr rfl⟩
  ·split
   ·exact .inr ⟨rfl,rfl,.inl rfl⟩
   ·split
    ·split
     ·exact .inr ⟨rfl,rfl,.inl rfl⟩
     ·exact .inl rfl
    ·exact ih _ _ _
theorem run_bound (s:ByteArray):∀ f k p u,k<=9->u<2 ^ (7*k)->(run s f k p u).1<=18446744073709551615:=by
 intro f
 induction f with
 |zero=>intro k p u _ _;exact Nat.zero_le _
 |succ f ih =>
  intro k p u hk hu;rw[run]
  split
  ·exact Nat.zero_le _
  ·split
   ·exact Nat.zero_le _
   ·rename_i h9
    split
    ·split
     ·exact Nat.zero_le _
     ·exact(next_small u (byteN s p) k hu hk h9).2
    ·exact ih _ _ _ (by omega) (next_lt _ _ _ hu)
theorem run_place (s:ByteArray):∀ f k p u,(run s f k p u).2.1<=s.size:=by
 intro f
 induction f with
 |zero=>intro k p u;exact Nat.zero_le _
 |succ f ih =>
  intro k p u;rw[run]
  split
  ·exact Nat.zero_le _
  ·split
   ·exact Nat.zero_le _
   ·split
    ·split
     ·exact Nat.zero_le _
     ·show p+1<=s.size;omega
    ·exact ih _ _ _
theorem read_any (s:ByteArray) (a:Int) (w:World) (hs:s.size<=maxLen) :
  Calls prog 95 #[.string s,.int .i64 a] w fun e w'=>e=.returned (.tuple #[.int .i64 (rd s a).1,.int .i64 (rd s a).2.1,errV (rd s a).2.2])/\w'=w:=by
 by_cases h1:8000<s.size
 ·have HE:Hid (rd s a=(0,0,2)):=by unfold Hid rd;rw[if_pos h1]
  go_enter func95,ntmps95
  go_wp2_with fail
  refine(place_big s a _ hs h1).mono ?_;rintro e w' ⟨rfl,hw⟩;subst w'
  go_wp2
  go_ret3
  exact⟨by rw[HE.o];rfl,rfl⟩
 ·by_cases h2:a<0
  ·have HE:Hid (rd s a=(0,0,1)):=by unfold Hid rd;rw[if_neg h1,if_pos h2]
   go_enter func95,ntmps95
   go_wp2_with fail
   refine(place_neg s a _ h1 h2).mono ?_;rintro e w' ⟨rfl,hw⟩;subst w'
   go_wp2
   go_ret3
   exact⟨by rw[HE.o];rfl,rfl⟩
  ·obtain⟨n,rfl⟩:=Int.eq_ofNat_of_zero_le (show 0<=a from by omega)
   have HE:Hid (rd s (n:Int)=(unz (numR s n).1,(numR s n).2.1,(numR s n).2.2)):=by unfold Hid rd;rw[if_neg h1,if_neg h2,Int.toNat_natCast]
   have hb:(numR s n).1<=18446744073709551615:=run_bound s 10 0 n 0 (by decide) (by decide);go_enter func95,ntmps95
   go_wp2_with fail
   refine(place_ok s n _ h1 (by omega)).mono ?_;rintro e w' ⟨rfl,hw⟩;subst w'
   go_wp2_with fail
   refine(bits_any s n _ (by omega)).mono ?_;generalize numR s n=r at HE hb ⊢;obtain⟨u,p,c⟩:=r;simp only[bitsV]at HE hb ⊢;generalize hev:errV c=ev;have HEV:=hide hev;clear hev;rintro e w' ⟨rfl,hw⟩;subst w'
   go_wp2_with fail
   refine(unfold_any u _ hb).mono ?_;rintro e w' ⟨rfl,hw⟩;subst w'
   go_wp2
   go_ret3
   exact⟨by rw[HE.o,<-HEV.o];rfl,rfl⟩
def handle:Value:=.iface 144 (.agg #[.pointer (some ⟨4,85,none⟩)])
theorem code_any (c:Int) (w:World) (hg:w.cell? ⟨2,0,none⟩=some handle) :
  Calls prog 96 #[.iface 137 (.agg #[.int .i64 c])] w fun e w'=>e=.returned (.int .i64 c)/\Below w.heap.size w w':=by
 have hlt:2 < w.heap.size:=by
  rcases Nat.lt_or_ge 2 w.heap.size with h|h
  ·exact h
  ·simp[World.cell?,Array.getElem?_eq_none h]at hg
 have hgA:(w.alloc (.cells #[.int .i64 0] 137)).cell? ⟨2,0,none⟩=some handle:=by
  rw[World.cell?_alloc_lt _ _ ⟨2,0,none⟩ hlt];exact hg
 have htA:(w.alloc (.cells #[.int .i64 0] 137)).cell? ⟨w.heap.size,0,none⟩=some (.int .i64 0):=by simp
 have hfA:(w.alloc (.cells #[.int .i64 0] 137)).frozen? ⟨w.heap.size,0,none⟩=false:=by simp
 go_enter func96,ntmps96
 go_wp2_with fail
 refine(as_hit c _ (.int .i64 0) _ hgA htA hfA).mono ?_;rintro e w' ⟨rfl,rfl⟩
 go_wp2
 go_ret;exact⟨rfl,(((((Below.refl _ _).alloc nl _).alloc (by simp) _).alloc (by simp;omega) _).alloc (by simp;omega) _).alloc (by simp;omega) _⟩
theorem rd_codes (s:ByteArray) (a:Int):(rd s a).2.2=0∨(rd s a).2.2≠0/\(rd s a).1=0/\(rd s a).2.1=0:=by
 unfold rd
 split
 ·exact .inr ⟨by decide,rfl,rfl⟩
 ·split
  ·exact .inr ⟨by decide,rfl,rfl⟩
  ·rcases run_codes s 10 0 a.toNat 0 with h|⟨h1,h2,h3⟩
   ·exact .inl h
   ·refine .inr ⟨?_,?_,h2⟩
    ·show (numR s a.toNat).2.2≠0
     unfold numR;omega
    ·show unz (numR s a.toNat).1=0
     unfold numR;rw[h1];rfl
theorem getV_rd (s:ByteArray) (a:Int):getV s a=if (rd s a).2.2=0 then outN (rd s a).1 (rd s a).2.1 0 else outN 0 0 (rd s a).2.2:=by
 unfold getV rd
 split
 ·rfl
 ·split
  ·rfl
  ·rfl
theorem bcell {W w1:World} (hb:Below W.heap.size W w1):(∀ b o,b<W.heap.size->w1.cell? ⟨b,o,none⟩=W.cell? ⟨b,o,none⟩)/\(∀ b o,b<W.heap.size->w1.frozen? ⟨b,o,none⟩=W.frozen? ⟨b,o,none⟩) :=
 ⟨fun b o h=>hb.cell (p:=⟨b,o,none⟩) h,fun b o h=>hb.frozen (p:=⟨b,o,none⟩) h⟩
theorem lt_of_handle {w:World} (hg:w.cell? ⟨2,0,none⟩=some handle):2 < w.heap.size:=by
 rcases Nat.lt_or_ge 2 w.heap.size with h|h
 ·exact h
 ·simp[World.cell?,Array.getElem?_eq_none h]at hg
theorem handle_below {w w1:World} (hb:Below w.heap.size w w1) (hg:w.cell? ⟨2,0,none⟩=some handle):w1.cell? ⟨2,0,none⟩=some handle :=
 (hb.cell (p:=⟨2,0,none⟩) (lt_of_handle hg)).trans hg
theorem handle_alloc {w:World} (o:Obj) (hg:w.cell? ⟨2,0,none⟩=some handle):(w.alloc o).cell? ⟨2,0,none⟩=some handle:=by
 rw[World.cell?_alloc_lt _ _ ⟨2,0,none⟩ (lt_of_handle hg)];exact hg
theorem get_impl (s:ByteArray) (a:Int) (w:World) (hs:s.size<=maxLen) (hg:w.cell? ⟨2,0,none⟩=some handle) :
  Calls prog 66 #[.string s,.int .i64 a] w fun e w'=>e=.returned (getV s a)/\Below w.heap.size w w':=by
 have HV:=hide (getV_rd s a);have HG:=hide hg;clear hg;by_cases h0:(rd s a).2.2=0
 ·go_enter func66,ntmps66
  go_wp2_with fail
  refine(read_any s a _ hs).mono ?_;generalize rd s a=r at HV h0 ⊢;obtain⟨n,p,c⟩:=r
  simp only at HV h0 ⊢
  subst h0;rintro e w' ⟨rfl,hw⟩;subst w';simp only[errV,if_pos]
  go_wp2
  refine bodyPost_ret (v:=outN n p 0) (by simp[results,outN,results66,go_sem]) rfl ⟨by rw[HV.o];rfl,(Below.refl _ _).alloc nl _⟩
 ·go_enter func66,ntmps66
  go_wp2_with fail
  refine(read_any s a _ hs).mono ?_;generalize rd s a=r at HV h0 ⊢;obtain⟨n,p,c⟩:=r
  simp only at HV h0 ⊢
  have H0:=hide h0;rintro e w' ⟨rfl,hw⟩;subst w';simp only[errV,if_neg h0];clear h0
  go_wp2_with fail
  refine(code_any c _ (handle_alloc _ HG.o)).mono ?_;rintro e w1 ⟨rfl,hb1⟩;obtain⟨hc1,hf1⟩:=bcell hb1
  go_wp2
  refine bodyPost_ret (v:=outN 0 0 c) (by simp[results,outN,results66,go_sem,hc1]) rfl ⟨by rw[HV.o,if_neg H0.o],?_⟩;exact((((Below.refl w.heap.size w).alloc nl _).trans (hb1.mono (by simp))).setCell nl _ |>.setCell nl _).setCell nl _
def rt (s:ByteArray) (a:Int):ByteArray × Nat × Int :=
 if (rd s a).2.2≠0 then (⟨#[]⟩,0,(rd s a).2.2)
 else if (rd s a).1<0∨8000<(rd s a).1 then (⟨#[]⟩,0,3)
 else if s.size<(rd s a).2.1+(rd s a).1.toNat then (⟨#[]⟩,0,4)
 else (s.extract (rd s a).2.1 ((rd s a).2.1+(rd s a).1.toNat),(rd s a).2.1+(rd s a).1.toNat,0)
def outT (t:ByteArray) (at_ code:Int):Value:=.agg #[.string t,.int .i64 at_,.int .i64 code]
def textV (s:ByteArray) (a:Int):Value:=outT (rt s a).1 (rt s a).2.1 (rt s a).2.2
theorem rd_place (s:ByteArray) (a:Int) (h:(rd s a).2.2=0):s.size<=8000/\(rd s a).2.1<=s.size:=by
 unfold rd at h ⊢
 split at h
 ·exact absurd h (by decide)
 ·split at h
  ·exact absurd h (by decide)
  ·rename_i h1 h2
   rw[if_neg h1,if_neg h2];exact⟨by omega,run_place s 10 0 a.toNat 0⟩
theorem rt_bad (s:ByteArray) (a n:Int) (p:Nat) (c:Int) (hr:rd s a=(n,p,c)) (h:¬c=0):rt s a=(⟨#[]⟩,0,c):=by
 unfold rt;rw[hr];exact if_pos h
theorem rt_size (s:ByteArray) (a n:Int) (p:Nat) (hr:rd s a=(n,p,0)) (h:n<0∨8000<n):rt s a=(⟨#[]⟩,0,3):=by
 unfold rt;rw[hr];exact(if_neg (by simp)).trans (if_pos h)
theorem rt_short (s:ByteArray) (a:Int) (m p:Nat) (hr:rd s a=((m:Int),p,0)) (h8:m<=8000) (h:s.size<p+m):rt s a=(⟨#[]⟩,0,4):=by
 unfold rt;rw[hr];exact(if_neg (by simp)).trans ((if_neg (by show ¬((m:Int)<0∨8000<(m:Int));omega)).trans (if_pos h))
theorem rt_ok (s:ByteArray) (a:Int) (m p:Nat) (hr:rd s a=((m:Int),p,0)) (h8:m<=8000) (h:¬s.size<p+m):rt s a=(s.extract p (p+m),p+m,0):=by
 unfold rt;rw[hr];exact(if_neg (by simp)).trans ((if_neg (by show ¬((m:Int)<0∨8000<(m:Int));omega)).trans (if_neg h))
theorem getV_of (s:ByteArray) (a n:Int) (p:Nat) (c:Int) (hr:rd s a=(n,p,c)):getV s a=if c=0 then outN n p 0 else outN 0 0 c:=by
 rw[getV_rd,hr]
theorem textV_of (s:ByteArray) (a:Int) (t:ByteArray) (p:Nat) (c:Int) (h:rt s a=(t,p,c)):textV s a=outT t p c:=by
 unfold textV;rw[h]
def tupV (r:ByteArray × Nat × Int):Value:=.tuple #[.string r.1,.int .i64 r.2.1,errV r.2.2]
theorem readText_any (s:ByteArray) (a:Int) (w:World) (hs:s.size<=maxLen) :
  Calls prog 97 #[.string s,.int .i64 a] w fun e w'=>e=.returned (tupV (rt s a))/\Below w.heap.size w w':=by
 obtain⟨⟨n,p,c⟩,hr⟩:∃ r,rd s a=r:=⟨_,rfl⟩;have HR:=hide hr;by_cases h0:c=0
 ·subst h0
  obtain⟨hs8,hp⟩:=rd_place s a (by rw[hr]);rw[hr]at hp
  simp only at hp
  by_cases hn:n<0∨8000<n
  ·have HT:=hide (rt_size s a n p hr hn)
   clear hr;by_cases hneg:n<0
   ·clear hn
    go_enter func97,ntmps97;(go_wp2_with fail);refine(read_any s a _ hs).mono ?_;rw[HR.o];simp only[errV,if_pos];rintro e w' ⟨rfl,hw⟩;subst w'
    go_wp2
    go_ret3
    exact⟨by rw[HT.o];rfl,Below.refl _ _⟩
   ·have hbig:(8000:Int)<n:=by omega
    clear hn;go_enter func97,ntmps97;(go_wp2_with fail);refine(read_any s a _ hs).mono ?_;rw[HR.o];simp only[errV,if_pos];rintro e w' ⟨rfl,hw⟩;subst w'
    go_wp2
    go_ret3
    exact⟨by rw[HT.o];rfl,Below.refl _ _⟩
  ·obtain⟨m,rfl⟩:=Int.eq_ofNat_of_zero_le (show 0<=n from by omega)
   have hm8:m<=8000:=by omega
   have hnb:¬((8000:Int)<m):=by omega
   by_cases hl:s.size<p+m
   ·have HT:=hide (rt_short s a m p hr hm8 hl)
    clear hn hr;go_enter func97,ntmps97;(go_wp2_with fail);refine(read_any s a _ hs).mono ?_;rw[HR.o];simp only[errV,if_pos];rintro e w' ⟨rfl,hw⟩;subst w'
    go_wp2
    go_ret3
    exact⟨by rw[HT.o];rfl,Below.refl _ _⟩
   ·have HT:=hide (rt_ok s a m p hr hm8 hl)
    clear hn hr;go_enter func97,ntmps97;(go_wp2_with fail);refine(read_any s a _ hs).mono ?_;rw[HR.o];simp only[errV,if_pos];rintro e w' ⟨rfl,hw⟩;subst w';(go_wp2_with fail);refine(Nu.cut_any s p (p+m) _ (by omega) (by omega) (by omega)).mono ?_;rintro e w1 ⟨rfl,hb1⟩
    go_wp2
    go_ret3
    exact⟨by rw[HT.o];rfl,hb1⟩
 ·have HT:=hide (rt_bad s a n p c hr h0)
  have H0:=hide h0;go_enter func97,ntmps97
  go_wp2_with fail
  refine(read_any s a _ hs).mono ?_;rw[HR.o];simp only[errV,if_neg h0];clear hr h0;rintro e w' ⟨rfl,hw⟩;subst w'
  go_wp2
  go_ret3
  exact⟨by rw[HT.o];simp only[tupV,errV,if_neg H0.o];rfl,Below.refl _ _⟩
theorem rt_codes (s:ByteArray) (a:Int) (h:¬(rt s a).2.2=0):(rt s a).1=⟨#[]⟩/\(rt s a).2.1=0:=by
 unfold rt at h ⊢
 split at h
 ·rename_i h1;rw[if_pos h1];exact⟨rfl,rfl⟩
 ·rename_i h1
  rw[if_neg h1]
  split at h
  ·rename_i h2;rw[if_pos h2];exact⟨rfl,rfl⟩
  ·rename_i h2
   rw[if_neg h2]
   split at h
   ·rename_i h3;rw[if_pos h3];exact⟨rfl,rfl⟩
   ·exact absurd rfl h
theorem text_impl (s:ByteArray) (a:Int) (w:World) (hs:s.size<=maxLen) (hg:w.cell? ⟨2,0,none⟩=some handle) :
  Calls prog 67 #[.string s,.int .i64 a] w fun e w'=>e=.returned (textV s a)/\Below w.heap.size w w':=by
 have HG:=hide hg;clear hg;obtain⟨⟨t,p,c⟩,hr⟩:∃ r,rt s a=r:=⟨_,rfl⟩;have HR:=hide hr;by_cases h0:c=0
 ·subst h0
  have HT:=hide (textV_of s a t p 0 hr);clear hr;go_enter func67,ntmps67
  go_wp2_with fail
  refine(readText_any s a _ hs).mono ?_;rw[HR.o];simp only[tupV,errV,if_pos];rintro e w1 ⟨rfl,hb1⟩;obtain⟨hc1,hf1⟩:=bcell hb1
  go_wp2
  refine bodyPost_ret (v:=outT t p 0) (by simp[results,outT,results67,go_sem,hc1]) rfl ⟨by rw[HT.o],?_⟩;exact((((Below.refl w.heap.size w).alloc nl _).trans (hb1.mono (by simp))).setCell nl _ |>.setCell nl _).setCell nl _
 ·have hz:=rt_codes s a (by rw[hr];exact h0)
  rw[hr]at hz
  simp only at hz
  obtain⟨rfl,rfl⟩:=hz;have HT:=hide (textV_of s a _ _ c hr);clear hr;go_enter func67,ntmps67
  go_wp2_with fail
  refine(readText_any s a _ hs).mono ?_;rw[HR.o];simp only[tupV,errV,if_neg h0];clear h0;rintro e w1 ⟨rfl,hb1⟩;obtain⟨hc1,hf1⟩:=bcell hb1
  have hz1:w.heap.size<w1.heap.size:=by have:=hb1.size;simp at this;omega
  have HB1:=hide (((Below.refl w.heap.size w).alloc nl _).trans (hb1.mono (by simp)))
  go_wp2_with fail
  refine(code_any c _ (handle_below HB1.o HG.o)).mono ?_;rintro e w2 ⟨rfl,hb2⟩;obtain⟨hc2,hf2⟩:=bcell hb2
  go_wp2
  refine bodyPost_ret (v:=outT ⟨#[]⟩ 0 c) (by simp[results,outT,results67,go_sem,hc1,hc2,hz1]) rfl ⟨by rw[HT.o];rfl,?_⟩;exact((((HB1.o).trans (hb2.mono HB1.o.size)).setCell nl _).setCell nl _).setCell nl _
end Gn
namespace Nm2
open Nu Go.Proofs.YtaejgfdkfcmjeaaGreatDoor.Gn
theorem getD_mid (pre l post:List UInt8) (j:Nat) (h:j<l.length):(pre++(l++post)).getD (pre.length+j) 0=l.getD j 0:=by
 rw[List.getD_eq_getElem?_getD,List.getD_eq_getElem?_getD,List.getElem?_append_right (by omega),List.getElem?_append_left (by omega)]
 congr 2
 omega
theorem numH_get (U K j:Nat) (hj:j<K):(numH U K).getD j 0=UInt8.ofNat (U/128 ^ j%128+128):=by
 rw[List.getD_eq_getElem?_getD];simp[numH,hj]
theorem numL_get (U K j:Nat) (hj:j<K):(numL U K).getD j 0=UInt8.ofNat (U/128 ^ j%128+128):=by
 rw[<-numH_get U K j hj,List.getD_eq_getElem?_getD,List.getD_eq_getElem?_getD];unfold numL;rw[List.getElem?_append_left (by rw[numH_length];exact hj)]
theorem numL_last (U K:Nat):(numL U K).getD K 0=UInt8.ofNat (U/128 ^ K):=by
 rw[List.getD_eq_getElem?_getD];unfold numL;rw[List.getElem?_append_right (by rw[numH_length];omega),numH_length];simp
theorem size_of (s:ByteArray):s.size=s.data.toList.length:=by rw[Array.length_toList];rfl
theorem mid (s:ByteArray) (U:Nat) (pre post:List UInt8) (hU:U<18446744073709551616) (h:s.data.toList=pre++(numB U++post)) :
  numR s pre.length=(U,pre.length+(numB U).length,0):=by
 obtain⟨hK,hall,hlast⟩:=cnt_spec U hU;have hn:numB U=numL U (cnt 9 U):=rfl
 have hlen:(numB U).length=cnt 9 U+1:=by rw[hn,numL_length]
 have hsz:s.size=pre.length+(cnt 9 U+1)+post.length:=by rw[size_of,h];simp[hlen];omega
 have hd:=dec s U pre.length (cnt 9 U) hU hK hall hlast (by omega)
  (fun j hj=>by
   unfold byteN
   rw[h,getD_mid pre _ post j (by omega),hn,numL_get _ _ _ hj,UInt8.toNat_ofNat',Nat.mod_eq_of_lt (by omega)])
  (by
   unfold byteN
   rw[h,getD_mid pre _ post _ (by omega),hn,numL_last,UInt8.toNat_ofNat',Nat.mod_eq_of_lt (by omega)])
  (cnt 9 U) 0 (by omega) (by omega)
 rw[Nat.pow_zero,Nat.mod_one]at hd;rw[hlen];exact hd
theorem putS_list (n:Int):(putS n).data.toList=numB (zz n):=rfl
theorem putS_len (n:Int):(putS n).size=(numB (zz n)).length:=by rw[size_of,putS_list]
theorem putS_pos (n:Int):1<=(putS n).size:=by rw[putS_len];exact(numB_length (zz n)).2
theorem rd_of (s:ByteArray) (a u p:Nat) (c:Int) (hs:s.size<=8000) (h:numR s a=(u,p,c)):rd s (a:Int)=(unz u,p,c):=by
 unfold rd;rw[if_neg (by omega),if_neg (by omega),Int.toNat_natCast,h]
theorem num_back (s:ByteArray) (n:Int) (pre post:List UInt8) (h1:-9223372036854775808<=n) (h2:n<=9223372036854775807) (hs:s.size<=8000)
  (h:s.data.toList=pre++(numB (zz n)++post)):rd s (pre.length:Int)=(n,pre.length+(putS n).size,0):=by
 rw[rd_of s pre.length _ _ _ hs (mid s (zz n) pre post (zz_lt n h1 h2) h),unz_zz,putS_len]
theorem extract_list (s:ByteArray) (a b:Nat):(s.extract a b).data.toList=(s.data.toList.drop a).take (b-a):=by
 rw[ByteArray.data_extract,Array.toList_extract,List.extract_eq_take_drop]
theorem putT_some (u:ByteArray) (h:u.size<=8000):putT u=putS (u.size:Int)++u:=by unfold putT;rw[if_pos h]
theorem putT_list (u:ByteArray) (h:u.size<=8000):(putT u).data.toList=numB (zz (u.size:Int))++u.data.toList:=by
 rw[putT_some u h,ByteArray.data_append,Array.toList_append,putS_list]
theorem putT_size (u:ByteArray) (h:u.size<=8000):(putT u).size=(putS (u.size:Int)).size+u.size:=by
 rw[putT_some u h,ByteArray.size_append]
theorem ba_ext {a b:ByteArray} (h:a.data.toList=b.data.toList):a=b:=by
 cases a;cases b
 simp only[ByteArray.mk.injEq];exact Array.toList_inj.1 h
theorem text_back (s u:ByteArray) (pre:List UInt8) (hu:u.size<=8000) (hs:s.size<=8000) (h:s.data.toList=pre++(putT u).data.toList) :
  textV s (pre.length:Int)=outT u ((pre.length+(putT u).size:Nat):Int) 0:=by
 have hl:s.data.toList=pre++(numB (zz (u.size:Int))++u.data.toList):=by rw[h,putT_list u hu]
 have hr:=num_back s (u.size:Int) pre u.data.toList (by omega) (by omega) hs hl
 have hz:s.size=pre.length+(putS (u.size:Int)).size+u.size:=by
  rw[size_of s,hl,putS_len,size_of u];simp;omega
 have he:s.extract (pre.length+(putS (u.size:Int)).size) (pre.length+(putS (u.size:Int)).size+u.size)=u:=by
  apply ba_ext
  rw[extract_list,hl,<-List.append_assoc,List.drop_left' (by rw[List.length_append,putS_len]),List.take_of_length_le (by rw[<-size_of];omega)]
 rw[textV_of s _ _ _ _ (rt_ok s _ u.size _ hr hu (by omega)),he,putT_size u hu,Nat.add_assoc]
end Nm2
namespace Bi
open In (Ints)
def sumR (l:List Int):Int × Int:=if right l=true then ((csum l:Nat),(above l:Nat)) else (-1,0)
theorem sumR_yes {l:List Int} (h:right l=true):sumR l=(((csum l:Nat):Int),((above l:Nat):Int)):=if_pos h
theorem sumR_no {l:List Int} (h:right l=false):sumR l=(-1,0):=if_neg (by rw[h];decide)
theorem good12 {l:List Int} {k:Nat} (hk:l.length<=k) (h:∀ j (hj:j<l.length),j<k->0<=l[j]/\l[j]<=12):∀ x∈l,0<=x/\x<=12:=by
 intro x hx;obtain⟨j,hj,rfl⟩:=List.getElem_of_mem hx;exact h j hj (by omega)
theorem good_more {l:List Int} {k:Nat} (hk:k<l.length) (h:∀ j (hj:j<l.length),j<k->0<=l[j]/\l[j]<=12) (h2:0<=l[k]/\l[k]<=12):∀ j (hj:j<l.length),j<k+1->0<=l[j]/\l[j]<=12:=by
 intro j hj hjk;by_cases e:j=k
 ·subst e;exact h2
 ·exact h j hj (by omega)
theorem sum_spec (l:List Int) (a:Option Addr) (cap B:Nat) (w:World) (hi:Ints w B a l) (hn:l.length<=400) :
  Calls prog 215 #[.slice a l.length cap] w fun e w'=>e=.returned (.tuple #[.int .i64 (sumR l).1,.int .i64 (sumR l).2])/\w'=w:=by
 have HS:=hideB hi;clear hi;obtain⟨n,hln⟩:∃ n,n=l.length:=⟨_,rfl⟩;have HLN:=hideB hln;rw[<-hln]at hn ⊢;clear hln;have HP12:=hideB (pow_any 12 w (by decide));obtain⟨r,hr⟩:∃ r,r=sumR l:=⟨_,rfl⟩;rw[<-hr];have HR:=hideB hr;clear hr;go_enter func215,ntmps215
 go_wp2_with fail
 go_loopw [6,4,5] (fun i v u wr=>∃ k s c:Nat,i=.int .i64 k/\v=.int .i64 s/\u=.int .i64 c/\k<=n/\s=csum (l.take k)/\c=above (l.take k)/\s<=4096*k/\c<=k/\(∀ j (hj:j<l.length),j<k->0<=l[j]/\l[j]<=12)/\wr=w) (fun i _ _ _=>n-(intOf i).toNat)
 case atStart=>exact⟨0,0,0,rfl,rfl,rfl,Nat.zero_le _,by simp[csum],by simp[above],by omega,by omega,fun j hj h0=>absurd h0 (Nat.not_lt_zero j),rfl⟩
 case round =>
  obtain⟨k,s,c,rfl,rfl,rfl,hk,hs,hc',hsb,hcb,hall,hw⟩:=hrel;subst hw;have HC:=hideB hs;have HD:=hideB hc';have HA:=hideB hall;clear hs hc' hall;by_cases hlt:k<n
  ·have hkl:k<l.length:=by rw[<-HLN.o];exact hlt
   obtain⟨b,off,rfl,hb,hc⟩:=HS.o.some (by omega);have ci:=hc k hkl;have HM:=hideB (csum_more hkl);have HM':=hideB (above_more hkl);have HGM:=hideB (good_more hkl HA.o);obtain⟨x,hx⟩:∃ x,x=l[k]:=⟨_,rfl⟩;have HX:=hideB hx;rw[<-hx]at ci HM HM' HGM;clear hc hx;by_cases h0:0<=x/\x<=12
   ·have HI:=hideB (is_yes x 0 12 wr h0.1 h0.2)
    by_cases hpos:0<x
    ·obtain⟨m,rfl,hm1,hm2,hp⟩:=part_pos x hpos h0.2
     obtain⟨d,hd⟩:∃ d:Nat,d=12-m:=⟨_,rfl⟩;have hdi:(12:Int)-m=d:=(by omega);have HQ:=hideB (pow_any d wr (by omega));rw[<-hd]at hp;have hp2:2 ^ d<=4096:=(by have:=part_le (m:Int);rw[hp]at this;exact this);have HP:=hideB hp
     have HM2:Hid (above (l.take (k+1))=c+1):=by
      unfold Hid;rw[HM'.o,if_pos hpos,HD.o]
     clear hp hd;generalize 2 ^ d=pm at hp2 HP HQ;(go_wp2_with fail);refine HI.o.mono ?_;rintro e w' ⟨rfl,hw⟩;subst w';(go_wp2_with fail);refine HQ.o.mono ?_;rintro e w' ⟨rfl,hw⟩;subst w';(go_wp2_with fail)
     go_roundw
     case rel=>exact⟨k+1,s+pm,c+1,by go_num,by go_num,by go_num,by omega,by rw[HM.o,HP.o,HC.o],HM2.o.symm,by omega,by omega,HGM.o h0,trivial⟩
     case measure=>simp[intOf];omega
    ·have HP:=hideB (part_none x hpos)
     have HM2:Hid (above (l.take (k+1))=c):=by
      unfold Hid;rw[HM'.o,if_neg hpos,HD.o];rfl
     (go_wp2_with fail);refine HI.o.mono ?_;rintro e w' ⟨rfl,hw⟩;subst w';(go_wp2_with fail)
     go_roundw
     case rel=>exact⟨k+1,s,c,by go_num,rfl,rfl,by omega,by rw[HM.o,HP.o,HC.o];rfl,HM2.o.symm,by omega,by omega,HGM.o h0,trivial⟩
     case measure=>simp[intOf];omega
   ·have HI:=hideB (is_no x 0 12 wr (by omega))
    have HE:Hid (r=(-1,0)):=by
     unfold Hid;rw[HR.o];exact sumR_no (right_no (Or.inl (within_bad (m:=12) hkl (by rw[<-HX.o];omega))))
    clear h0;(go_wp2_with fail);refine HI.o.mono ?_;rintro e w' ⟨rfl,hw⟩;subst w';(go_wp2_with fail);go_ret2;exact⟨by rw[HE.o];rfl,rfl⟩
  ·have HS2:Hid (s=csum l):=by
    unfold Hid;rw[HC.o,List.take_of_length_le (by have:=HLN.o;omega)]
   have HC2:Hid (c=above l):=by
    unfold Hid;rw[HD.o,List.take_of_length_le (by have:=HLN.o;omega)]
   have HG:=hideB (good12 (by have:=HLN.o;omega) HA.o);by_cases hlong:257<n
   ·have HE:Hid (r=(-1,0)):=by
     unfold Hid;rw[HR.o];exact sumR_no (right_no (Or.inl (within_long (by have:=HLN.o;omega))))
    have hl':(257:Int)<n:=by omega
    (go_wp2_with fail);go_ret2;exact⟨by rw[HE.o];rfl,rfl⟩
   ·have hl':decide ((257:Int)<n)=false:=decide_eq_false (by omega)
    have HW:Hid (within l 12=true):=within_of (by have:=HLN.o;omega) HG.o;by_cases hbig:4096<s
    ·have HE:Hid (r=(-1,0)):=by
      unfold Hid;rw[HR.o];exact sumR_no (right_no (Or.inr (by rw[<-HS2.o];omega)))
     (go_wp2_with fail);refine HP12.o.mono ?_;rintro e w' ⟨rfl,hw⟩;subst w';(go_wp2_with fail);go_ret2;exact⟨by rw[HE.o];rfl,rfl⟩
    ·have HE:Hid (r=((s:Int),(c:Int))):=by
      unfold Hid;rw[HR.o,HS2.o,HC2.o];exact sumR_yes (right_of HW.o (by rw[<-HS2.o];omega))
     have hb':decide ((4096:Int)<s)=false:=decide_eq_false (by omega);(go_wp2_with fail);refine HP12.o.mono ?_;rintro e w' ⟨rfl,hw⟩;subst w';(go_wp2_with fail);go_ret2;exact⟨by rw[HE.o];rfl,rfl⟩
theorem whole_yes1 {l:List Int} (h:right l=true) (h1:csum l=4096):whole l=true:=by unfold whole;rw[h,decide_eq_true h1];rfl
theorem whole_yes2 {l:List Int} (h:right l=true) (h1:above l=1) (h2:csum l=2048):whole l=true:=by unfold whole;rw[h,decide_eq_true h1,decide_eq_true h2];simp
theorem whole_no1 {l:List Int} (h1:¬csum l=4096) (h2:¬above l=1):whole l=false:=by unfold whole;rw[decide_eq_false h1,decide_eq_false h2];simp
theorem whole_no2 {l:List Int} (h1:¬csum l=4096) (h2:¬csum l=2048):whole l=false:=by unfold whole;rw[decide_eq_false h1,decide_eq_false h2];simp
theorem l04Whole_any (l:List Int) (a:Option Addr) (cap B:Nat) (w:World) (hi:Ints w B a l) (hn:l.length<=400) :
  Calls prog 185 #[.slice a l.length cap] w fun e w'=>e=.returned (.bool (whole l))/\w'=w:=by
 have HS:=hideB (sum_spec l a cap B w hi hn);have HP12:=hideB (pow_any 12 w (by decide));have HP11:=hideB (pow_any 11 w (by decide));clear hi
 cases hr:right l with
 |false =>
  have HE:=hideB (whole_no hr);rw[sumR_no hr]at HS;generalize l.length=n at HS hn ⊢;generalize whole l=wl at HE ⊢;go_enter func185,ntmps185
  go_wp2_with fail
  refine HS.o.mono ?_;rintro e w' ⟨rfl,hw⟩;subst w'
  go_wp2_with fail
  refine HP12.o.mono ?_;rintro e w' ⟨rfl,hw⟩;subst w'
  go_wp2_with fail
  go_ret;exact⟨ret_boolB HE.o.symm,rfl⟩
 |true =>
  rw[sumR_yes hr]at HS;by_cases h1:csum l=4096
  ·have HE:=hideB (whole_yes1 hr h1)
   rw[h1]at HS;generalize l.length=n at HS hn ⊢;generalize whole l=wl at HE ⊢;generalize above l=ab at HS;clear h1;go_enter func185,ntmps185
   go_wp2_with fail
   refine HS.o.mono ?_;rintro e w' ⟨rfl,hw⟩;subst w'
   go_wp2_with fail
   refine HP12.o.mono ?_;rintro e w' ⟨rfl,hw⟩;subst w'
   go_wp2_with fail
   go_ret;exact⟨ret_boolB HE.o.symm,rfl⟩
  ·by_cases h2:above l=1
   ·by_cases h3:csum l=2048
    ·have HE:=hideB (whole_yes2 hr h2 h3)
     rw[h3,h2]at HS;generalize l.length=n at HS hn ⊢;generalize whole l=wl at HE ⊢;clear h1 h2 h3;go_enter func185,ntmps185;(go_wp2_with fail);refine HS.o.mono ?_;rintro e w' ⟨rfl,hw⟩;subst w';(go_wp2_with fail);refine HP12.o.mono ?_;rintro e w' ⟨rfl,hw⟩;subst w';(go_wp2_with fail);refine HP11.o.mono ?_;rintro e w' ⟨rfl,hw⟩;subst w';(go_wp2_with fail);go_ret;exact⟨ret_boolB HE.o.symm,rfl⟩
    ·have HE:=hideB (whole_no2 h1 h3)
     rw[h2]at HS;have g1:(((csum l:Nat):Int)==4096)=false:=beq_eq_false_iff_ne.2 (by omega);have g3:(((csum l:Nat):Int)==2048)=false:=beq_eq_false_iff_ne.2 (by omega);generalize l.length=n at HS hn ⊢;generalize whole l=wl at HE ⊢;generalize csum l=cs at HS g1 g3;clear h1 h2 h3;go_enter func185,ntmps185;(go_wp2_with fail);refine HS.o.mono ?_;rintro e w' ⟨rfl,hw⟩;subst w';(go_wp2_with fail);refine HP12.o.mono ?_;rintro e w' ⟨rfl,hw⟩;subst w';(go_wp2_with fail);refine HP11.o.mono ?_;rintro e w' ⟨rfl,hw⟩;subst w';(go_wp2_with fail);go_ret;exact⟨ret_boolB HE.o.symm,rfl⟩
   ·have HE:=hideB (whole_no1 h1 h2)
    have g1:(((csum l:Nat):Int)==4096)=false:=beq_eq_false_iff_ne.2 (by omega);have g2:(((above l:Nat):Int)==1)=false:=beq_eq_false_iff_ne.2 (by omega);generalize l.length=n at HS hn ⊢;generalize whole l=wl at HE ⊢;generalize csum l=cs at HS g1;generalize above l=ab at HS g2;clear h1 h2;go_enter func185,ntmps185;(go_wp2_with fail);refine HS.o.mono ?_;rintro e w' ⟨rfl,hw⟩;subst w';(go_wp2_with fail);refine HP12.o.mono ?_;rintro e w' ⟨rfl,hw⟩;subst w';(go_wp2_with fail);go_ret;exact⟨ret_boolB HE.o.symm,rfl⟩
theorem whole_impl (l:List Int) (a:Option Addr) (cap B:Nat) (w:World) (hi:Ints w B a l) (hn:l.length<=1048576) :
  Calls prog 165 #[.slice a l.length cap] w fun e w'=>e=.returned (.bool (whole l))/\w'=w:=by
 have HR:=hideB (right_impl l a cap B w hi hn);have HC:=hideB (count_impl l a cap B w hi hn);have HK:=hideB (contains_impl l 1 a cap B w hi hn)
 cases hr:right l with
 |false =>
  have HE:=hideB (whole_no hr);rw[hr]at HR;clear hi;generalize l.length=n at HR hn ⊢;generalize whole l=wl at HE ⊢;go_enter func165,ntmps165
  go_wp2_with fail
  refine HR.o.mono ?_;rintro e w' ⟨rfl,hw⟩;subst w'
  go_wp2_with fail
  go_ret;exact⟨ret_boolB HE.o.symm,rfl⟩
 |true =>
  have HS:=hideB (sum_impl l a cap B w hi (right_yes hr).1);rw[hr]at HR;clear hi;by_cases h2:above l=1
  ·rw[alone l h2]at HK
   rw[h2]at HC;by_cases h3:csum l=2048
   ·have HE:=hideB (whole_yes2 hr h2 h3)
    rw[decide_eq_true h3]at HK;generalize l.length=n at HR HC HK HS hn ⊢;generalize whole l=wl at HE ⊢;clear h2 h3 hr HS;go_enter func165,ntmps165;(go_wp2_with fail);refine HR.o.mono ?_;rintro e w' ⟨rfl,hw⟩;subst w';(go_wp2_with fail);refine HC.o.mono ?_;rintro e w' ⟨rfl,hw⟩;subst w';(go_wp2_with fail);refine HK.o.mono ?_;rintro e w' ⟨rfl,hw⟩;subst w';(go_wp2_with fail);go_ret;exact⟨ret_boolB HE.o.symm,rfl⟩
   ·have HE:Hid (whole l=decide (csum l=4096)):=by
     unfold Hid;by_cases h4:csum l=4096
     ·rw[whole_yes1 hr h4,decide_eq_true h4]
     ·rw[whole_no2 h4 h3,decide_eq_false h4]
    rw[decide_eq_false h3]at HK
    have HD:Hid (((((csum l:Nat):Int))==4096)=decide (csum l=4096)):=by
     unfold Hid;rw[Bool.eq_iff_iff];simp;omega
    generalize decide (csum l=4096)=dc at HE HD;generalize l.length=n at HR HC HK HS hn ⊢;generalize whole l=wl at HE ⊢;generalize csum l=cs at HS HD;clear h2 h3 hr;go_enter func165,ntmps165;(go_wp2_with fail);refine HR.o.mono ?_;rintro e w' ⟨rfl,hw⟩;subst w';(go_wp2_with fail);refine HC.o.mono ?_;rintro e w' ⟨rfl,hw⟩;subst w';(go_wp2_with fail);refine HK.o.mono ?_;rintro e w' ⟨rfl,hw⟩;subst w';(go_wp2_with fail);refine HS.o.mono ?_;rintro e w' ⟨rfl,hw⟩;subst w';(go_wp2_with fail);go_ret;exact⟨ret_boolB (HD.o.trans HE.o.symm),rfl⟩
  ·have HE:Hid (whole l=decide (csum l=4096)):=by
    unfold Hid;by_cases h4:csum l=4096
    ·rw[whole_yes1 hr h4,decide_eq_true h4]
    ·rw[whole_no1 h4 h2,decide_eq_false h4]
   have g2:(((above l:Nat):Int)==1)=false:=beq_eq_false_iff_ne.2 (by omega)
   have HD:Hid (((((csum l:Nat):Int))==4096)=decide (csum l=4096)):=by
    unfold Hid;rw[Bool.eq_iff_iff];simp;omega
   generalize decide (csum l=4096)=dc at HE HD;generalize l.length=n at HR HC HK HS hn ⊢;generalize whole l=wl at HE ⊢;generalize csum l=cs at HS HD;generalize above l=ab at HC g2;clear h2 hr HK;go_enter func165,ntmps165
   go_wp2_with fail
   refine HR.o.mono ?_;rintro e w' ⟨rfl,hw⟩;subst w'
   go_wp2_with fail
   refine HC.o.mono ?_;rintro e w' ⟨rfl,hw⟩;subst w'
   go_wp2_with fail
   refine HS.o.mono ?_;rintro e w' ⟨rfl,hw⟩;subst w'
   go_wp2_with fail
   go_ret;exact⟨ret_boolB (HD.o.trans HE.o.symm),rfl⟩
end Bi
namespace Bi
open In (Ints)
open St (IsS made_strs OwnIn IsO)
open St.Tryz (infoS9)
theorem below2 {w w1 w2:World} (h:Below w.heap.size w w1) (h2:Below w1.heap.size w1 w2):Below w.heap.size w w2:=h.trans (h2.mono h.size)
theorem codes_spec (l:List Int) (a:Option Addr) (cap B:Nat) (w:World) (hi:Ints w B a l) (hB:B<=w.heap.size) (hr:right l=true) :
  Calls prog 178 #[.slice a l.length cap] w fun e w'=>e=.returned (.slice (some ⟨w.heap.size,0,none⟩) l.length l.length)/\IsS w' w.heap.size 9 (codesV l)/\Below w.heap.size w w':=by
 obtain⟨i0,hi0,hz0,hz1,hz2⟩:=info_parts infoS9;have HS:=hideB (hi.mono hB);have HCS:=hideB (right_yes hr).2;have hn:=(within_yes (right_yes hr).1).1;clear hi hr;obtain⟨n,hln⟩:∃ n,n=l.length:=⟨_,rfl⟩;have HLN:=hideB hln;rw[<-hln]at hn ⊢;clear hln;go_enter func178,ntmps178
 go_wp2_with (at_make;refine wpList_make_full _ rfl (.tmp 8) (.tmp 8) 34 rfl w.heap.size 9 i0 (.string ⟨#[]⟩) 1 underlying34 hi0 hz0 hz1 .i64 .i64 _ _ n rfl rfl (by simp) (by simp) (by rw[hz2];omega) (by unfold maxLen;omega) nl ?_;intro w1 hown1 hgrow1;have HR:=hideB (made_strs hown1);have HB:=hideB ((Below.refl w.heap.size w).grown hgrow1 nl (by simp));clear hown1 hgrow1)
 go_loopw [5,4] (fun i m wr=>∃ v:Nat,i=.int .i64 ((v:Int)+1)/\m=.int .i64 (outN l v:Nat)/\v<=12/\IsS wr w.heap.size 9 (outO l v)/\Below w.heap.size w wr) (fun i _ _=>13-(intOf i).toNat)
 case atStart=>exact⟨0,rfl,rfl,by omega,by simp only[outO];rw[<-HLN.o];exact HR.o,HB.o⟩
 case round =>
  obtain⟨v,rfl,rfl,hv,h1,hbel⟩:=hrel;have G1:=hideB h1;have GB:=hideB hbel;clear h1 hbel;have ho:=out_small HCS.o hv;have HOL:=hideB (outO_length l v);by_cases hv12:v<12
  ·have HN0:Hid (innN l (v+1) (2*outN l v) 0=2*outN l v):=innN_zero l (v+1) (2*outN l v)
   have HNA:=hideB (innN_all l v);have HNL:=hideB (innN_le l (v+1) (2*outN l v));have HNF:=hideB (fun (k:Nat) (hk:k<l.length) (e:l[k]=((v+1:Nat):Int))=>inn_fits HCS.o hv12 hk e);have HNY:=hideB (fun (k:Nat) (hk:k<l.length) (e:l[k]=((v+1:Nat):Int))=>innN_yes (n0:=2*outN l v) hk e);have HNN:=hideB (fun (k:Nat) (hk:k<l.length) (e:¬l[k]=((v+1:Nat):Int))=>innN_no (n0:=2*outN l v) hk e);have HOY:=hideB (fun (k:Nat) (hk:k<l.length) (e:l[k]=((v+1:Nat):Int))=>innO_yes (n0:=2*outN l v) (o:=outO l v) hk e);have HON:=hideB (fun (k:Nat) (hk:k<l.length) (e:¬l[k]=((v+1:Nat):Int))=>innO_no (n0:=2*outN l v) (o:=outO l v) hk e);have HOO:Hid (innO l (v+1) (2*outN l v) (outO l v) l.length=outO l (v+1)):=rfl;have HIL:=hideB (innO_length l (v+1) (2*outN l v) (outO l v))
   have hpw:2 ^ (v+1)<=4096:=by
    have:=Nat.pow_le_pow_right (n:=2) (by decide) (show v+1<=12 by omega)
    omega
   have HPW:Hid (∀ x:Nat,x<2 ^ (v+1)->x<4096):=fun x hx=>by omega
   clear hpw;generalize outN l v=no at ho HN0 HNA HNL HNF HNY HNN HOY HON HOO HIL
   have hv13:(v:Int)+1<=12:=by omega
   go_wp2_with fail
   go_loopw [6,4] (fun i m wr2=>∃ k q:Nat,i=.int .i64 k/\m=.int .i64 q/\q=innN l (v+1) (2*no) k/\k<=n/\IsS wr2 w.heap.size 9 (innO l (v+1) (2*no) (outO l v) k)/\Below w.heap.size w wr2) (fun i _ _=>n-(intOf i).toNat)
   case atStart=>exact⟨0,2*no,rfl,by go_num,HN0.o.symm,by omega,G1.o,GB.o⟩
   case round =>
    obtain⟨k,q,rfl,rfl,hq,hk,h2,hbel2⟩:=hrel;have G2:=hideB h2;have GB2:=hideB hbel2;have HQ:=hideB hq;clear h2 hbel2 hq;by_cases hlt:k<n
    ·have hkl:k<l.length:=by rw[<-HLN.o];exact hlt
     obtain⟨b,off,rfl,hb,hc⟩:=(HS.o.below GB2.o).some (by omega);have ci:=hc k hkl
     have hqb:q<=2*no+257:=by
      have:=HNL.o k
      rw[<-HQ.o,<-HLN.o]at this;omega
     obtain⟨x,hx⟩:∃ x,x=l[k]:=⟨_,rfl⟩;have HX:=hideB hx;rw[<-hx]at ci;clear hc hx;by_cases e:x=(v:Int)+1
     ·have hb1:(x==(v:Int)+1)=true:=beq_iff_eq.2 e
      have HXE:Hid (l[k]=((v+1:Nat):Int)):=by
       unfold Hid;rw[<-HX.o,e];rfl
      have HF:Hid (q<2 ^ (v+1)):=by
       unfold Hid;rw[HQ.o];exact HNF.o k hkl HXE.o
      have hq4:=HPW.o q HF.o
      have HNK:Hid (q+1=innN l (v+1) (2*no) (k+1)):=by
       unfold Hid;rw[HNY.o k hkl HXE.o,HQ.o]
      have HOK:Hid (innO l (v+1) (2*no) (outO l v) (k+1)=(innO l (v+1) (2*no) (outO l v) k).set k (bitsV q (v+1))):=by
       unfold Hid;rw[HOY.o k hkl HXE.o,HQ.o]
      have HBI:=hideB (fun W=>bits_spec q (v+1) W (by omega) (by omega) (by omega));clear e;(go_wp2_with fail);refine(HBI.o _).mono ?_;rintro e w2 ⟨rfl,hb2⟩;have G3:=hideB (G2.o.below hb2 G2.o.lt);have B3:=hideB (below2 GB2.o hb2);have cf:=G3.o.frozen k;obtain⟨v0,ce⟩:∃ v0,w2.cell? ⟨w.heap.size,k,none⟩=some (.string v0):=⟨_,G3.o.cell (j:=k) (by rw[HIL.o,HOL.o];exact hkl)⟩;clear hb2;(go_wp2_with fail)
      go_roundw
      case rel=>exact⟨k+1,q+1,by go_num,by go_num,HNK.o,by omega,by rw[HOK.o];exact G3.o.set k _,B3.o.setCell nl _⟩
      case measure=>simp[intOf];omega
     ·have hb1:(x==(v:Int)+1)=false:=beq_eq_false_iff_ne.2 e
      have HXE:Hid (¬l[k]=((v+1:Nat):Int)):=by
       unfold Hid;rw[<-HX.o];exact e
      have HNK:Hid (q=innN l (v+1) (2*no) (k+1)):=by
       unfold Hid;rw[HNN.o k hkl HXE.o,HQ.o]
      have HOK:Hid (innO l (v+1) (2*no) (outO l v) (k+1)=innO l (v+1) (2*no) (outO l v) k):=HON.o k hkl HXE.o;clear e;(go_wp2_with fail)
      go_roundw
      case rel=>exact⟨k+1,q,by go_num,rfl,HNK.o,by omega,by rw[HOK.o];exact G2.o,GB2.o⟩
      case measure=>simp[intOf];omega
    ·have hkn:k=l.length:=by have:=HLN.o;omega
     have HQE:Hid (q=outN l (v+1)):=by
      unfold Hid;rw[HQ.o,hkn];exact HNA.o
     have HOE:Hid (innO l (v+1) (2*no) (outO l v) k=outO l (v+1)):=by
      unfold Hid;rw[hkn];exact HOO.o
     have hqb:q<=4096:=by
      rw[HQE.o];exact out_small HCS.o (by omega)
     clear hkn;(go_wp2_with fail)
     go_roundw
     case rel=>exact⟨v+1,by go_num,by rw[<-HQE.o],by omega,by rw[<-HOE.o];exact G2.o,GB2.o⟩
     case measure=>simp[intOf];omega
  ·obtain rfl:v=12:=by omega
   go_wp2_with fail
   go_ret;exact⟨rfl,G1.o,GB.o⟩
theorem codes_yes (l:List Int) (a:Option Addr) (cap B:Nat) (w:World) (hi:Ints w B a l) (hB:B<=w.heap.size) (hr:right l=true) :
  Calls prog 166 #[.slice a l.length cap] w fun e w'=>e=.returned (.slice (some ⟨w.heap.size,0,none⟩) l.length l.length)/\IsS w' w.heap.size 9 (codesV l)/\Below w.heap.size w w':=by
 obtain⟨i0,hi0,hz0,hz1,hz2⟩:=info_parts infoS9;have HS:=hideB (hi.mono hB);have HRI:=hideB (right_impl l a cap B w hi (by have:=(within_yes (right_yes hr).1).1;omega));rw[hr]at HRI;have HCS:=hideB (right_yes hr).2;have hn:=(within_yes (right_yes hr).1).1;clear hi hr;obtain⟨n,hln⟩:∃ n,n=l.length:=⟨_,rfl⟩;have HLN:=hideB hln;rw[<-hln]at hn HRI ⊢;clear hln;go_enter func166,ntmps166
 go_wp2_with fail
 refine HRI.o.mono ?_;rintro e w' ⟨rfl,hw⟩;subst w'
 go_wp2_with (at_make;refine wpList_make_full _ rfl (.tmp 12) (.tmp 12) 34 rfl w.heap.size 9 i0 (.string ⟨#[]⟩) 1 underlying34 hi0 hz0 hz1 .i64 .i64 _ _ n rfl rfl (by simp) (by simp) (by rw[hz2];omega) (by unfold maxLen;omega) nl ?_;intro w1 hown1 hgrow1;have HR:=hideB (made_strs hown1);have HB:=hideB ((Below.refl w.heap.size w).grown hgrow1 nl (by simp));clear hown1 hgrow1)
 go_loopw [5,4] (fun i m wr=>∃ v:Nat,i=.int .i64 ((v:Int)+1)/\m=.int .i64 (outN l v:Nat)/\v<=12/\IsS wr w.heap.size 9 (outO l v)/\Below w.heap.size w wr) (fun i _ _=>13-(intOf i).toNat)
 case atStart=>exact⟨0,rfl,rfl,by omega,by simp only[outO];rw[<-HLN.o];exact HR.o,HB.o⟩
 case round =>
  obtain⟨v,rfl,rfl,hv,h1,hbel⟩:=hrel;have G1:=hideB h1;have GB:=hideB hbel;clear h1 hbel;have ho:=out_small HCS.o hv;have HOL:=hideB (outO_length l v);by_cases hv12:v<12
  ·have HN0:Hid (innN l (v+1) (2*outN l v) 0=2*outN l v):=innN_zero l (v+1) (2*outN l v)
   have HNA:=hideB (innN_all l v);have HNL:=hideB (innN_le l (v+1) (2*outN l v));have HNF:=hideB (fun (k:Nat) (hk:k<l.length) (e:l[k]=((v+1:Nat):Int))=>inn_fits HCS.o hv12 hk e);have HNY:=hideB (fun (k:Nat) (hk:k<l.length) (e:l[k]=((v+1:Nat):Int))=>innN_yes (n0:=2*outN l v) hk e);have HNN:=hideB (fun (k:Nat) (hk:k<l.length) (e:¬l[k]=((v+1:Nat):Int))=>innN_no (n0:=2*outN l v) hk e);have HOY:=hideB (fun (k:Nat) (hk:k<l.length) (e:l[k]=((v+1:Nat):Int))=>innO_yes (n0:=2*outN l v) (o:=outO l v) hk e);have HON:=hideB (fun (k:Nat) (hk:k<l.length) (e:¬l[k]=((v+1:Nat):Int))=>innO_no (n0:=2*outN l v) (o:=outO l v) hk e);have HOO:Hid (innO l (v+1) (2*outN l v) (outO l v) l.length=outO l (v+1)):=rfl;have HIL:=hideB (innO_length l (v+1) (2*outN l v) (outO l v))
   have hpw:2 ^ (v+1)<=4096:=by
    have:=Nat.pow_le_pow_right (n:=2) (by decide) (show v+1<=12 by omega)
    omega
   have HPW:Hid (∀ x:Nat,x<2 ^ (v+1)->x<4096):=fun x hx=>by omega
   clear hpw;generalize outN l v=no at ho HN0 HNA HNL HNF HNY HNN HOY HON HOO HIL
   have hv13:(v:Int)+1<=12:=by omega
   go_wp2_with fail
   go_loopw [22,4] (fun i m wr2=>∃ k q:Nat,i=.int .i64 k/\m=.int .i64 q/\q=innN l (v+1) (2*no) k/\k<=n/\IsS wr2 w.heap.size 9 (innO l (v+1) (2*no) (outO l v) k)/\Below w.heap.size w wr2) (fun i _ _=>n-(intOf i).toNat)
   case atStart=>exact⟨0,2*no,rfl,by go_num,HN0.o.symm,by omega,G1.o,GB.o⟩
   case round =>
    obtain⟨k,q,rfl,rfl,hq,hk,h2,hbel2⟩:=hrel;have G2:=hideB h2;have GB2:=hideB hbel2;have HQ:=hideB hq;clear h2 hbel2 hq;by_cases hlt:k<n
    ·have hkl:k<l.length:=by rw[<-HLN.o];exact hlt
     obtain⟨b,off,rfl,hb,hc⟩:=(HS.o.below GB2.o).some (by omega);have ci:=hc k hkl
     have hqb:q<=2*no+257:=by
      have:=HNL.o k
      rw[<-HQ.o,<-HLN.o]at this;omega
     obtain⟨x,hx⟩:∃ x,x=l[k]:=⟨_,rfl⟩;have HX:=hideB hx;rw[<-hx]at ci;clear hc hx;by_cases e:x=(v:Int)+1
     ·have hb1:(x==(v:Int)+1)=true:=beq_iff_eq.2 e
      have HXE:Hid (l[k]=((v+1:Nat):Int)):=by
       unfold Hid;rw[<-HX.o,e];rfl
      have HF:Hid (q<2 ^ (v+1)):=by
       unfold Hid;rw[HQ.o];exact HNF.o k hkl HXE.o
      have hq4:=HPW.o q HF.o
      have HNK:Hid (q+1=innN l (v+1) (2*no) (k+1)):=by
       unfold Hid;rw[HNY.o k hkl HXE.o,HQ.o]
      have HOK:Hid (innO l (v+1) (2*no) (outO l v) (k+1)=(innO l (v+1) (2*no) (outO l v) k).set k (bitsV q (v+1))):=by
       unfold Hid;rw[HOY.o k hkl HXE.o,HQ.o]
      have HBI:=hideB (fun W=>bitsOf_yes q (v+1) W (by omega) (by omega) HF.o);clear e;(go_wp2_with fail);refine(HBI.o _).mono ?_;rintro e w2 ⟨rfl,hb2⟩;have G3:=hideB (G2.o.below hb2 G2.o.lt);have B3:=hideB (below2 GB2.o hb2);have cf:=G3.o.frozen k;obtain⟨v0,ce⟩:∃ v0,w2.cell? ⟨w.heap.size,k,none⟩=some (.string v0):=⟨_,G3.o.cell (j:=k) (by rw[HIL.o,HOL.o];exact hkl)⟩;clear hb2;(go_wp2_with fail)
      go_roundw
      case rel=>exact⟨k+1,q+1,by go_num,by go_num,HNK.o,by omega,by rw[HOK.o];exact G3.o.set k _,B3.o.setCell nl _⟩
      case measure=>simp[intOf];omega
     ·have hb1:(x==(v:Int)+1)=false:=beq_eq_false_iff_ne.2 e
      have HXE:Hid (¬l[k]=((v+1:Nat):Int)):=by
       unfold Hid;rw[<-HX.o];exact e
      have HNK:Hid (q=innN l (v+1) (2*no) (k+1)):=by
       unfold Hid;rw[HNN.o k hkl HXE.o,HQ.o]
      have HOK:Hid (innO l (v+1) (2*no) (outO l v) (k+1)=innO l (v+1) (2*no) (outO l v) k):=HON.o k hkl HXE.o;clear e;(go_wp2_with fail)
      go_roundw
      case rel=>exact⟨k+1,q,by go_num,rfl,HNK.o,by omega,by rw[HOK.o];exact G2.o,GB2.o⟩
      case measure=>simp[intOf];omega
    ·have hkn:k=l.length:=by have:=HLN.o;omega
     have HQE:Hid (q=outN l (v+1)):=by
      unfold Hid;rw[HQ.o,hkn];exact HNA.o
     have HOE:Hid (innO l (v+1) (2*no) (outO l v) k=outO l (v+1)):=by
      unfold Hid;rw[hkn];exact HOO.o
     have hqb:q<=4096:=by
      rw[HQE.o];exact out_small HCS.o (by omega)
     clear hkn;(go_wp2_with fail)
     go_roundw
     case rel=>exact⟨v+1,by go_num,by rw[<-HQE.o],by omega,by rw[<-HOE.o];exact G2.o,GB2.o⟩
     case measure=>simp[intOf];omega
  ·obtain rfl:v=12:=by omega
   go_wp2_with fail
   go_ret;exact⟨rfl,G1.o,GB.o⟩
end Bi
namespace Bi
open In (Ints)
open St (IsS OwnIn IsO)
end Bi
namespace Bi
open In (Ints)
open St (IsS)
open Nu (ret_strJ own_string bv)
theorem nonempty (s:ByteArray) (h:1<=s.size):s.toList.isEmpty=false:=by
 rw[ByteArray.toList_eq]
 cases hd:s.data.toList with
 |nil=>exfalso;have:=congrArg List.length hd;rw[Array.length_toList]at this;exact absurd (show s.size=0 from this) (by omega)
 |cons _ _=>rfl
theorem okS_nat {l:List Int} {i:Nat} (h:i<l.length) (h0:0<l.getD i 0):okS l (i:Int):=⟨by omega,by omega,by simpa using h0⟩
theorem put_yes (l s:List Int) (a a':Option Addr) (cap cap':Nat) (w:World) (hl:Ints w w.heap.size a l) (hs:Ints w w.heap.size a' s) (hm:¬400<s.length) (hw:whole l=true) :
  Calls prog 124 #[.slice a l.length cap,.slice a' s.length cap'] w fun e w'=>e=.returned (.string (putR l s))/\Below w.heap.size w w':=by
 have HW:=hideB (whole_impl l a cap w.heap.size w hl (by have:=whole_len hw;omega));rw[hw]at HW;have HC:=hideB (codes_yes l a cap w.heap.size w hl nl (whole_right hw));have HS:=hideB hs;have HK:=hideB (whole_ok hw);have HWW:=hideB hw;have hn:=whole_len hw;have HCL:=hideB (codesV_length l);have HYES:=hideB (fun (h:∀ x∈s,okS l x)=>putR_yes hm hw h);have HBAD:=hideB (fun (j:Nat) (hj:j<s.length) (h:¬okS l s[j])=>putR_bad hj h);clear hl hs hw;obtain⟨n,hln⟩:∃ n,n=l.length:=⟨_,rfl⟩;obtain⟨m,hms⟩:∃ m,m=s.length:=⟨_,rfl⟩;obtain⟨r,hr⟩:∃ r,r=putR l s:=⟨_,rfl⟩;have HLN:=hideB hln;have HMS:=hideB hms;rw[<-hr]at HYES HBAD ⊢;rw[<-hln]at hn HW HC HCL ⊢;rw[<-hms]at hm ⊢;clear hln hms hr;have hd4:decide ((400:Int)<m)=false:=decide_eq_false (by omega);go_enter func124,ntmps124
 go_wp2_with fail
 refine HW.o.mono ?_;rintro e w' ⟨rfl,hw⟩;subst w'
 go_wp2_with fail
 refine HC.o.mono ?_;rintro e w1 ⟨rfl,hi1,hb1⟩;have X1:=hideB hi1;have B1:=hideB hb1;have z1:w.heap.size<w1.heap.size:=hi1.lt;clear hi1 hb1
 go_wp2_with fail
 go_loopw [21] (fun i wr=>∃ k:Nat,i=.int .i64 k/\k<=m/\(∀ j (hj:j<s.length),j<k->okS l s[j])/\Lib.IsBuilder 83 5 w1.heap.size w1.heap.size (Lib.byteCells (putL l (s.take k))) wr/\Below w1.heap.size w1 wr/\w1.heap.size<=wr.heap.size) (fun i _=>m-(intOf i).toNat)
 case atStart=>exact⟨0,rfl,Nat.zero_le _,fun j hj h0=>absurd h0 (Nat.not_lt_zero j),Lib.fresh_isBuilder _ _ w1,(Below.refl _ _).alloc nl _,by simp⟩
 case round =>
  obtain⟨k,rfl,hk,hall,hbu,hbel,hbz⟩:=hrel;have HA:=hideB hall;have HBU:=hideB hbu;have GB:=hideB hbel;clear hall hbu hbel;by_cases hlt:k<m
  ·have hkl:k<s.length:=by rw[<-HMS.o];exact hlt
   obtain⟨b,off,rfl,hb,hc⟩:=(HS.o.below (B1.o.trans (GB.o.mono (Nat.le_of_lt z1)))).some (by omega);have ci:=hc k hkl;have HM:=hideB (putL_more (l:=l) hkl);have HB1:=hideB (HBAD.o k hkl);obtain⟨x,hx⟩:∃ x,x=s[k]:=⟨_,rfl⟩;have HX:=hideB hx;rw[<-hx]at ci HM HB1;clear hc hx;by_cases h0:x<0
   ·have HE:=hideB (HB1.o (fun h=>by have:=h.1;omega))
    (go_wp2_with fail);go_ret;exact⟨ret_strJ HE.o.symm,B1.o.trans (GB.o.mono (Nat.le_of_lt z1))⟩
   ·have hd0:decide (x<0)=false:=decide_eq_false h0
    obtain⟨i,rfl⟩:∃ i:Nat,x=i:=⟨x.toNat,by omega⟩;by_cases h1:n<=i
    ·have HE:=hideB (HB1.o (fun h=>by have:=h.2.1;have:=HLN.o;omega))
     have hge:(n:Int)<=i:=by omega
     (go_wp2_with fail);go_ret;exact⟨ret_strJ HE.o.symm,B1.o.trans (GB.o.mono (Nat.le_of_lt z1))⟩
    ·have hd1:decide ((n:Int)<=i)=false:=decide_eq_false (by omega)
     have hil:i<l.length:=by rw[<-HLN.o];omega
     have hin:i<n:=by omega
     have hiv:i<(codesV l).length:=by rw[HCL.o];omega
     have cc:=(X1.o.below GB.o z1).cell hiv;rw[codes_get l HK.o i hiv]at cc;have HCO:=hideB (codeOf_none l i);have HOK:=hideB (okS_nat hil);have hcl:=codeOf_le l HK.o i;obtain⟨c,hcc⟩:∃ c,c=codeOf l i:=⟨_,rfl⟩;have HCC:=hideB hcc;rw[<-hcc]at cc HCO hcl;clear hcc;by_cases hp:0<l.getD i 0
     ·have hne:c.toList.isEmpty=false:=nonempty c (by rw[HCC.o,codeOf_size];omega)
      have HOK2:=hideB (HOK.o hp)
      have HLE:Hid ((Lib.byteCells (putL l (s.take k))).length+c.size<=140737488355328):=by
       unfold Hid;have h1:=putL_le l HK.o (s.take k);rw[List.length_take]at h1;rw[Lib.byteCells_length];omega
      have HNX:Hid (Lib.byteCells (putL l (s.take k))++Lib.strCells c=Lib.byteCells (putL l (s.take (k+1)))):=by
       unfold Hid;rw[HM.o,Lib.byteCells_append,Lib.strCells_eq,HCC.o];rfl
      have HWR:=hideB (Sb.write_any w1.heap.size w1.heap.size _ c wr HBU.o HLE.o hbz);clear hp hcl;(go_wp2_with fail);refine HWR.o.mono ?_;rintro e w2 ⟨rfl,hbt,hb2⟩;rw[HNX.o]at hbt;have HBT:=hideB hbt;have B2:=hideB (GB.o.trans hb2);have z2:=hb2.size;clear hbt hb2;(go_wp2_with fail)
      go_roundw
      case rel =>
       refine⟨k+1,by go_num,by omega,fun j hj hjk=>?_,Or.inr HBT.o,B2.o,by omega⟩;by_cases e:j=k
       ·subst e
        rw[<-HX.o];exact HOK2.o
       ·exact HA.o j hj (by omega)
      case measure=>simp[intOf];omega
     ·have hce:=HCO.o hp
      have HE:=hideB (HB1.o (fun h=>hp (by simpa using h.2.2)));subst hce;clear hp hcl;(go_wp2_with fail);go_ret;exact⟨ret_strJ HE.o.symm,B1.o.trans (GB.o.mono (Nat.le_of_lt z1))⟩
  ·have HE:Hid (r=⟨(putL l (s.take k)).toArray⟩):=by
    unfold Hid;rw[List.take_of_length_le (by have:=HMS.o;omega)]
    exact HYES.o (fun x hx=>by
     obtain⟨j,hj,rfl⟩:=List.getElem_of_mem hx
     exact HA.o j hj (by have:=HMS.o;omega))
   have HST:=hideB (Sb.string_any w1.heap.size w1.heap.size _ wr HBU.o hbz)
   go_wp2_with fail
   refine HST.o.mono ?_;rintro e w2 ⟨rfl,hb2⟩;have B2:=hideB (GB.o.trans hb2);clear hb2
   go_wp2_with fail
   go_ret;exact⟨ret_strJ HE.o.symm,B1.o.trans (B2.o.mono (Nat.le_of_lt z1))⟩
theorem put_impl (l s:List Int) (a a':Option Addr) (cap cap':Nat) (w:World) (hl:Ints w w.heap.size a l) (hs:Ints w w.heap.size a' s) (hn:l.length<=1048576) (hm:s.length<=1048576) :
  Calls prog 124 #[.slice a l.length cap,.slice a' s.length cap'] w fun e w'=>e=.returned (.string (putR l s))/\Below w.heap.size w w':=by
 by_cases h4:400<s.length
 ·have HE:=hideB (putR_no (l:=l) (Or.inl h4))
  generalize putR l s=r at HE ⊢;clear hl hs;generalize s.length=m at h4 hm ⊢;generalize l.length=n at hn ⊢;go_enter func124,ntmps124
  go_wp2_with fail
  go_ret;exact⟨ret_strJ HE.o.symm,Below.refl _ _⟩
 ·cases hw:whole l with
  |true=>exact put_yes l s a a' cap cap' w hl hs h4 hw
  |false =>
   have HE:=hideB (putR_no (s:=s) (Or.inr hw));have HW:=hideB (whole_impl l a cap w.heap.size w hl hn);rw[hw]at HW;have hd4:decide ((400:Int)<s.length)=false:=decide_eq_false (by omega);generalize putR l s=r at HE ⊢;clear hl hs hw;generalize s.length=m at h4 hm hd4 ⊢;generalize l.length=n at hn HW ⊢;go_enter func124,ntmps124
   go_wp2_with fail
   refine HW.o.mono ?_;rintro e w' ⟨rfl,hw⟩;subst w'
   go_wp2_with fail
   go_ret;exact⟨ret_strJ HE.o.symm,Below.refl _ _⟩
end Bi
namespace Bi
open Go.RowKit Go.Maps
open Go.WideMaps (keyOf_string_mk string_of_keyOf)
open In (Ints)
open St (IsS)
open Nu (ret_strJ)
abbrev DU:=DataW Unit
theorem _root_.Go.Proofs.YtaejgfdkfcmjeaaGreatDoor.St.IsS.of_heapS {w w':World} {g t:Nat} {l:List ByteArray} (h:IsS w g t l) (e:w'.heap[g]? = w.heap[g]?):IsS w' g t l:=by
 unfold IsS;rw[e];exact h
theorem lawS:Keyed prog 9:=string_keyed underlying9
theorem zeroI (w:World):(zeroValue 2).run prog w=.ok (.int .i64 0) w:=by kernel_rfl
def kl (c:ByteArray):Lit:=.string c.data.toList
theorem kl_inj {c d:ByteArray} (h:kl c=kl d):c=d:=by
 unfold kl at h
 have:c.data.toList=d.data.toList:=by simpa using h
 have h2:c.data=d.data:=Array.toList_inj.1 this
 cases c;cases d;simp at h2;rw[h2]
def CM (l:List Int) (D:DU) (k:Nat):Prop :=
 (∀ z,Maps.has D z=true↔∃ i,i<k/\i<l.length/\0<l.getD i 0/\z=kl (codeOf l i)) /\
 (∀ i,i<k->i<l.length->0<l.getD i 0->∀ z,D.atKey (kl (codeOf l i)) z=.lit (.int .i64 (i:Int)))
theorem CM.start (l:List Int):CM l (.map []) 0:=by
 refine⟨fun z=>⟨fun h=>?_,fun ⟨i,hi,_⟩=>absurd hi (Nat.not_lt_zero i)⟩,fun i hi=>absurd hi (Nat.not_lt_zero i)⟩;simp[Maps.has]at h
theorem CM.skip {l:List Int} {D:DU} {k:Nat} (h:CM l D k) (h0:¬0<l.getD k 0):CM l D (k+1):=by
 refine⟨fun z=>(h.1 z).trans ⟨fun ⟨i,a,b⟩=>⟨i,by omega,b⟩,fun ⟨i,a,b,c,d⟩=>⟨i,?_,b,c,d⟩⟩,fun i hi=>?_⟩
 ·by_cases e:i=k
  ·subst e;exact absurd c h0
  ·omega
 ·intro hl hp
  by_cases e:i=k
  ·subst e;exact absurd hp h0
  ·exact h.2 i (by omega) hl hp
theorem code_ne {l:List Int} (hr:csum l<=4096) (hok:∀ x∈l,0<=x/\x<=12) {i j:Nat} (hi:i<l.length) (hj:j<l.length) (h0:0<l.getD i 0) (h0':0<l.getD j 0) (h:codeOf l i=codeOf l j):i=j:=by
 have hs:(codeOf l i).size=wd l i:=codeOf_size l i;have hs':(codeOf l j).size=wd l j:=codeOf_size l j;have m1:mt l (codeOf l i) i:=⟨hi,h0,by omega,by rw[<-hs];exact ByteArray.extract_zero_size⟩;have m2:mt l (codeOf l i) j:=⟨hj,h0',by rw[h];omega,by rw[h,<-hs'];exact ByteArray.extract_zero_size⟩;exact mt_one hr hok m1 m2
theorem CM.put {l:List Int} {D:DU} {k:Nat} (h:CM l D k) (hD:IsMap D) (hr:csum l<=4096) (hok:∀ x∈l,0<=x/\x<=12) (hk:k<l.length) (h0:0<l.getD k 0):CM l (D.put (kl (codeOf l k)) (.lit (.int .i64 (k:Int)))) (k+1):=by
 have hK:WideAt.IsKeyLit (kl (codeOf l k)):=trivial;refine⟨fun z=>?_,fun i hi hl hp z=>?_⟩
 ·by_cases e:z=kl (codeOf l k)
  ·subst e
   rw[has_put_same hD hK];exact⟨fun _=>⟨k,by omega,hk,h0,rfl⟩,fun _=>rfl⟩
  ·rw[has_put_other e,h.1 z]
   refine⟨fun ⟨i,a,b⟩=>⟨i,by omega,b⟩,fun ⟨i,a,b,c,d⟩=>⟨i,?_,b,c,d⟩⟩;by_cases e2:i=k
   ·subst e2;exact absurd d e
   ·omega
 ·by_cases e:i=k
  ·subst e
   exact atKey_put_same hD hK _ _
  ·have hne:kl (codeOf l i)≠kl (codeOf l k):=fun x=>e (code_ne hr hok hl hk hp h0 (kl_inj x))
   rw[atKey_put_other hne];exact h.2 i (by omega) hl hp z
theorem symbols_any (l:List Int) (a:Option Addr) (cap:Nat) (w:World) (hl:Ints w w.heap.size a l) (hr:right l=true) :
  Calls prog 210 #[.slice a l.length cap] w fun e w'=>∃ D:DU,e=.returned (.map (some w.heap.size))/\w'.ownsMap prog 9 (plainElem prog 2) w.heap.size l.length D/\CM l D l.length/\Below w.heap.size w w':=by
 have hok:=(within_yes (right_yes hr).1).2;have hcs:=(right_yes hr).2;have hn:=(within_yes (right_yes hr).1).1;have HC:=hideB (codes_yes l a cap w.heap.size (w.alloc (.map #[] 0)) (hl.below ((Below.refl _ _).alloc nl _)) (by simp) hr);have HK:=hideB hok;have HS:=hideB hcs;have HCL:=hideB (codesV_length l);clear hl hr hok hcs;obtain⟨n,hln⟩:∃ n,n=l.length:=⟨_,rfl⟩;have HLN:=hideB hln;rw[<-hln]at hn HC HCL ⊢;clear hln;have hmm:=@run_makeMap prog;go_enter func210,ntmps210
 go_wp2_with fail
 refine HC.o.mono ?_;rintro e w1 ⟨rfl,hi1,hb1⟩
 have z0:(w.alloc (.map #[] 0)).heap.size=w.heap.size+1:=by simp
 rw[z0]at hi1 hb1;have X1:=hideB hi1;have M1:=hideB (show w1.ownsMap prog 9 (plainElem (H:=Unit) prog 2) w.heap.size 0 (.map []) from World.ownsMap.kept (World.ownsMap_made w _ _ _) (row:=none) ⟨hb1.os,hb1.tape,hb1.output,hb1.size,fun i hi _=>hb1.block i (by rw[z0]at hi;exact hi)⟩ (by simp));have B1:=hideB (Below.trans ((Below.refl w.heap.size w).alloc nl (.map #[] 0)) (hb1.mono (Nat.le_succ _)));have z1:w.heap.size+1<w1.heap.size:=hi1.lt;rw[z0];clear hi1 hb1 z0 hmm
 go_wp2_with fail
 go_loopw [10] (fun i wr=>∃ (k:Nat) (D:DU),i=.int .i64 k/\k<=n/\wr.ownsMap prog 9 (plainElem prog 2) w.heap.size k D/\CM l D k/\IsS wr (w.heap.size+1) 9 (codesV l)/\Below w.heap.size w wr) (fun i _=>n-(intOf i).toNat)
 case atStart=>exact⟨0,_,rfl,Nat.zero_le _,M1.o,CM.start l,X1.o,B1.o⟩
 case round =>
  obtain⟨k,D,rfl,hk,hown,hcm,hx,hbel⟩:=hrel;have HO:=hideB hown;have HM:=hideB hcm;have HX:=hideB hx;have GB:=hideB hbel;clear hown hcm hx hbel;by_cases hlt:k<n
  ·have hkl:k<l.length:=by rw[<-HLN.o];exact hlt
   have hkv:k<(codesV l).length:=by rw[HCL.o];exact hlt
   have ci:=HX.o.cell hkv;rw[codes_get l HK.o k hkv]at ci;have HNONE:=hideB (codeOf_none l k);have HSZ:=hideB (codeOf_size l k);have hcl:=codeOf_le l HK.o k;have HPUT:=hideB (fun h0=>CM.put HM.o HO.o.isMap HS.o HK.o hkl h0);have HSKIP:=hideB (fun h0=>CM.skip HM.o (k:=k) h0);obtain⟨c,hc⟩:∃ c,c=codeOf l k:=⟨_,rfl⟩;rw[<-hc]at ci HNONE HSZ hcl HPUT;clear hc;by_cases h0:0<l.getD k 0
   ·have hne:c.toList.isEmpty=false:=nonempty c (by rw[HSZ.o];omega)
    have hkey:keyOf prog 9 (.string c)=some (kl c):=keyOf_string_mk underlying9 (by unfold maxLen;omega);have HP2:=hideB (HPUT.o h0);have hown:=HO.o;clear h0 hcl
    go_wp2_with (first|(at_mapUpdate;refine wpList_mapUpdate_own _ rfl _ _ _ 229 rfl 9 2 lawS underlying229 _ w.heap.size k _ rfl hown (by unfold maxLen;omega) _ _ _ rfl rfl hkey _ [] (plainElem_int underlying2 (WalkArith.wf_i64 (by omega))) ?_;intro w2 hown2 hgrow2;have HO2:=hideB hown2;have HX2:=hideB (HX.o.of_heapS (hgrow2.block (w.heap.size+1) HX.o.lt (by simp)));have GB2:=hideB (GB.o.grown hgrow2 GB.o.size (fun j hj=>by cases hj;exact nl));clear hown2 hgrow2;go_frame))
    (go_wp2_with fail)
    go_roundw
    case rel=>exact⟨k+1,_,by go_num,by omega,HO2.o,HP2.o,HX2.o,GB2.o⟩
    case measure=>simp[intOf];omega
   ·have hce:=HNONE.o h0
    have HP2:=hideB (HSKIP.o h0);have HO2:=hideB (HO.o.mono (Nat.le_succ k));subst hce;clear h0 hcl;(go_wp2_with fail)
    go_roundw
    case rel=>exact⟨k+1,D,by go_num,by omega,HO2.o,HP2.o,HX.o,GB.o⟩
    case measure=>simp[intOf];omega
  ·obtain rfl:k=n:=by omega
   go_wp2_with fail
   go_ret;exact⟨D,rfl,HO.o,HM.o,GB.o⟩
def preR:Go.Shelf.Ren:=⟨fun|99=>102|206=>141|n=>n,fun|9=>9|4=>4|3=>3|n=>n,fun|n=>n⟩
theorem preL:Go.Proofs.Lays.n99 prog preR:={
 mixed:=by kernel_rfl
 f99:=func102.trans (congrArg some (by kernel_rfl))
 f206:=func141.trans (congrArg some (by kernel_rfl))
 t3:=underlying3
 a3:=Tryz.isAgg3
 z3:=Tryz.sizeOf3
 v3:=Tryz.zeroValue3
 t4:=underlying4
 a4:=Tryz.isAgg4
 z4:=Tryz.sizeOf4
 v4:=Tryz.zeroValue4
 t9:=underlying9
 a9:=Tryz.isAgg9
 z9:=Tryz.sizeOf9
 v9:=Tryz.zeroValue9 }
theorem prefix_any (s p:ByteArray) (w:World) :
  Calls prog 102 #[.string s,.string p] w fun e w'=>e=.returned (.bool (Lib.hasPrefix s.data.toList p.data.toList))/\w'=w:=Any.strings_HasPrefix preL s p w
def symT (l:List Int) (t:ByteArray):ByteArray:=match sym l t with
 |some i=>codeOf l i
 |none=>⟨#[]⟩
theorem first_any (l:List Int) (t:ByteArray) (b n:Nat) (D:DU) (w:World) (hown:w.ownsMap prog 9 (plainElem prog 2) b n D) (hcm:CM l D l.length) (hr:right l=true) (ht:t.size<=8000) :
  Calls prog 211 #[.map (some b),.string t] w fun e w'=>e=.returned (.string (symT l t))/\w'=w:=by
 have hok:=(within_yes (right_yes hr).1).2;have hcs:=(right_yes hr).2
 have w12:∀ k,k<l.length->wd l k<=12:=fun k hk=>by
  have:=hok _ (List.getElem_mem hk)
  unfold wd;rw[getD_lt hk];omega
 have HSYM:=hideB (fun (i:Nat) (h:mt l t i)=>sym_of hcs hok h);have HNONE:=hideB (fun (h:∀ i,¬mt l t i)=>sym_none h);have HCM:=hideB hcm;have HW:=hideB w12;clear hok hcs w12 hcm hr;obtain⟨r,hrr⟩:∃ r,r=symT l t:=⟨_,rfl⟩;have HR:=hideB hrr;rw[<-hrr];clear hrr;go_enter func211,ntmps211
 go_wp2_with fail
 go_loopw [5] (fun i wr=>∃ v:Nat,i=.int .i64 v/\1<=v/\v<=13/\v<=t.size+1/\(∀ j,mt l t j->v<=wd l j)/\wr=w) (fun i _=>13-(intOf i).toNat)
 case atStart=>exact⟨1,rfl,nl,by omega,by omega,fun j hj=>by have:=hj.2.1;unfold wd;omega,rfl⟩
 case round =>
  obtain⟨v,rfl,hv1,hv13,hvt,hall,hw⟩:=hrel;subst hw;have HA:=hideB hall;clear hall;by_cases hA:v<=12/\v<=t.size
  ·obtain⟨hv12,hvs⟩:=hA
   have hvi:(v:Int)<=12:=by omega
   have hvsi:(v:Int)<=t.size:=by omega
   have hmn:(v:Int)<=min 12 (t.size:Int):=by omega
   have hes:(t.extract 0 v).size=v:=by rw[ByteArray.size_extract];omega
   have HES:=hideB hes;have hkey:keyOf prog 9 (.string (t.extract 0 v))=some (kl (t.extract 0 v)):=keyOf_string_mk underlying9 (by unfold maxLen;omega);have HHAS:=hideB (HCM.o.1 (kl (t.extract 0 v)));clear hes
   cases hh:Maps.has D (kl (t.extract 0 v)) with
   |true =>
    have HE:Hid (t.extract 0 v=r):=by
     unfold Hid;obtain⟨i,h1,h2,h3,h4⟩:=HHAS.o.1 hh;have h5:=kl_inj h4;have h6:wd l i=v:=(by rw[<-HES.o,h5];exact(codeOf_size l i).symm);have hm:mt l t i:=⟨h2,h3,by omega,by rw[h6];exact h5⟩;rw[HR.o,h5];unfold symT;rw[HSYM.o i hm]
    go_wp2_with (first|(at_lookup;refine wpList_lookup_own_ok_int _ rfl _ _ 229 rfl 9 2 .i64 lawS underlying229 underlying2 (zeroI _) b n D rfl hown _ _ rfl hkey ?_;intro c hat hwc;rw[hh];clear hat hwc))
    go_ret;exact⟨ret_strJ HE.o,rfl⟩
   |false =>
    have HN:Hid (∀ j,mt l t j->v+1<=wd l j):=fun j hj=>by
     have h1:=HA.o j hj;by_cases e:wd l j=v
     ·have h2:Maps.has D (kl (t.extract 0 v))=true:=HHAS.o.2 ⟨j,hj.1,hj.1,hj.2.1,by rw[<-e];rw[hj.2.2.2]⟩
      rw[hh]at h2
      cases h2
     ·omega
    go_wp2_with (first|(at_lookup;refine wpList_lookup_own_ok_int _ rfl _ _ 229 rfl 9 2 .i64 lawS underlying229 underlying2 (zeroI _) b n D rfl hown _ _ rfl hkey ?_;intro c hat hwc;rw[hh];clear hat hwc))
    (go_wp2_with fail)
    go_roundw
    case rel=>exact⟨v+1,by go_num,by omega,by omega,by omega,HN.o,trivial⟩
    case measure=>simp[intOf];omega
  ·have hmn:decide ((v:Int)<=min 12 (t.size:Int))=false:=decide_eq_false (by omega)
   have HE:Hid (r=⟨#[]⟩):=by
    unfold Hid;rw[HR.o];unfold symT;rw[HNONE.o (fun i hm=>hA ⟨by have h1:=HA.o i hm;have h2:=HW.o i hm.1;omega,by have h1:=HA.o i hm;have h2:=hm.2.2.1;omega⟩)]
   clear hA
   go_wp2_with fail
   go_ret;exact⟨ret_strJ HE.o.symm,rfl⟩
end Bi
namespace Bi
open Go.RowKit Go.Maps
open Go.WideMaps (keyOf_string_mk string_of_keyOf)
def pf (t:ByteArray):Lit->Bool
 |.string bs=>Lib.hasPrefix bs t.data.toList
 |_=>false
theorem pf_kl (t c:ByteArray):pf t (kl c)=Lib.hasPrefix c.data.toList t.data.toList:=rfl
def Swept (D D':DU) (t:ByteArray) (left:Lit->Bool):Prop:=∀ z,Maps.has D' z=(Maps.has D z && (left z || pf t z))
theorem Swept.start (D:DU) (t:ByteArray):Swept D D t (Maps.has D):=fun z=>by cases Maps.has D z<;>simp
theorem same_kl (c:ByteArray):(kl c).sameKey (kl c)=true:=by simp[kl,Lit.sameKey]
theorem Swept.stays {D D':DU} {t:ByteArray} {left:Lit->Bool} {c:ByteArray} (h:Swept D D' t left) (hp:Lib.hasPrefix c.data.toList t.data.toList=true):Swept D D' t (fun z=>left z && !z.sameKey (kl c)):=fun z=>by
 rw[h z];by_cases e:z=kl c
 ·subst e
  rw[pf_kl,hp];simp
 ·simp only[sameKey_ne e]
  simp
theorem Swept.goes {D D':DU} {t:ByteArray} {left:Lit->Bool} {c:ByteArray} (h:Swept D D' t left) (hp:Lib.hasPrefix c.data.toList t.data.toList=false):Swept D (D'.del (kl c)) t (fun z=>left z && !z.sameKey (kl c)):=fun z=>by
 by_cases e:z=kl c
 ·subst e
  rw[has_del_same,pf_kl,hp];simp only[same_kl];simp
 ·rw[has_del_other e,h z]
  simp only[sameKey_ne e];simp
theorem size_none {D:DU} (hD:IsMap D) (h:∀ z,Maps.has D z=false) (hk:∀ es,D=.map es->∀ p∈es,WideAt.IsKeyLit p.1):Maps.size D=0:=by
 obtain⟨es,rfl⟩:=hD
 cases es with
 |nil=>rfl
 |cons p es =>
  exfalso
  have h1:=hk _ rfl p List.mem_cons_self;have h2:=h p.1;rw[has_eq,List.any_cons]at h2
  have h3:p.1.sameKey p.1=true:=by
   obtain⟨k,d⟩:=p
   cases k<;>simp_all [Lit.sameKey,WideAt.IsKeyLit]
  rw[h3]at h2;simp at h2
theorem size_some {D:DU} (hD:IsMap D) {z:Lit} (h:Maps.has D z=true):0<Maps.size D:=by
 obtain⟨es,rfl⟩:=hD
 cases es with
 |nil=>simp[Maps.has]at h
 |cons p es=>simp[size_eq]
theorem why_any (l:List Int) (t:ByteArray) (b n B:Nat) (D:DU) (w:World) (hown:w.ownsMap prog 9 (plainElem prog 2) b n D) (hcm:CM l D l.length) (hB:B<=b) (hBw:B<=w.heap.size) :
  Calls prog 212 #[.map (some b),.string t] w fun e w'=>e=.returned (.int .i64 (why l t))/\Below B w w':=by
 have HCM:=hideB hcm;clear hcm;have hbw:=hown.lt;go_enter func212,ntmps212
 go_wp2_with (first|(at_range;refine wpList_range_own _ rfl _ 229 rfl 9 2 lawS underlying229 _ b n _ rfl hown ?_;intro w0 hrg0 hg0 hs0))
 have HB0:=hideB ((Below.refl B w).grown hg0 hBw (fun j hj=>by cases hj))
 go_frame
 go_loopw [5] (fun _ wr=>∃ (left:Lit->Bool) (cnt:Nat) (D':DU),wr.ranges prog 9 (plainElem prog 2) b w.heap.size n D' left cnt/\Swept D D' t left/\Below B w wr) (fun _ wr=>wr.rangeLeft b w.heap.size)
 case atStart=>exact⟨_,_,D,hrg0,Swept.start D t,HB0.o⟩
 case round =>
  obtain⟨left,cnt,D',hrg,hsw,hbel⟩:=hrel;have HSW:=hideB hsw;have GB:=hideB hbel;clear hsw hbel
  go_wp2_with (first|(at_next;refine wpList_next_ranges _ rfl _ rfl 9 lawS (plainElem prog 2) Value.string (Value.int .i64) (fun key kl hkey=>by obtain⟨s,rfl,_⟩:=string_of_keyOf underlying9 hkey;exact⟨s,rfl⟩) (fun v y hv=>by obtain⟨c,rfl,_⟩:=plainElem_int_inv underlying2 hv;exact⟨c,rfl⟩) b w.heap.size n D' left cnt rfl hrg ?_ ?_))
  ·intro _ hl0
   have hown':=hrg.owns
   have HPF:Hid (∀ z,Maps.has D' z=(Maps.has D z && pf t z)):=fun z=>by
    rw[HSW.o z,hl0 z,Bool.false_or]
   cases hw:wth l t with
   |true =>
    have hz:(((Maps.size D':Nat):Int)==0)=false:=by
     obtain⟨i,h1,h2,h3⟩:=wth_yes hw
     have h4:Maps.has D' (kl (codeOf l i))=true:=by
      rw[HPF.o,(HCM.o.1 _).2 ⟨i,h1,h1,h2,rfl⟩,pf_kl,h3];rfl
     have h5:=size_some hown'.isMap h4;exact beq_eq_false_iff_ne.2 (by omega)
    have HE:Hid (why l t=4):=by
     unfold Hid why;rw[if_pos hw]
    clear hw hl0 hrg
    go_wp2_with (first|(at_len;refine wpList_len_own _ rfl _ 229 rfl 9 2 underlying229 _ b n D' rfl hown' ?_))
    go_ret;exact⟨by rw[HE.o];rfl,GB.o⟩
   |false =>
    have hz:Maps.size D'=0:=by
     obtain⟨es,hes,_,hks⟩:=hown'.entries lawS;refine size_none hown'.isMap (fun z=>?_) (fun es' he' p hp=>by rw[hes]at he';cases he';exact hks p hp);rw[HPF.o]
     cases hh:Maps.has D z with
     |false=>rfl
     |true =>
      obtain⟨i,h1,h2,h3,rfl⟩:=(HCM.o.1 z).1 hh;rw[pf_kl,Bool.true_and]
      cases hp:Lib.hasPrefix (codeOf l i).data.toList t.data.toList with
      |false=>rfl
      |true=>rw[wth_of h2 h3 hp]at hw;cases hw
    have HE:Hid (why l t=3):=by
     unfold Hid why;rw[if_neg (by rw[hw];decide)]
    clear hw hl0 hrg
    go_wp2_with (first|(at_len;refine wpList_len_own _ rfl _ 229 rfl 9 2 underlying229 _ b n D' rfl hown' ?_;rw[hz]))
    go_ret;exact⟨by rw[HE.o];rfl,GB.o⟩
  ·intro x c klx y1 y2 w1 cnt1 hkey hlx hRv hat hrg1 hlt hg1 hs1 hen
   obtain⟨s,es,hk2,hsz⟩:=string_of_keyOf underlying9 hkey
   obtain rfl:x=s:=by simpa using es
   obtain rfl:klx=kl x:=hk2;have GB1:=hideB (GB.o.grown hg1 (Nat.le_trans hBw GB.o.size) (fun j hj=>by cases hj;exact hBw));have HPX:=hideB (prefix_any x t w1)
   cases hp:Lib.hasPrefix x.data.toList t.data.toList with
   |true =>
    have HS1:=hideB (HSW.o.stays hp);rw[hp]at HPX;clear hp es hRv hat;(go_wp2_with fail);refine HPX.o.mono ?_;rintro e w' ⟨rfl,hw⟩;subst w';(go_wp2_with fail)
    go_roundw
    case rel=>exact⟨_,cnt1,D',hrg1,HS1.o,GB1.o⟩
    case measure=>rw[hrg1.left_eq,hrg.left_eq];exact hlt
   |false =>
    have HS1:=hideB (HSW.o.goes hp);rw[hp]at HPX;clear hp es hRv hat;(go_wp2_with fail);refine HPX.o.mono ?_;rintro e w' ⟨rfl,hw⟩;subst w'
    go_wp2_with (first|(at_delete;refine wpList_delete_ranges _ rfl _ _ 229 9 rfl 2 lawS underlying229 _ b w.heap.size n _ _ _ rfl hrg1 _ _ rfl hkey ?_;intro w2 cnt2 hrg2 hle hturn;go_frame))
    rw[strike_twice]at hrg2;have GB2:=hideB (GB1.o.grown hturn.grown (Nat.le_trans hBw GB1.o.size) (fun j hj=>by cases hj;exact hB))
    go_roundw
    case rel=>exact⟨_,cnt2,_,hrg2,HS1.o,GB2.o⟩
    case measure=>rw[hrg2.left_eq,hrg.left_eq];omega
end Bi
namespace Bi
open Go.RowKit Go.Maps
open Go.WideMaps (keyOf_string_mk string_of_keyOf)
open In (Ints IsI OwnIn made_ints)
open Nu (ret_strJ)
theorem Tryz.infoG2:(prog.info? 2).map (fun i=>(i.zero,i.size,i.bytes))=some (some (.int .i64 0),1,8):=by kernel_rfl
def fill (xs:List Int) (m:Nat):List Int:=xs++List.replicate (m-xs.length) 0
theorem fill_length (xs:List Int) (m:Nat) (h:xs.length<=m):(fill xs m).length=m:=by simp[fill];omega
theorem fill_next (xs:List Int) (m:Nat) (x:Int) (h:xs.length<m):(fill xs m).set xs.length x=fill (xs++[x]) m:=by
 unfold fill;rw[List.set_append,if_neg (by omega),Nat.sub_self,List.length_append];obtain⟨d,hd⟩:∃ d,m-xs.length=d+1:=⟨m-xs.length-1,by omega⟩;rw[hd,show m-(xs.length + [x].length)=d by simp;omega,List.replicate_succ,List.set_cons_zero];simp
theorem fill_all (xs:List Int) (m:Nat) (h:xs.length=m):fill xs m=xs:=by simp[fill,h]
theorem fill_none (m:Nat):fill [] m=List.replicate m 0:=by simp[fill]
def Out0 (w:World) (g:Nat):Prop:=w.heap[g]? = some (.cells #[.slice none 0 0,.int .i64 0,.int .i64 0] 158 (0,0))
theorem Out0.c0 {w:World} {g:Nat} (h:Out0 w g):w.cell? ⟨g,0,none⟩=some (.slice none 0 0):=(cell_of_row w g 0 _ _ _ h).trans rfl
theorem Out0.c1 {w:World} {g:Nat} (h:Out0 w g):w.cell? ⟨g,1,none⟩=some (.int .i64 0):=(cell_of_row w g 1 _ _ _ h).trans rfl
theorem Out0.c2 {w:World} {g:Nat} (h:Out0 w g):w.cell? ⟨g,2,none⟩=some (.int .i64 0):=(cell_of_row w g 2 _ _ _ h).trans rfl
theorem Out0.fr {w:World} {g:Nat} (h:Out0 w g) (j:Nat):w.frozen? ⟨g,j,none⟩=false:=frozen_of_row w g j _ _ h
theorem Out0.below {w w':World} {g B:Nat} (h:Out0 w g) (b:Below B w w') (hg:g<B):Out0 w' g:=by unfold Out0;rw[b.block g hg];exact h
theorem Out0.set {w:World} {g:Nat} (h:Out0 w g) (a:Addr) (v:Value) (ha:g≠a.block):Out0 (w.setCell a v) g:=by unfold Out0;rw[heap_setCell_other w a g v ha];exact h
theorem Out0.new (w:World):Out0 (w.alloc (.cells #[.slice none 0 0,.int .i64 0,.int .i64 0] 158)) w.heap.size:=heap_alloc_last w _
theorem get_yes (l:List Int) (t:ByteArray) (m:Nat) (a:Option Addr) (cap:Nat) (w:World) (hl:Ints w w.heap.size a l) (h4:¬400<l.length) (h8:¬8000<t.size) (hw:whole l=true) (hg:good t=true) (hm:m<=400) :
  Calls prog 181 #[.slice a l.length cap,.string t,.int .i64 m] w fun e w'=>∃ v,e=.returned (.agg #[v,.int .i64 (outS (st l t m)).2.1,.int .i64 (outS (st l t m)).2.2])/\OwnIn w' w.heap.size w'.heap.size v (outS (st l t m)).1/\Below w.heap.size w w':=by
 obtain⟨i0,hi0,hz0,hz1,hz2⟩:=info_parts Tryz.infoG2;have hd4:decide (400<(l.length:Int))=false:=decide_eq_false (by omega);have hd8:decide (8000<(t.size:Int))=false:=decide_eq_false (by omega);have hdm:decide ((m:Int)<0)=false:=decide_eq_false (by omega);have hdm4:decide ((400:Int)<m)=false:=decide_eq_false (by omega);obtain⟨W0,hW0⟩:∃ W0,W0=w.alloc (.cells #[.slice none 0 0,.int .i64 0,.int .i64 0] 158):=⟨_,rfl⟩
 have z0:W0.heap.size=w.heap.size+1:=by rw[hW0];simp
 have B0:=hideB (show Below w.heap.size w W0 by rw[hW0];exact(Below.refl _ _).alloc nl _);have O0:=hideB (show Out0 W0 w.heap.size by rw[hW0];exact Out0.new w);have hl0:=(hl.below B0.o).mono B0.o.size;have HWH:=hideB (whole_impl l a cap W0.heap.size W0 hl0 (by omega));rw[hw]at HWH;have HGO:=hideB (good_impl t W0 (by omega));rw[hg]at HGO;have HSY:=hideB (symbols_any l a cap W0 hl0 (whole_right hw));have HR:=hideB (whole_right hw);clear hl hl0 hw hg h4;obtain⟨n,hln⟩:∃ n,n=l.length:=⟨_,rfl⟩;have HLN:=hideB hln;rw[<-hln]at hd4 HWH HSY ⊢;clear hln;go_enter func181,ntmps181
 go_wp2_with fail
 rw[<-hW0];have HW0:=hideB hW0;clear hW0;refine HWH.o.mono ?_;rintro e w' ⟨rfl,hw'⟩;subst w'
 go_wp2_with fail
 refine HGO.o.mono ?_;rintro e w' ⟨rfl,hw'⟩;subst w'
 go_wp2_with fail
 refine HSY.o.mono ?_;rintro e w1 ⟨D,rfl,hown1,hcm,hb1⟩;have M1:=hideB hown1;have HCM:=hideB hcm;have B1:=hideB (B0.o.trans (hb1.mono (by omega)));have O1:=hideB (O0.o.below hb1 (by omega));have z1:W0.heap.size<w1.heap.size:=hown1.lt;clear hown1 hcm hb1 HWH HGO HSY;obtain⟨b,hb⟩:∃ b,b=W0.heap.size:=⟨_,rfl⟩;rw[<-hb]at z0 z1 M1 ⊢
 have zb:w.heap.size<b:=by omega
 clear z0;clear hb HW0 O0 B0
 go_wp2_with (at_make;refine wpList_make_full _ rfl (.tmp 40) (.tmp 40) 80 rfl w1.heap.size 2 i0 (.int .i64 0) 1 underlying80 hi0 hz0 hz1 .i64 .i64 _ _ m rfl rfl (by simp) (by simp) (by rw[hz2];omega) (by unfold maxLen;omega) nl ?_;intro w2 hown2 hgrow2;have R2:=hideB (made_ints hown2);have b2:=(Below.refl w1.heap.size w1).grown hgrow2 nl (by simp);have B2:=hideB (B1.o.trans (b2.mono B1.o.size));have O2:=hideB (O1.o.below b2 (by omega));have M2:=hideB (M1.o.kept hgrow2 (by simp));clear hown2 hgrow2 b2)
 go_loopw [43,9] (fun i at_ wr=>∃ (k p:Nat) (xs:List Int),i=.int .i64 k/\at_=.int .i64 p/\k<=m/\st l t k=.inr (xs,p)/\wr.ownsMap prog 9 (plainElem prog 2) b n D/\IsI wr w1.heap.size 2 (fill xs m)/\Out0 wr w.heap.size/\Below w.heap.size w wr) (fun i _ _=>m-(intOf i).toNat)
 case atStart=>exact⟨0,0,[],rfl,rfl,Nat.zero_le _,rfl,M2.o,by rw[fill_none];exact R2.o,O2.o,B2.o⟩
 case round =>
  obtain⟨k,p,xs,rfl,rfl,hk,hst,hown,hi,ho,hbel⟩:=hrel;have HST:=hideB hst;have M3:=hideB hown;have I3:=hideB hi;have O3:=hideB ho;have B3:=hideB hbel;obtain⟨hps,hxl⟩:=st_facts k p xs hst;have HXL:=hideB hxl;clear hst hown hi ho hbel hxl;by_cases hlt:k<m
  ·have hpi:(p:Int)<=t.size:=by omega
   have HFI:=hideB (first_any l (rst t p) b n D wr M3.o (by rw[<-HLN.o];exact HCM.o) HR.o (by rw[rst_size];omega));have HRE:Hid (rst t p=t.extract p t.size):=rfl
   cases hs:sym l (rst t p) with
   |none =>
    have HT:Hid (symT l (rst t p)=⟨#[]⟩):=by
     unfold Hid symT;rw[hs]
    rw[HT.o,HRE.o]at HFI;have HB:=hideB (st_bad HST.o hs)
    have HE:Hid (outS (st l t m)=([],0,why l (rst t p))):=by
     have h1:=st_stay HB.o (m-(k+1));rw[show k+1+(m-(k+1))=m by omega]at h1;unfold Hid;rw[h1];rfl
    have HWY:=hideB (why_any l (rst t p) b n b D wr M3.o (by rw[<-HLN.o];exact HCM.o) nl (Nat.le_of_lt M3.o.lt));rw[HRE.o]at HWY HE;generalize why l (t.extract p t.size)=wy at HWY HE;clear hs;(go_wp2_with fail);refine HFI.o.mono ?_;rintro e w' ⟨rfl,hw'⟩;subst w';(go_wp2_with fail);refine HWY.o.mono ?_;rintro e w4 ⟨rfl,hb4⟩;have O4:=hideB (O3.o.below hb4 (by omega));have B4:=hideB (B3.o.trans (hb4.mono (by omega)));have c0:=O4.o.c0;have c1:=O4.o.c1;have c2:=O4.o.c2;have f0:=O4.o.fr 0;have f1:=O4.o.fr 1;have f2:=O4.o.fr 2;clear hb4;(go_wp2_with fail);refine bodyPost_ret (v:=.agg #[.slice none 0 0,.int .i64 0,.int .i64 wy]) (by simp[results,results181,go_sem,c0,c1,c2]) rfl ⟨.slice none 0 0,?_,?_,?_⟩
    ·rw[HE.o]
    ·rw[HE.o]
     exact .inl ⟨rfl,rfl⟩
    ·exact((B4.o.setCell nl _).setCell nl _).setCell nl _
   |some i =>
    have HT:Hid (symT l (rst t p)=codeOf l i):=by
     unfold Hid symT;rw[hs]
    have hmt:=sym_mt hs;have HSM:=hideB (st_more HST.o hs);have HCO:=hideB (codeOf_size l i);have hcl:=codeOf_le l (within_yes (right_yes HR.o).1).2 i;have HAT:=hideB (HCM.o.2 i (by rw[HLN.o];exact hmt.1) hmt.1 hmt.2.1);have hw1:1<=wd l i:=(by have:=hmt.2.1;unfold wd;omega);rw[show (l.getD i 0).toNat=wd l i from rfl]at HCO;rw[<-HCO.o]at HSM hw1;rw[HT.o,HRE.o]at HFI;obtain⟨c,hc⟩:∃ c,c=codeOf l i:=⟨_,rfl⟩;rw[<-hc]at HFI HSM hw1 hcl HAT;have hne:c.toList.isEmpty=false:=nonempty c hw1;have hkey:keyOf prog 9 (.string c)=some (kl c):=keyOf_string_mk underlying9 (by unfold maxLen;omega);have hkf:k<(fill xs m).length:=(by rw[fill_length xs m (by have:=HXL.o;omega)];exact hlt);have cf:=I3.o.frozen k;obtain⟨v0,ce⟩:∃ v0,wr.cell? ⟨w1.heap.size,k,none⟩=some (.int .i64 v0):=⟨_,I3.o.cell hkf⟩
    have HFN:Hid ((fill xs m).set k (i:Int)=fill (xs++[(i:Int)]) m):=by
     have h1:=HXL.o;unfold Hid;rw[<-h1];exact fill_next xs m i (by omega)
    have hown:=M3.o;clear hs hmt hc hkf HT;(go_wp2_with fail);refine HFI.o.mono ?_;rintro e w' ⟨rfl,hw'⟩;subst w'
    go_wp2_with (first|(at_lookup;refine wpList_lookup_own_int _ rfl _ _ 229 rfl 9 2 .i64 lawS underlying229 underlying2 (zeroI _) b n D rfl hown _ _ rfl hkey ?_;intro c' hat hwc;have hci:c'=(i:Int):=(by rw[HAT.o]at hat;simpa using hat.symm);subst hci;clear hat hwc))
    (go_wp2_with fail)
    go_roundw
    case rel=>exact⟨k+1,p+c.size,xs++[(i:Int)],by go_num,by go_num,by omega,HSM.o,M3.o.setCell (a:=⟨w1.heap.size,k,none⟩) (by simp;omega) _,by rw[<-HFN.o];exact I3.o.set k _,O3.o.set _ _ (by simp;omega),B3.o.setCell (p:=⟨w1.heap.size,k,none⟩) (by simp;omega) _⟩
    case measure=>simp[intOf];omega
  ·obtain rfl:k=m:=by omega
   have HE:Hid (outS (st l t k)=(xs,(p:Int),0)):=by
    unfold Hid;rw[HST.o];rfl
   have HI:Hid (IsI wr w1.heap.size 2 xs):=by
    have:=I3.o
    rw[fill_all xs k HXL.o]at this;exact this
   have c0:=O3.o.c0;have c1:=O3.o.c1;have c2:=O3.o.c2;have f0:=O3.o.fr 0;have f1:=O3.o.fr 1;have f2:=O3.o.fr 2;have HXK:Hid (k=xs.length):=HXL.o.symm
   go_wp2_with fail
   refine bodyPost_ret (v:=.agg #[.slice (some ⟨w1.heap.size,0,none⟩) k k,.int .i64 p,.int .i64 0]) (by simp[results,results181,go_sem,c0,c1,c2]) rfl ⟨.slice (some ⟨w1.heap.size,0,none⟩) k k,?_,?_,?_⟩
   ·rw[HE.o]
   ·rw[HE.o]
    refine .inr ⟨w1.heap.size,k,by rw[<-HXK.o],by omega,?_,?_⟩
    ·have:=HI.o.lt
     simpa [World.setCell] using this
    ·exact(((HI.o.set_other ⟨w.heap.size,0,none⟩ _ (by simp;omega)).set_other ⟨w.heap.size,1,none⟩ _ (by simp;omega)).set_other ⟨w.heap.size,2,none⟩ _ (by simp;omega)).own
   ·exact((B3.o.setCell nl _).setCell nl _).setCell nl _
end Bi
namespace Ze
open Bi (ret_boolB is_yes is_no)
open In (Ints OwnI IsO one_newI one_cellI app_one)
open In.Tryz (infoI2)
theorem nums_spec (l:List Int) (m:Int) (a:Option Addr) (cap B:Nat) (w:World) (hi:Ints w B a l) (hn:l.length<=1048576) :
  Calls prog 173 #[.slice a l.length cap,.int .i64 m] w fun e w'=>e=.returned (.bool (numsR l m))/\w'=w:=by
 have HS:=hideZ hi;clear hi;obtain⟨n,hln⟩:∃ n,n=l.length:=⟨_,rfl⟩;have HLN:=hideZ hln;rw[<-hln]at hn ⊢;clear hln;go_enter func173,ntmps173
 go_wp2_with fail
 go_loopw [5] (fun i wr=>∃ k:Nat,i=.int .i64 k/\k<=n/\(∀ j (hj:j<l.length),j<k->0<=l[j]/\l[j]<=m)/\wr=w) (fun i _=>n-(intOf i).toNat)
 case atStart=>exact⟨0,rfl,Nat.zero_le _,fun j hj h0=>absurd h0 (Nat.not_lt_zero j),rfl⟩
 case round =>
  obtain⟨k,rfl,hk,hall,hw⟩:=hrel;subst hw;have HA:=hideZ hall;clear hall;by_cases hlt:k<n
  ·have hkl:k<l.length:=by rw[<-HLN.o];exact hlt
   obtain⟨b,off,rfl,hb,hc⟩:=HS.o.some (by omega);have ci:=hc k hkl;obtain⟨x,hx⟩:∃ x,x=l[k]:=⟨_,rfl⟩;have HX:=hideZ hx;rw[<-hx]at ci;clear hc hx;by_cases h0:x<0∨m<x
   ·have HE:Hid (numsR l m=false):=by
     have:=upTo_bad (m:=m) hkl (by rw[<-HX.o];exact h0)
     unfold Hid numsR;rw[this,Bool.and_false]
    have HI:=hideZ (is_no x 0 m wr h0);clear h0;(go_wp2_with fail);refine HI.o.mono ?_;rintro e w' ⟨rfl,hw⟩;subst w';(go_wp2_with fail);go_ret;exact⟨ret_boolB HE.o.symm,rfl⟩
   ·have HI:=hideZ (is_yes x 0 m wr (by omega) (by omega))
    have HX2:Hid (0<=x/\x<=m):=by
     unfold Hid;omega
    clear h0;(go_wp2_with fail);refine HI.o.mono ?_;rintro e w' ⟨rfl,hw⟩;subst w';(go_wp2_with fail)
    go_roundw
    case rel =>
     refine⟨k+1,by go_num,by omega,fun j hj hjk=>?_,trivial⟩;by_cases e:j=k
     ·subst e
      rw[<-HX.o];exact HX2.o
     ·exact HA.o j hj (by omega)
    case measure=>simp[intOf];omega
  ·have HU:Hid (upTo l m=true):=upTo_of (fun x hx=>by
    obtain⟨j,hj,rfl⟩:=List.getElem_of_mem hx
    exact HA.o j hj (by have:=HLN.o;omega))
   by_cases h4:n<=400
   ·have HE:Hid (numsR l m=true):=by
     unfold Hid;rw[numsR_of (by have:=HLN.o;omega)];exact HU.o
    have h4':(n:Int)<=400:=by omega
    (go_wp2_with fail);go_ret;exact⟨ret_boolB HE.o.symm,rfl⟩
   ·have HE:Hid (numsR l m=false):=numsR_long (by have:=HLN.o;omega)
    have h4':decide ((n:Int)<=400)=false:=decide_eq_false (by omega);(go_wp2_with fail);go_ret;exact⟨ret_boolB HE.o.symm,rfl⟩
theorem run_spec (r:Nat) (w:World) (hs:r<=1048576) :
  Calls prog 174 #[.int .i64 r] w fun e w'=>∃ v,e=.returned v/\OwnI w' w.heap.size v (zrun r)/\v≠.slice none 0 0/\Below w.heap.size w w':=by
 obtain⟨i0,hi0,hz0,hz1,hz2⟩:=info_parts infoI2;have HW:=hideZ (OwnI.empty w);go_enter func174,ntmps174
 go_wp2_with fail
 go_loopw [3,0] (fun u m wr=>∃ (l':List Int) (r':Nat),m=.int .i64 r'/\OwnI wr w.heap.size u l'/\u≠.slice none 0 0/\l'++zrun r'=zrun r/\l'.length+r'<=1048576/\Below w.heap.size w wr) (fun _ m _=>(intOf m).toNat)
 case atStart=>exact⟨[],r,rfl,HW.o,by simp,rfl,by simpa using hs,(Below.refl _ _).alloc nl _⟩
 case round =>
  obtain⟨l',r',rfl,hown,hne,he,hs',hbel⟩:=hrel;have G1:=hideZ hown;have GB:=hideZ hbel;have HE:=hideZ he;have hz:=hbel.size;have HS:=hideZ hs'
  have hs2:r'<=1048576:=by omega
  clear he hbel hs';obtain⟨a',cap',rfl,_,_⟩:=hown.ints;have HNE:=hideZ hne;clear hown hne;by_cases h0:0<r'
  ·by_cases h1:r' % 2=1
   ·have hq:(r':Int).tmod 2=1:=by rw[Int.tmod_eq_emod_of_nonneg (by omega)];omega
    have hd:((r':Int)-1).tdiv 2=(((r' - 1)/2:Nat):Int):=by rw[Int.tdiv_eq_ediv_of_nonneg (by omega)];omega
    have HZ:Hid (l'++([0]++zrun ((r' - 1)/2))=zrun r):=by
     unfold Hid;rw[<-HE.o,zrun_odd h1];rfl
    go_wp2_with (at_builtin;refine wpList_append_own _ rfl (.tmp 10) (.tmp 11) 80 rfl w.heap.size 2 i0 (.int .i64 0) 1 8 underlying80 hi0 hz0 hz1 hz2 rfl (by decide) _ _ _ rfl (OwnI.alloc G1.o _) ⟨wr.heap.size,0,none⟩ 1 1 [.int .i64 0] rfl rfl (one_newI _ _ _) (one_cellI _) (by unfold maxLen;have:=HS.o;omega) (by have:=HS.o;omega) (by simp;omega) ?_)
    intro v' w5 hown' hgrow hnn;have N5:=hideZ (OwnI.snoc hown');have b5:=hideZ (app_one GB.o (by omega) nl G1.o hgrow);have HN5:Hid (v'≠.slice none 0 0):=hnn;clear hown' hgrow hnn;(go_wp2_with fail)
    go_roundw
    case rel=>exact⟨l'++[0],(r' - 1)/2,by go_num,N5.o,HN5.o,by rw[List.append_assoc];exact HZ.o,by have:=HS.o;simp;omega,b5.o⟩
    case measure=>simp[intOf];omega
   ·have hq:(r':Int).tmod 2=0:=by rw[Int.tmod_eq_emod_of_nonneg (by omega)];omega
    have hd:((r':Int)-2).tdiv 2=(((r' - 2)/2:Nat):Int):=by rw[Int.tdiv_eq_ediv_of_nonneg (by omega)];omega
    have HZ:Hid (l'++([1]++zrun ((r' - 2)/2))=zrun r):=by
     unfold Hid;rw[<-HE.o,zrun_even h0 h1];rfl
    go_wp2_with (at_builtin;refine wpList_append_own _ rfl (.tmp 16) (.tmp 17) 80 rfl w.heap.size 2 i0 (.int .i64 0) 1 8 underlying80 hi0 hz0 hz1 hz2 rfl (by decide) _ _ _ rfl (OwnI.alloc G1.o _) ⟨wr.heap.size,0,none⟩ 1 1 [.int .i64 1] rfl rfl (one_newI _ _ _) (one_cellI _) (by unfold maxLen;have:=HS.o;omega) (by have:=HS.o;omega) (by simp;omega) ?_)
    intro v' w5 hown' hgrow hnn;have N5:=hideZ (OwnI.snoc hown');have b5:=hideZ (app_one GB.o (by omega) nl G1.o hgrow);have HN5:Hid (v'≠.slice none 0 0):=hnn;clear hown' hgrow hnn;(go_wp2_with fail)
    go_roundw
    case rel=>exact⟨l'++[1],(r' - 2)/2,by go_num,N5.o,HN5.o,by rw[List.append_assoc];exact HZ.o,by have:=HS.o;simp;omega,b5.o⟩
    case measure=>simp[intOf];omega
  ·obtain rfl:r'=0:=by omega
   have HZ:Hid (l'=zrun r):=by
    unfold Hid;rw[<-HE.o,zrun_zero,List.append_nil]
   go_wp2_with fail
   go_ret;exact⟨_,rfl,by rw[<-HZ.o];exact G1.o,HNE.o,GB.o⟩
theorem own_some {w:World} {base:Nat} {v:Value} {l:List Int} (h:OwnI w base v l) (hn:v≠.slice none 0 0) :
  ∃ g cap,v=.slice (some ⟨g,0,none⟩) l.length cap/\base<=g/\g<w.heap.size/\IsO w g 2 l:=by
 rcases h.split with⟨rfl,_⟩|⟨g,cap,rfl,hg,_,ho⟩
 ·exact absurd rfl hn
 ·exact⟨g,cap,rfl,hg,ho.lt,ho⟩
theorem own_news {w:World} {g:Nat} {l:List Int} (h:IsO w g 2 l):∀ (j:Nat) (u:Value),(l.map (Value.int .i64))[j]? = some u->w.cell? ((⟨g,0,none⟩:Addr).add j)=some u:=by
 intro j u hj;rw[List.getElem?_map]at hj
 cases hl:l[j]? with
 |none=>rw[hl]at hj;cases hj
 |some x =>
  rw[hl]at hj;obtain⟨hlt,hx⟩:=List.getElem?_eq_some_iff.1 hl
  have hadd:(⟨g,0,none⟩:Addr).add j=⟨g,j,none⟩:=by unfold Addr.add;split<;>simp_all
  rw[hadd,h.cell hlt,hx];exact hj
theorem own_cells (l:List Int):∀ u∈l.map (Value.int .i64),u.oneCell'=true:=by
 intro u hu;obtain⟨x,_,rfl⟩:=List.mem_map.1 hu;rfl
theorem OwnI.joined {w:World} {base:Nat} {v:Value} {l p:List Int} (h:w.ownsRow base 2 1 v (l.length+p.length) (l.map (Value.int .i64)++p.map (Value.int .i64))):OwnI w base v (l++p):=by
 unfold OwnI;rw[List.length_append,List.map_append];exact h
theorem app_row {B base:Nat} {e:TypeId} {w0 w w1:World} {v:Value} {n size:Nat} {xs:List Value} (hbel:Below B w0 w) (hB:B<=w.heap.size) (hBb:B<=base)
  (hown:w.ownsRow base e size v n xs) (hgrow:w.grownBy w1 v.ownBlock):Below B w0 w1:=by
 refine hbel.grown hgrow hB ?_;intro k hk;exact Nat.le_trans hBb (hown.lt k hk).1
end Ze
namespace Fr
open Sh (IsB rowF upd made_row upd_same upd_other strF)
open Ze (hideZ numsR upTo upTo_yes numsR_of numsR_long numsR_yes nums_spec)
open Bi (upTo_impl)
open St (Aft)
open In (Ints)
open Nu (ret_strJ bv own_string app_below)
def fillB (b:List UInt8):Nat->Nat:=fun j=>(b.getD j 0).toNat
theorem fillB_lt (b:List UInt8) (j:Nat):fillB b j<256:=UInt8.toNat_lt _
theorem fillB_next (b:List UInt8) (k:Nat) (x:Int) (hk:b.length=k) (h0:0<=x) (h1:x<256) (j:Nat) :
  upd (fun j=>((fillB b j:Nat):Int)) k x j=((fillB (b++[UInt8.ofNat x.toNat]) j:Nat):Int):=by
 unfold upd fillB;subst hk;by_cases e:j=b.length
 ·subst e
  rw[if_pos rfl,List.getD_eq_getElem?_getD,List.getElem?_append_right nl];simp;omega
 ·rw[if_neg e]
  simp only[List.getD_eq_getElem?_getD];by_cases h:j<b.length
  ·rw[List.getElem?_append_left h]
  ·rw[List.getElem?_eq_none (by omega),List.getElem?_eq_none (by simp;omega)]
theorem fillB_all (b:List UInt8):strF b.length (fillB b)=⟨b.toArray⟩:=by
 unfold strF
 congr 1
 congr 1
 apply List.ext_getElem
 ·simp
 ·intro i h1 h2
  have h3:i<b.length:=by simpa using h1
  simp[fillB,List.getD_eq_getElem?_getD,List.getElem?_eq_getElem h3]
theorem frontBack_impl (l:List Int) (a:Option Addr) (cap B:Nat) (w:World) (hi:Ints w B a l) (hB:B<=w.heap.size) (hn:l.length<=1048576) :
  Calls prog 182 #[.slice a l.length cap] w fun e w'=>e=.returned (.string ⟨(fbackR l).toArray⟩)/\Below w.heap.size w w':=by
 obtain⟨i0,hi0,hz0,hz1,hz2⟩:=info_parts Nu.Tryz.infoJ5;by_cases hlong:400<l.length
 ·rw[fbackR_no (numsR_long hlong)]
  clear hi;generalize l.length=n at hlong hn ⊢;go_enter func182,ntmps182
  go_wp2_with fail
  go_ret;exact⟨rfl,Below.refl _ _⟩
 ·have HU:=hideZ (upTo_impl l 255 a cap B w hi hn)
  cases hu:upTo l 255 with
  |false =>
   rw[fbackR_no ((numsR_of (by omega)).trans hu)];rw[hu]at HU;clear hi hu;generalize l.length=n at HU hlong hn ⊢;have hd:decide (400<(n:Int))=false:=decide_eq_false (by omega);go_enter func182,ntmps182
   go_wp2_with fail
   refine HU.o.mono ?_;rintro e w' ⟨rfl,hw⟩;subst w'
   go_wp2_with fail
   go_ret;exact⟨rfl,Below.refl _ _⟩
  |true =>
   rw[fbackR_yes ((numsR_of (by omega)).trans hu)];have HUP:=hideZ (upTo_yes hu);rw[hu]at HU;have HS:=hideZ (hi.mono hB);clear hi hu;obtain⟨n,hln⟩:∃ n,n=l.length:=⟨_,rfl⟩;have HLN:=hideZ hln;rw[<-hln]at HU hlong ⊢;clear hln hn;have hd:decide (400<(n:Int))=false:=decide_eq_false (by omega);go_enter func182,ntmps182
   go_wp2_with fail
   refine HU.o.mono ?_;rintro e w' ⟨rfl,hw⟩;subst w'
   go_wp2_with fail
   refine(rising_impl w).mono ?_;rintro e w1 ⟨rfl,hb1⟩;have HB1:=hideZ hb1;have z1:=hb1.size;clear hb1
   go_wp2_with (first|((with_reducible refine wpList_alloc_row Tryz.zeroA175 ?_);intro w2 hb2 hbel2 hs2 ho2;have G2:=hideZ hb2;have HB2:=hideZ (HB1.o.trans (hbel2 _ z1));clear hb2 hbel2 ho2)|((with_reducible refine Sh.wpList_store_row' G2.o Tryz.sizeA175 row0 ?_ ?_ ?_);(· rfl);(· rfl);intro w3 hb3 hbel3 hs3 ho3;have G3:=hideZ hb3;have HB3:=hideZ (HB2.o.trans (hbel3 _ z1));clear hb3 hbel3 ho3)|(at_make;refine wpList_make_full _ rfl (.tmp 17) (.tmp 17) 22 rfl w3.heap.size 5 i0 (.int .u8 0) 1 underlying22 hi0 hz0 hz1 .i64 .i64 _ _ n rfl rfl (by simp) (by simp) (by rw[hz2];omega) (by unfold maxLen;omega) nl ?_;intro w4 hown4 hgrow4;have HR4:=hideZ (made_row hown4);have hb4:=(Below.refl w3.heap.size w3).grown hgrow4 nl (by simp);have G4:=hideZ (G3.o.below hb4 (by omega));have HB4:=hideZ (HB3.o.trans (hb4.mono (by omega)));clear hown4 hgrow4 hb4))
   obtain⟨g1,hg1⟩:∃ g1,g1=w1.heap.size:=⟨_,rfl⟩
   have e3:w3.heap.size=w1.heap.size+1:=by omega
   rw[e3]at HR4
   have hgw:w.heap.size<=g1:=by omega
   rw[<-hg1]at G4 HR4 ⊢;obtain⟨g2,hg2⟩:∃ g2,g2=g1+1:=⟨_,rfl⟩
   have hg12:g1<g2:=by omega
   rw[<-hg2]at HR4 ⊢;clear e3;clear hg1 hg2 hs2 hs3 z1 HU
   go_loopw [21] (fun i wr=>∃ k:Nat,i=.int .i64 k/\k<=n/\IsB wr g1 175 .u8 256 (kst (l.take k)).2/\IsB wr g2 5 .u8 n (fun j=>((fillB (kst (l.take k)).1 j:Nat):Int))/\Below w.heap.size w wr) (fun i _=>n-(intOf i).toNat)
   case atStart=>exact⟨0,rfl,Nat.zero_le _,G4.o,HR4.o.congr (fun j _=>by simp[fillB,kst]),HB4.o⟩
   case round =>
    obtain⟨k,rfl,hk,hrow,htxt,hbel⟩:=hrel;obtain⟨hfull,hlen⟩:=kst_full l HUP.o k (by have:=HLN.o;omega);have R1:=hideZ hrow;have T1:=hideZ htxt;have GB:=hideZ hbel;clear hbel;by_cases hlt:k<n
    ·have hkl:k<l.length:=by rw[<-HLN.o];exact hlt
     obtain⟨b,off,rfl,hb,hc⟩:=(HS.o.below GB.o).some (by omega);have ci:=hc k hkl;have hx255:=HUP.o _ (List.getElem_mem hkl);have HM:=hideZ (kst_more hkl);obtain⟨x,hx⟩:∃ x,x=l[k]:=⟨_,rfl⟩;rw[<-hx]at ci hx255 HM;obtain⟨p,rfl⟩:∃ p:Nat,x=p:=⟨x.toNat,by omega⟩;have hp:p<256:=(by omega);have hfp:=hfull.2 p hp;rw[Int.toNat_natCast]at HM;obtain⟨f,hf⟩:∃ f,f=(kst (l.take k)).2:=⟨_,rfl⟩;obtain⟨bs,hbs⟩:∃ bs,bs=(kst (l.take k)).1:=⟨_,rfl⟩;rw[<-hf]at R1 HM hrow hfp;rw[<-hbs]at T1 HM hlen htxt;have c1:=hrow.cell (j:=p) hp;have c2:=htxt.cell (j:=k) hlt;have f2:=htxt.frozen k;obtain⟨y,hy⟩:∃ y,y=f p:=⟨_,rfl⟩;have HY:=hideZ hy;rw[<-hy]at c1 hfp;have HT2:=hideZ ((htxt.set k y).congr (fun j _=>fillB_next bs k y hlen hfp.1 hfp.2 j));have HR2:=hideZ (hrow.set_other ⟨g2,k,none⟩ (.int .u8 y) (by simp;omega));have HBr:=hideZ (bring_impl g1 p 175 f _ HR2.o hp);rw[<-hy]at HM;clear hc hx hf hbs hrow htxt hfull hlen hy;(go_wp2_with fail);refine HBr.o.mono ?_;rintro e w5 ⟨rfl,hb5,ha5⟩;have G5:=hideZ hb5;have T5:=hideZ (HT2.o.of_heap (ha5.2.2.2.2 g2 HT2.o.lt (by omega)));have B5:=hideZ (Aft.below (GB.o.setCell (p:=⟨g2,k,none⟩) (by simp;omega) (.int .u8 y)) ha5 (by omega) (by have:=HT2.o.lt;omega));clear hb5 ha5;(go_wp2_with fail)
     go_roundw
     case rel=>exact⟨k+1,by go_num,by omega,by rw[HM.o];exact G5.o,by rw[HM.o];exact T5.o,B5.o⟩
     case measure=>simp[intOf];omega
    ·obtain rfl:k=n:=by omega
     have HT:Hid (l.take k=l):=by
      unfold Hid;rw[HLN.o,List.take_length]
     rw[HT.o]at htxt hlen;have hcv:=htxt.str (P:=prog) (src:=22) (dst:=9) k k nl (fun j _=>fillB_lt _ j) underlying22 underlying5 underlying9
     have HF:Hid (strF k (fillB (kst l).1)=⟨(kst l).1.toArray⟩):=by
      unfold Hid;rw[<-hlen];exact fillB_all _
     rw[HF.o]at hcv;clear hrow htxt hfull hlen;(go_wp2_with fail);go_ret;exact⟨rfl,GB.o⟩
end Fr
namespace Ze
open In (Ints OwnI IsO one_newI one_cellI app_one)
open In.Tryz (infoI2)
theorem zerosOf_spec (l:List Int) (a:Option Addr) (cap B:Nat) (w:World) (hi:Ints w B a l) (hB:B<=w.heap.size) (hn:l.length<=1048576) :
  Calls prog 133 #[.slice a l.length cap] w fun e w'=>∃ v,e=.returned v/\OwnI w' w.heap.size v (zerosR l)/\Below w.heap.size w w':=by
 obtain⟨i0,hi0,hz0,hz1,hz2⟩:=info_parts infoI2;have hb0:Below w.heap.size w (w.alloc (.cells #[] 2)):=(Below.refl _ _).alloc nl _;have HU:=hideZ (nums_spec l 255 a cap w.heap.size (w.alloc (.cells #[] 2)) ((hi.mono hB).below hb0) hn);have HW:=hideZ (OwnI.empty w);have HB0:=hideZ hb0
 cases hu:numsR l 255 with
 |false =>
  rw[zerosR_no hu];rw[hu]at HU;clear hi hu hb0;generalize l.length=n at HU hn ⊢;go_enter func133,ntmps133
  go_wp2_with fail
  refine HU.o.mono ?_;rintro e w' ⟨rfl,hw⟩;subst w'
  go_wp2_with fail
  go_ret;exact⟨_,rfl,HW.o,HB0.o⟩
 |true =>
  rw[zerosR_yes hu];have HUP:=hideZ (upTo_yes (numsR_yes hu).2);have hlong:=(numsR_yes hu).1;rw[hu]at HU;have HS:=hideZ (hi.mono hB);clear hi hu hb0;obtain⟨n,hln⟩:∃ n,n=l.length:=⟨_,rfl⟩;have HLN:=hideZ hln;rw[<-hln]at HU hlong ⊢;clear hln hn;go_enter func133,ntmps133
  go_wp2_with fail
  refine HU.o.mono ?_;rintro e w' ⟨rfl,hw⟩;subst w'
  go_wp2_with fail
  go_loopw [5,3,4] (fun i u m wr=>∃ k z:Nat,i=.int .i64 k/\m=.int .i64 z/\k<=n/\z=(zst (l.take k)).2/\OwnI wr w.heap.size u (zst (l.take k)).1/\Below w.heap.size w wr) (fun i _ _ _=>n-(intOf i).toNat)
  case atStart=>exact⟨0,0,rfl,rfl,Nat.zero_le _,rfl,HW.o,HB0.o⟩
  case round =>
   obtain⟨k,z,rfl,rfl,hk,hz,hown,hbel⟩:=hrel;have hzl:=zst_len (l.take k);rw[List.length_take]at hzl
   have hzk:(zst (l.take k)).1.length+z<=k:=by omega
   have GB:=hideZ hbel;have HZ:=hideZ hz;have hsz:=hbel.size;have hrl:=zrun_len z;obtain⟨a',cap',rfl,_,_⟩:=hown.ints;obtain⟨lk,hlk⟩:∃ lk,lk=(zst (l.take k)).1:=⟨_,rfl⟩;rw[<-hlk]at hown hzk ⊢;have G1:=hideZ hown;have HLK:=hideZ hlk;clear hz hown hbel hlk hzl;have HRS:=hideZ (fun W=>run_spec z W (by omega));by_cases hlt:k<n
   ·have hkl:k<l.length:=by rw[<-HLN.o];exact hlt
    obtain⟨b,off,rfl,hb,hc⟩:=(HS.o.below GB.o).some (by omega);have ci:=hc k hkl;have hx255:=HUP.o _ (List.getElem_mem hkl);obtain⟨x,hx⟩:∃ x,x=l[k]:=⟨_,rfl⟩;have HX:=hideZ hx;rw[<-hx]at ci hx255;clear hc hx;by_cases h0:x=0
    ·have HZ1:Hid (zst (l.take (k+1))=(lk,z+1)):=by
      unfold Hid;rw[zst_zero hkl (by rw[<-HX.o];exact h0),HZ.o,HLK.o]
     have hbx:(x==0)=true:=beq_iff_eq.2 h0;clear h0;(go_wp2_with fail)
     go_roundw
     case rel=>exact⟨k+1,z+1,by go_num,by go_num,by omega,by rw[HZ1.o],by rw[HZ1.o];exact G1.o,GB.o⟩
     case measure=>simp[intOf];omega
    ·have HZ1:Hid (zst (l.take (k+1))=(lk++zrun z++[x+1],0)):=by
      unfold Hid;rw[zst_other hkl (by rw[<-HX.o];exact h0),HZ.o,HX.o,HLK.o]
     have hbx:(x==0)=false:=beq_eq_false_iff_ne.2 h0;clear h0;(go_wp2_with fail);refine(HRS.o wr).mono ?_;rintro e w4 ⟨v4,rfl,hown4,hne4,hbel4⟩;have G4:=hideZ (G1.o.below hbel4);have B4:=hideZ (GB.o.trans (hbel4.mono hsz));have z4:=hbel4.size;obtain⟨g4,cap4,rfl,hg4,hg4',ho4⟩:=own_some hown4 hne4;have O4:=hideZ ho4;clear hown4 hbel4 hne4 ho4;obtain⟨rl,hrl2⟩:∃ rl,rl=zrun z:=⟨_,rfl⟩;rw[<-hrl2]at O4 hrl HZ1 ⊢;clear hrl2 HRS
     go_wp2_with (at_builtin;refine wpList_append_own _ rfl (.tmp 24) (.tmp 26) 80 rfl w.heap.size 2 i0 (.int .i64 0) 1 8 underlying80 hi0 hz0 hz1 hz2 rfl (by decide) _ _ _ rfl G4.o ⟨g4,0,none⟩ _ cap4 (rl.map (Value.int .i64)) rfl (by simp) (own_news O4.o) (own_cells rl) (by unfold maxLen;omega) (by omega) (by omega) ?_)
     intro v' w5 hown' hgrow _;have hown5:=OwnI.joined hown';have b5:=app_row B4.o (by omega) nl G4.o hgrow
     have HL4:Hid ((lk++rl).length<=400):=by
      unfold Hid;rw[List.length_append];omega
     obtain⟨l4,hl4⟩:∃ l4,l4=lk++rl:=⟨_,rfl⟩;rw[<-hl4]at hown5 HZ1 HL4;have N5:=hideZ hown5;have B5:=hideZ b5;have z5:=b5.size;obtain⟨a5,cap5,rfl,_,_⟩:=hown5.ints
     have c5:w5.cell? ⟨b,off+k,none⟩=some (.int .i64 x):=by
      have h1:=((HS.o.below b5).some (by omega:0<l.length));obtain⟨b',off',e1,_,hc'⟩:=h1
      cases e1
      rw[hc' k hkl,HX.o]
     clear hown' hgrow hown5 b5 hl4 ci
     go_wp2_with (at_builtin;refine wpList_append_own _ rfl (.tmp 28) (.tmp 34) 80 rfl w.heap.size 2 i0 (.int .i64 0) 1 8 underlying80 hi0 hz0 hz1 hz2 rfl (by decide) _ _ _ rfl (OwnI.alloc N5.o _) ⟨w5.heap.size,0,none⟩ 1 1 [.int .i64 (x+1)] rfl rfl (one_newI _ _ _) (one_cellI _) (by unfold maxLen;have:=HL4.o;omega) (by have:=HL4.o;omega) (by simp;omega) ?_)
     intro v' w6 hown' hgrow _;have N6:=hideZ (OwnI.snoc hown');have b6:=hideZ (app_one B5.o (by omega) nl N5.o hgrow);clear hown' hgrow;(go_wp2_with fail)
     go_roundw
     case rel=>exact⟨k+1,0,by go_num,rfl,by omega,by rw[HZ1.o],by rw[HZ1.o];exact N6.o,b6.o⟩
     case measure=>simp[intOf];omega
   ·have hkn:k=l.length:=by have:=HLN.o;omega
    have HT:Hid (l.take k=l):=by
     unfold Hid;rw[hkn,List.take_length]
    have HR:Hid ((zst l).1++zrun (zst l).2=lk++zrun z):=by
     unfold Hid;rw[HLK.o,HZ.o,HT.o]
    clear hkn;(go_wp2_with fail);refine(HRS.o wr).mono ?_;rintro e w4 ⟨v4,rfl,hown4,hne4,hbel4⟩;have G4:=hideZ (G1.o.below hbel4);have B4:=hideZ (GB.o.trans (hbel4.mono hsz));have z4:=hbel4.size;obtain⟨g4,cap4,rfl,hg4,hg4',ho4⟩:=own_some hown4 hne4;have O4:=hideZ ho4;clear hown4 hbel4 hne4 ho4;obtain⟨rl,hrl2⟩:∃ rl,rl=zrun z:=⟨_,rfl⟩;rw[<-hrl2]at O4 hrl HR ⊢;clear hrl2 HRS
    go_wp2_with (at_builtin;refine wpList_append_own _ rfl (.tmp 36) (.tmp 38) 80 rfl w.heap.size 2 i0 (.int .i64 0) 1 8 underlying80 hi0 hz0 hz1 hz2 rfl (by decide) _ _ _ rfl G4.o ⟨g4,0,none⟩ _ cap4 (rl.map (Value.int .i64)) rfl (by simp) (own_news O4.o) (own_cells rl) (by unfold maxLen;omega) (by omega) (by omega) ?_)
    intro v' w5 hown' hgrow _;have N5:=hideZ (OwnI.joined hown');have B5:=hideZ (app_row B4.o (by omega) nl G4.o hgrow);clear hown' hgrow;(go_wp2_with fail);go_ret;exact⟨_,rfl,by rw[HR.o];exact N5.o,B5.o⟩
end Ze
end Go.Proofs.YtaejgfdkfcmjeaaGreatDoor
