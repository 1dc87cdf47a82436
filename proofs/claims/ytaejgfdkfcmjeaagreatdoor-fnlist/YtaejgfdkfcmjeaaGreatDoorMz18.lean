import Derived.Test.YtaejgfdkfcmjeaaGreatDoorMz16
import Derived.Test.YtaejgfdkfcmjeaaGreatDoorMz17
import Derived.Test.YtaejgfdkfcmjeaaGreatDoorMz20
import Derived.Test.YtaejgfdkfcmjeaaGreatDoorMz11
set_option maxRecDepth 100000
set_option maxHeartbeats 8000000
namespace Go.Proofs.YtaejgfdkfcmjeaaGreatDoor
open Go.RowKit
open Go.Proofs.Tryz
namespace Pk
open St (Strs IsS made_strs)
open In (Ints IsI OwnI made_ints)
open Nu (putS)
theorem hideP {p:Prop} (h:p):Hid p:=h
def cat (l:List ByteArray):List UInt8:=l.flatMap fun s=>s.data.toList
theorem cat_next (l:List ByteArray) (k:Nat) (h:k<l.length):cat (l.take (k+1))=cat (l.take k)++l[k].data.toList:=by
 rw[List.take_add_one,List.getElem?_eq_getElem h];unfold cat;rw[List.flatMap_append];simp
theorem cat_take_le (l:List ByteArray) (k:Nat):(cat (l.take k)).length<=(cat l).length:=by
  have:cat l=cat (l.take k)++cat (l.drop k):=by
   unfold cat;rw[<-List.flatMap_append,List.take_append_drop]
  rw[this,List.length_append];omega
theorem join_any (l:List ByteArray) (a:Option Addr) (cap n:Nat) (w:World) (h:Strs w w.heap.size a l) (hn:l.length=n) (hn2:n<=1048576) (hc:(cat l).length<=1048576) :
  Calls prog 31 #[.slice a n cap] w fun e w'=>e=.returned (.string ⟨(cat l).toArray⟩)/\Below w.heap.size w w':=by
 have HN:=hideP hn;have HS:=hideP h;have HC:=hideP (fun k=>Nat.le_trans (cat_take_le l k) hc);clear h hn hc;go_enter func31,ntmps31
 go_wp2_with fail
 go_loopw [8,5] (fun i _ wr=>∃ k:Nat,i=.int .i64 k/\k<=n/\Lib.IsBuilder 83 5 w.heap.size w.heap.size (Lib.byteCells (cat (l.take k))) wr/\Below w.heap.size w wr/\w.heap.size<=wr.heap.size) (fun i _ _=>n-(intOf i).toNat)
 case atStart=>exact⟨0,rfl,Nat.zero_le _,Lib.fresh_isBuilder _ _ w,(Below.refl _ _).alloc nl _,by simp⟩
 case round =>
  obtain⟨k,rfl,hk,hbu,hbel,hbz⟩:=hrel;have HBU:=hideP hbu;have GB:=hideP hbel;clear hbu hbel;by_cases hlt:k<n
  ·have hkl:k<l.length:=by rw[HN.o];exact hlt
   obtain⟨b,off,rfl,hb,hcl⟩:∃ b off,a=some ⟨b,off,none⟩/\b<w.heap.size/\∀ j (h:j<l.length),wr.cell? ⟨b,off+j,none⟩=some (.string l[j]):=by
    rcases HS.o.below GB.o with h0|h
    ·subst h0
     simp at hkl
    ·exact h
   have ci:=hcl k hkl;have HNX:=hideP (cat_next l k hkl);have h1:=HC.o (k+1);rw[HNX.o,List.length_append]at h1;generalize l[k]=s at ci HNX h1
   have hss:s.data.toList.length=s.size:=by simp
   have HLE:Hid ((Lib.byteCells (cat (l.take k))).length+s.size<=140737488355328):=by
    unfold Hid;rw[Lib.byteCells_length];omega
   have HNC:Hid (Lib.byteCells (cat (l.take k))++Lib.strCells s=Lib.byteCells (cat (l.take (k+1)))):=by
    unfold Hid;rw[HNX.o,Lib.byteCells_append,Lib.strCells_eq]
   have HWR:=hideP (Sb.write_any w.heap.size w.heap.size _ s wr HBU.o HLE.o hbz);clear hcl h1 hss hkl
   go_wp2_with fail
   refine HWR.o.mono ?_;rintro e w2 ⟨rfl,hbt,hb2⟩;rw[HNC.o]at hbt;have HBT:=hideP hbt;have B2:=hideP (GB.o.trans hb2);have z2:=hb2.size;clear hbt hb2
   go_wp2_with fail
   go_roundw
   case rel=>exact⟨k+1,by go_num,by omega,Or.inr HBT.o,B2.o,by omega⟩
   case measure=>simp[intOf];omega
  ·obtain rfl:k=n:=by omega
   have HE:Hid (cat (l.take k)=cat l):=by
    unfold Hid;rw[List.take_of_length_le (by rw[HN.o];exact nl)]
   have HST:=hideP (Sb.string_any w.heap.size w.heap.size _ wr HBU.o hbz);rw[HE.o]at HST
   go_wp2_with fail
   refine HST.o.mono ?_;rintro e w2 ⟨rfl,hb2⟩;have B2:=hideP (GB.o.trans hb2);clear hb2
   go_wp2_with fail
   go_ret;exact⟨rfl,B2.o⟩
def numsL (l:List Int):List UInt8:=l.flatMap fun x=>(putS x).data.toList
def putsN (l:List Int) (k:Nat):List ByteArray:=(l.take k).map putS++List.replicate (l.length-k) ⟨#[]⟩
theorem putsN_all (l:List Int):cat (putsN l l.length)=numsL l:=by
 unfold putsN cat numsL;rw[List.take_length,Nat.sub_self,List.replicate_zero,List.append_nil,List.flatMap_map]
theorem putsN_length (l:List Int) (k:Nat) (h:k<=l.length):(putsN l k).length=l.length:=by
 unfold putsN;rw[List.length_append,List.length_map,List.length_take,List.length_replicate];omega
theorem putsN_next (l:List Int) (k:Nat) (h:k<l.length):(putsN l k).set k (putS l[k])=putsN l (k+1):=by
 have hl:((l.take k).map putS).length=k:=by rw[List.length_map,List.length_take];omega
 unfold putsN;rw[List.set_append,if_neg (by omega),hl,Nat.sub_self,show l.length-k=(l.length-(k+1))+1 by omega,List.replicate_succ,List.set_cons_zero,List.take_add_one,List.getElem?_eq_getElem h,List.map_append,List.append_assoc];rfl
theorem putsN_zero (l:List Int):putsN l 0=List.replicate l.length ⟨#[]⟩:=by
 unfold putsN;simp
theorem putS_size (n:Int):(putS n).size<=10:=by
 show (Nu.numB (Nu.zz n)).toArray.size<=10
 rw[List.size_toArray];unfold Nu.numB;rw[Nu.numL_length]
 have:=Nu.cnt_le 9 (Nu.zz n)
 omega
theorem numsL_le (l:List Int):(numsL l).length<=10*l.length:=by
 induction l with
 |nil=>exact nl
 |cons x l ih =>
  have h1:=ih;have h3:=putS_size x
  have h4:(putS x).data.toList.length=(putS x).size:=by simp
  unfold numsL at h1 ⊢;rw[List.flatMap_cons,List.length_append,List.length_cons];omega
theorem nums_any (l:List Int) (a:Option Addr) (cap n:Nat) (w:World) (h:Ints w w.heap.size a l) (hn:l.length=n) (hn2:n<=100000) (hr:∀ x∈l,-9223372036854775808<=x/\x<=9223372036854775807) :
  Calls prog 32 #[.slice a n cap] w fun e w'=>e=.returned (.string ⟨(numsL l).toArray⟩)/\Below w.heap.size w w':=by
 obtain⟨i0,hi0,hz0,hz1,hz2⟩:=info_parts St.Tryz.infoS9;have HN:=hideP hn;have HS:=hideP h;have HR:=hideP hr;have HLE:=hideP (numsL_le l);clear h hn hr;go_enter func32,ntmps32
 go_wp2_with (at_make;refine wpList_make_full _ rfl (.tmp 7) (.tmp 7) 34 rfl w.heap.size 9 i0 (.string ⟨#[]⟩) 1 underlying34 hi0 hz0 hz1 .i64 .i64 _ _ n rfl rfl (by simp) (by simp) (by rw[hz2];omega) (by unfold maxLen;omega) nl ?_;intro w1 hown hgrow;have HI1:=hideP (made_strs hown);have HB1:=hideP ((Below.refl w.heap.size w).grown hgrow nl (by simp));clear hown hgrow)
 have z1:=HI1.o.lt
 go_loopw [11,4,5] (fun i _ _ wr=>∃ k:Nat,i=.int .i64 k/\k<=n/\IsS wr w.heap.size 9 (putsN l k)/\Below w.heap.size w wr) (fun i _ _ _=>n-(intOf i).toNat)
 case atStart=>exact⟨0,rfl,Nat.zero_le _,by rw[putsN_zero,HN.o];exact HI1.o,HB1.o⟩
 case round =>
  obtain⟨k,rfl,hk,hsr,hbw⟩:=hrel;have SR:=hideP hsr;have BW:=hideP hbw;have hzr:=hbw.size;clear hsr hbw;by_cases hlt:k<n
  ·have hkl:k<l.length:=by rw[HN.o];exact hlt
   obtain⟨b,off,rfl,hb,hcl⟩:=(HS.o.below BW.o).some (by omega);have ci:=hcl k hkl;have HNX:=hideP (putsN_next l k hkl);have hx:=HR.o l[k] (List.getElem_mem hkl)
   have hpl:k<(putsN l k).length:=by rw[putsN_length l k (by omega)];exact hkl
   have HOLD:=hideP (fun (W:World) (hW:IsS W w.heap.size 9 (putsN l k))=>hW.cell hpl);generalize l[k]=x at ci HNX hx;generalize (putsN l k)[k]=old at HOLD
   have hkn:(k:Int)<n:=by omega
   clear hcl hkl hpl
   go_wp2_with fail
   refine(Nu.put_impl x _ hx.1 hx.2).mono ?_;rintro e w2 ⟨rfl,hb2⟩;have S2:=hideP (SR.o.below hb2 SR.o.lt);have B2:=hideP (BW.o.trans (hb2.mono hzr));have c2:=HOLD.o w2 S2.o;have f2:=S2.o.frozen k;clear hb2
   go_wp2_with fail
   go_roundw
   case rel=>exact⟨k+1,by go_num,by omega,by rw[<-HNX.o];exact S2.o.set k _,B2.o.setCell (by simp) _⟩
   case measure=>simp[intOf];omega
  ·obtain rfl:k=n:=by omega
   have HJ:Hid (Calls prog 31 #[.slice (some ⟨w.heap.size,0,none⟩) k k] wr fun e w'=>e=.returned (.string ⟨(numsL l).toArray⟩)/\Below wr.heap.size wr w'):=by
    have hlk:k=l.length:=HN.o.symm
    have:=join_any (putsN l k) (some ⟨w.heap.size,0,none⟩) k k wr (SR.o.strs SR.o.lt) (by rw[putsN_length l k (by omega)];exact HN.o) (by omega) (by rw[hlk,putsN_all];have:=HLE.o;omega)
    rw[hlk,putsN_all]at this;rw[hlk];exact this
   go_wp2_with fail
   refine HJ.o.mono ?_;rintro e w2 ⟨rfl,hb2⟩;have B2:=hideP (BW.o.trans (hb2.mono hzr));clear hb2
   go_wp2_with fail
   go_ret;exact⟨rfl,B2.o⟩
end Pk
namespace Gn
open Go.RowKit Go.Proofs.YtaejgfdkfcmjeaaGreatDoor.Jump
def errV (c:Int):Value:=if c=0 then .nilIface else .iface 137 (.agg #[.int .i64 c])
def bitsV (r:Nat × Nat × Int):Value:=.tuple #[.int .u64 r.1,.int .i64 r.2.1,errV r.2.2]
def J (s : ByteArray) (a : Nat) (w : World) (l : Nat) (a' : Act) (w' : World) : Prop :=
  w' = w ∧
  ((l = 0 ∧ ∃ (k v p : Nat) (x8 : Value) (x10 x11 x12 x13 x14 x15 x16 x17 x18 x19 x20 x21 x22 x23 x24 x25 x26 x27 x28 x29 x30 x31 x32 x33 x34 x35 x36 x37 x38 x39 x40 x41 x42 x43 x44 x45 x46 x47 x48 : Value), a' = { tmps := #[.string s, .int .i64 (p : Nat), undef, undef, .int .u64 0, .int .i64 0, .nilIface, .int .u64 (v : Nat), x8, .int .i64 (k : Nat), x10, x11, x12, x13, x14, x15, x16, x17, x18, x19, x20, x21, x22, x23, x24, x25, x26, x27, x28, x29, x30, x31, x32, x33, x34, x35, x36, x37, x38, x39, x40, x41, x42, x43, x44, x45, x46, x47, x48], defers := [] } ∧ 1 ≤ k ∧ k ≤ 9 ∧ p ≤ 8000 ∧ v < 2 ^ (7 * k) ∧ numR s a = run s (10 - k) k p v) ∨
   (l = 2 ∧ ∃ (k v p c : Nat) (x10 x11 x12 x13 x14 x15 x16 x17 x18 x19 x20 x21 x22 x23 x24 x25 x26 x27 x28 x29 x30 x31 x32 x33 x34 x35 x36 x37 x38 x39 x40 x41 x42 x43 x44 x45 x46 x47 x48 : Value), a' = { tmps := #[.string s, .int .i64 (p : Nat), undef, undef, .int .u64 0, .int .i64 0, .nilIface, .int .u64 (v : Nat), .int .u8 (c : Nat), .int .i64 (k : Nat), x10, x11, x12, x13, x14, x15, x16, x17, x18, x19, x20, x21, x22, x23, x24, x25, x26, x27, x28, x29, x30, x31, x32, x33, x34, x35, x36, x37, x38, x39, x40, x41, x42, x43, x44, x45, x46, x47, x48], defers := [] } ∧ 1 ≤ k ∧ k ≤ 10 ∧ c < 128 ∧ numR s a = if c = 0 ∧ 1 < k then (0, 0, 3) else (v, p, 0)) ∨
   (l = 1 ∧ ∃ (k v p : Int) (x8 : Value) (x10 x11 x12 x13 x14 x15 x16 x17 x18 x19 x20 x21 x22 x23 x24 x25 x26 x27 x28 x29 x30 x31 x32 x33 x34 x35 x36 x37 x38 x39 x40 x41 x42 x43 x44 x45 x46 x47 x48 : Value), a' = { tmps := #[.string s, .int .i64 p, undef, undef, .int .u64 0, .int .i64 0, .nilIface, .int .u64 v, x8, .int .i64 k, x10, x11, x12, x13, x14, x15, x16, x17, x18, x19, x20, x21, x22, x23, x24, x25, x26, x27, x28, x29, x30, x31, x32, x33, x34, x35, x36, x37, x38, x39, x40, x41, x42, x43, x44, x45, x46, x47, x48], defers := [] } ∧ numR s a = (0, 0, 3)))
theorem J0 (s:ByteArray) (a:Nat) (w:World) (k v p:Nat) (x8:Value) (x10 x11 x12 x13 x14 x15 x16 x17 x18 x19 x20 x21 x22 x23 x24 x25 x26 x27 x28 x29 x30 x31 x32 x33 x34 x35 x36 x37 x38 x39 x40 x41 x42 x43 x44 x45 x46 x47 x48:Value) (h1:1<=k) (h2:k<=9) (h3:p<=8000) (h4:v<2 ^ (7*k)) (h5:numR s a=run s (10-k) k p v) :
  J s a w 0 { tmps:=#[.string s,.int .i64 (p:Nat),undef,undef,.int .u64 0,.int .i64 0,.nilIface,.int .u64 (v:Nat),x8,.int .i64 (k:Nat),x10,x11,x12,x13,x14,x15,x16,x17,x18,x19,x20,x21,x22,x23,x24,x25,x26,x27,x28,x29,x30,x31,x32,x33,x34,x35,x36,x37,x38,x39,x40,x41,x42,x43,x44,x45,x46,x47,x48],defers:=[] } w :=
 ⟨rfl,.inl ⟨rfl,k,v,p,x8,x10,x11,x12,x13,x14,x15,x16,x17,x18,x19,x20,x21,x22,x23,x24,x25,x26,x27,x28,x29,x30,x31,x32,x33,x34,x35,x36,x37,x38,x39,x40,x41,x42,x43,x44,x45,x46,x47,x48,rfl,h1,h2,h3,h4,h5⟩⟩
theorem J2 (s:ByteArray) (a:Nat) (w:World) (k v p c:Nat) (x10 x11 x12 x13 x14 x15 x16 x17 x18 x19 x20 x21 x22 x23 x24 x25 x26 x27 x28 x29 x30 x31 x32 x33 x34 x35 x36 x37 x38 x39 x40 x41 x42 x43 x44 x45 x46 x47 x48:Value) (h1:1<=k) (h2:k<=10) (h3:c<128) (h5:numR s a=if c=0/\1<k then (0,0,3) else (v,p,0)) :
  J s a w 2 { tmps:=#[.string s,.int .i64 (p:Nat),undef,undef,.int .u64 0,.int .i64 0,.nilIface,.int .u64 (v:Nat),.int .u8 (c:Nat),.int .i64 (k:Nat),x10,x11,x12,x13,x14,x15,x16,x17,x18,x19,x20,x21,x22,x23,x24,x25,x26,x27,x28,x29,x30,x31,x32,x33,x34,x35,x36,x37,x38,x39,x40,x41,x42,x43,x44,x45,x46,x47,x48],defers:=[] } w :=
 ⟨rfl,.inr (.inl ⟨rfl,k,v,p,c,x10,x11,x12,x13,x14,x15,x16,x17,x18,x19,x20,x21,x22,x23,x24,x25,x26,x27,x28,x29,x30,x31,x32,x33,x34,x35,x36,x37,x38,x39,x40,x41,x42,x43,x44,x45,x46,x47,x48,rfl,h1,h2,h3,h5⟩)⟩
theorem J1 (s:ByteArray) (a:Nat) (w:World) (k v p:Int) (x8:Value) (x10 x11 x12 x13 x14 x15 x16 x17 x18 x19 x20 x21 x22 x23 x24 x25 x26 x27 x28 x29 x30 x31 x32 x33 x34 x35 x36 x37 x38 x39 x40 x41 x42 x43 x44 x45 x46 x47 x48:Value) (h5:numR s a=(0,0,3)) :
  J s a w 1 { tmps:=#[.string s,.int .i64 p,undef,undef,.int .u64 0,.int .i64 0,.nilIface,.int .u64 v,x8,.int .i64 k,x10,x11,x12,x13,x14,x15,x16,x17,x18,x19,x20,x21,x22,x23,x24,x25,x26,x27,x28,x29,x30,x31,x32,x33,x34,x35,x36,x37,x38,x39,x40,x41,x42,x43,x44,x45,x46,x47,x48],defers:=[] } w :=
 ⟨rfl,.inr (.inr ⟨rfl,k,v,p,x8,x10,x11,x12,x13,x14,x15,x16,x17,x18,x19,x20,x21,x22,x23,x24,x25,x26,x27,x28,x29,x30,x31,x32,x33,x34,x35,x36,x37,x38,x39,x40,x41,x42,x43,x44,x45,x46,x47,x48,rfl,h5⟩)⟩
def μ (l:Nat) (a':Act) (_:World):Nat:=if l=0 then 20-(intOf (a'.tmps.getD 9 undef)).toNat else if l=2 then 1 else 0
theorem bits_any (s:ByteArray) (a:Nat) (w:World) (hs:s.size<=8000) :
  Calls prog 129 #[.string s,.int .i64 a] w fun e w'=>e=.returned (bitsV (numR s a))/\w'=w:=by
 go_enter func129,ntmps129
 go_wp2
 refine wp_scope_labels (J s a w) μ ?_ ?_
 ·by_cases hp:a<s.size
  ·have hb:s[a].toNat<256:=s[a].toNat_lt
   have hand:=and_low s[a].toNat hb
   have hy:s[a].toNat%128<=127:=by omega
   have hor:bits BinOp.or IntKind.u64 0 ((s[a].toNat%128:Nat):Int)=((s[a].toNat%128:Nat):Int):=by
    have:=u64_or_nat 0 (s[a].toNat%128) (by decide) (by omega)
    rw[Nat.zero_or]at this;exact this
   obtain⟨y,hyy⟩:∃ y,y=s[a].toNat%128:=⟨_,rfl⟩;rw[<-hyy]at hand hy hor;have HY:Hid (y=s[a].toNat%128):=hyy;clear hyy
   have HX:Hid (0+s[a].toNat%128*2 ^ (7*0)=y):=by unfold Hid;rw[HY.o];simp
   by_cases hc:s[a].toNat<128
   ·go_wp2
    go_step3
    go_wp2
    go_step3
    exact J2 s a w 1 y (a+1) s[a].toNat _ _ _ _ _ _ _ _ _ _ _ _ _ _ _ _ _ _ _ _ _ _ _ _ _ _ _ _ _ _ _ _ _ _ _ _ _ _ _ (by omega) (by omega) hc (by rw[if_neg (by omega)];exact(run_last s 9 0 a 0 hp (by omega) hc (by omega)).trans (by rw[HX.o]))
   ·go_wp2
    go_step3
    go_wp2
    go_step3
    exact J0 s a w 1 y (a+1) _ _ _ _ _ _ _ _ _ _ _ _ _ _ _ _ _ _ _ _ _ _ _ _ _ _ _ _ _ _ _ _ _ _ _ _ _ _ _ _ (by omega) (by omega) (by omega) (by omega) ((run_more s 9 0 a 0 hp (by omega) (by omega)).trans (by rw[HX.o]))
  ·have HE:Hid (numR s a=(0,0,4)):=run_end s 9 0 a 0 (by omega)
   go_wp2
   go_step3
   go_wp2
   rw[toLabel_ret]
   go_ret3
   exact⟨by rw[HE.o];rfl,rfl⟩
 ·intro l a' w' hJ
  obtain⟨rfl,hJ⟩:=hJ
  rcases hJ with⟨rfl,k,v,p,x8,x10,x11,x12,x13,x14,x15,x16,x17,x18,x19,x20,x21,x22,x23,x24,x25,x26,x27,x28,x29,x30,x31,x32,x33,x34,x35,x36,x37,x38,x39,x40,x41,x42,x43,x44,x45,x46,x47,x48,rfl,h1,h2,h3,h4,h5⟩|⟨rfl,k,v,p,c,x10,x11,x12,x13,x14,x15,x16,x17,x18,x19,x20,x21,x22,x23,x24,x25,x26,x27,x28,x29,x30,x31,x32,x33,x34,x35,x36,x37,x38,x39,x40,x41,x42,x43,x44,x45,x46,x47,x48,rfl,h1,h2,h3,h5⟩|⟨rfl,k,v,p,x8,x10,x11,x12,x13,x14,x15,x16,x17,x18,x19,x20,x21,x22,x23,x24,x25,x26,x27,x28,x29,x30,x31,x32,x33,x34,x35,x36,x37,x38,x39,x40,x41,x42,x43,x44,x45,x46,x47,x48,rfl,h5⟩
  ·refine⟨_,rfl,?_⟩
   have HR:=hide h5;have HV:=hide h4
   have hvb:v<=9223372036854775807:=by have:=pow_le k h2;omega
   clear h5 h4;obtain⟨f,hf⟩:∃ f,10-k=f+1:=⟨9-k,by omega⟩;have HF:=hide hf;clear hf;by_cases hp:p<s.size
   ·have hb:s[p].toNat<256:=s[p].toNat_lt
    by_cases h9:k=9/\1<s[p].toNat
    ·have hk9:((k:Int)==9)=true:=beq_iff_eq.2 (by omega)
     have hc1:(1:Int)<s[p].toNat:=by omega
     have HE:Hid (numR s a=(0,0,3)):=HR.o.trans (by rw[HF.o];exact run_nine s f k p v hp h9.1 h9.2);have HH:=hide h9;clear h9
     go_wp2
     go_step3
     exact⟨J1 s a _ _ _ _ _ _ _ _ _ _ _ _ _ _ _ _ _ _ _ _ _ _ _ _ _ _ _ _ _ _ _ _ _ _ _ _ _ _ _ _ _ _ _ _ HE.o,by simp[μ,intOf];omega⟩
    ·obtain⟨hm1,hm2⟩:=next_small v s[p].toNat k HV.o h2 h9
     have hand:=and_low s[p].toNat hb;have hy:s[p].toNat%128<=127:=(by omega);have hsh:=shl_part (s[p].toNat%128) k hm1;have hor:=or_part v s[p].toNat k HV.o hm1 hvb;obtain⟨z,hz⟩:∃ z,z=s[p].toNat%128*2 ^ (7*k):=⟨_,rfl⟩;obtain⟨x,hx⟩:∃ x,x=v+s[p].toNat%128*2 ^ (7*k):=⟨_,rfl⟩;rw[<-hx,<-hz]at hor;rw[<-hx]at hm2;rw[<-hz]at hm1 hsh;obtain⟨y,hyy⟩:∃ y,y=s[p].toNat%128:=⟨_,rfl⟩;rw[<-hyy]at hand hy hsh;have HX:=hide hx;have HY:=hide hyy;have HZ:=hide hz;have H9:=hide h9;clear hx hyy hz h9;by_cases hc:s[p].toNat<128
     ·have HE:Hid (numR s a=if s[p].toNat=0/\1<k+1 then (0,0,3) else (x,p+1,0)):=HR.o.trans (by
       rw[HF.o];by_cases hq:s[p].toNat=0/\0<k
       ·rw[if_pos ⟨hq.1,by omega⟩];exact run_zero s f k p v hp hq.1 hq.2
       ·rw[if_neg (by omega),HX.o];exact run_last s f k p v hp H9.o hc hq)
      by_cases e9:k=9
      ·have hk9:((k:Int)==9)=true:=beq_iff_eq.2 (by omega)
       have hcd:decide ((1:Int)<s[p].toNat)=false:=decide_eq_false (by have:=H9.o;omega);have H99:=hide e9;clear e9
       go_wp2
       go_step3
       exact⟨J2 s a _ (k+1) x (p+1) s[p].toNat _ _ _ _ _ _ _ _ _ _ _ _ _ _ _ _ _ _ _ _ _ _ _ _ _ _ _ _ _ _ _ _ _ _ _ _ _ _ _ (by omega) (by omega) hc HE.o,by simp[μ,intOf];omega⟩
      ·have hk9:((k:Int)==9)=false:=beq_eq_false_iff_ne.2 (by omega)
       go_wp2
       go_step3
       exact⟨J2 s a _ (k+1) x (p+1) s[p].toNat _ _ _ _ _ _ _ _ _ _ _ _ _ _ _ _ _ _ _ _ _ _ _ _ _ _ _ _ _ _ _ _ _ _ _ _ _ _ _ (by omega) (by omega) hc HE.o,by simp[μ,intOf];omega⟩
     ·have hn9:¬k=9:=by have:=H9.o;omega
      have hk9:((k:Int)==9)=false:=beq_eq_false_iff_ne.2 (by omega);have HE:Hid (numR s a=run s f (k+1) (p+1) x):=HR.o.trans (by rw[HF.o,HX.o];exact run_more s f k p v hp hn9 (by omega))
      go_wp2
      go_step3
      exact⟨J0 s a _ (k+1) x (p+1) _ _ _ _ _ _ _ _ _ _ _ _ _ _ _ _ _ _ _ _ _ _ _ _ _ _ _ _ _ _ _ _ _ _ _ _ _ _ _ _ (by omega) (by omega) (by omega) (by rw[HX.o];exact next_lt _ _ _ HV.o) (by rw[HE.o,show 10-(k+1)=f from by have:=HF.o;omega]),by simp[μ,intOf];omega⟩
   ·have HE:Hid (numR s a=(0,0,4)):=HR.o.trans (by rw[HF.o];exact run_end s f k p v (by omega))
    go_wp2
    rw[toLabel_ret]
    go_ret3
    exact⟨by rw[HE.o];rfl,rfl⟩
  ·refine⟨_,rfl,?_⟩
   by_cases hz:c=0/\1<k
   ·have HE:Hid (numR s a=(0,0,3)):=h5.trans (if_pos hz)
    have hcz:((c:Int)==0)=true:=beq_iff_eq.2 (by omega);have hk1:(1:Int)<k:=(by omega);have HZ:=hide hz;clear h5 hz
    go_wp2
    go_step3
    exact⟨J1 s a _ _ _ _ _ _ _ _ _ _ _ _ _ _ _ _ _ _ _ _ _ _ _ _ _ _ _ _ _ _ _ _ _ _ _ _ _ _ _ _ _ _ _ _ HE.o,by simp[μ]⟩
   ·have HE:Hid (numR s a=(v,p,0)):=h5.trans (if_neg hz)
    clear h5;by_cases cz:c=0
    ·have hcz:((c:Int)==0)=true:=beq_iff_eq.2 (by omega)
     have hk1:¬1<k:=by omega
     have hkd:decide ((1:Int)<k)=false:=decide_eq_false (by omega);have HC:=hide cz;clear cz hz
     go_wp2
     rw[toLabel_ret]
     go_ret3
     exact⟨by rw[HE.o];rfl,rfl⟩
    ·have hcz:((c:Int)==0)=false:=beq_eq_false_iff_ne.2 (by omega)
     go_wp2
     rw[toLabel_ret]
     go_ret3
     exact⟨by rw[HE.o];rfl,rfl⟩
  ·refine⟨_,rfl,?_⟩
   have HE:=hide h5;clear h5
   go_wp2
   rw[toLabel_ret]
   go_ret3
   exact⟨by rw[HE.o];rfl,rfl⟩
end Gn
namespace Cr
theorem ret_int {k:IntKind} {a b:Int} (h:a=b):Ending.returned (.int k a)=.returned (.int k b):=by rw[h]
theorem byte_any (r c:Nat) (w:World) (hr:r<4294967296) (hc:c<256) :
  Calls prog 227 #[.int .u32 r,.int .u8 c] w fun e w'=>e=.returned (.int .u32 (crc8 r c:Nat))/\w'=w:=by
 go_enter func227,ntmps227
 go_wp2
 go_loop [0,5,6,7] (fun a _ _ i=>∃ k x:Nat,k<=8/\i=.int .i64 k/\x<4294967296/\a=.int .u32 x/\x ^^^ c/2 ^ k=stepN k (r ^^^ c)) (fun _ _ _ i=>8-(intOf i).toNat)
 case atStart=>exact⟨0,r,by omega,rfl,hr,rfl,by simp[stepN]⟩
 case round =>
  obtain⟨k,x,hk,rfl,hx,rfl,hinv⟩:=hrel;have HI:Hid (x ^^^ c/2 ^ k=stepN k (r ^^^ c)):=hinv;clear hinv;by_cases hlt:k<8
  ·have ht:=turned_eq x c k hx hc
   by_cases hb:(x ^^^ c/2 ^ k)%2=1
   ·have hB:(bits BinOp.and IntKind.u32 (bits BinOp.xor IntKind.u32 (x:Int) ((c:Int)/2 ^ k%4294967296)) 1==1)=true:=by rw[ht,hb];rfl
    have HS:Hid (implS x c k=(x/2) ^^^ 3988292384):=by unfold Hid implS;rw[if_pos hb]
    clear ht hb
    go_wp2
    go_round
    case rel=>exact⟨k+1,implS x c k,by omega,by go_num,implS_lt c k hx,by rw[HS.o,half_xor x hx],by rw[inv_step,HI.o];rfl⟩
    case measure=>simp[intOf];omega
   ·have hB:(bits BinOp.and IntKind.u32 (bits BinOp.xor IntKind.u32 (x:Int) ((c:Int)/2 ^ k%4294967296)) 1==1)=false:=by rw[ht];simp;omega
    have HS:Hid (implS x c k=x/2):=by unfold Hid implS;rw[if_neg hb]
    clear ht hb
    go_wp2
    go_round
    case rel=>exact⟨k+1,implS x c k,by omega,by go_num,implS_lt c k hx,by rw[HS.o];go_num,by rw[inv_step,HI.o];rfl⟩
    case measure=>simp[intOf];omega
  ·have HX:Hid (x=crc8 r c):=by
    have h:=HI.o;have e8:k=8:=(by omega);rw[e8,Nat.div_eq_of_lt (by omega),Nat.xor_zero]at h;exact h
   go_wp2
   go_ret;exact⟨ret_int (by rw[HX.o]),rfl⟩
theorem more_any (n:Nat) (s:ByteArray) (w:World) (hs:s.size<=8000) (hn:n<4294967296) :
  Calls prog 202 #[.int .i64 n,.string s] w fun e w'=>e=.returned (.int .i64 (fin (crcL (fin n) s.data.toList):Nat))/\w'=w:=by
 have hn1:¬(4294967295:Int)<n:=by omega
 have HN:Hid (bits BinOp.xor IntKind.u32 IntKind.u32.max (n:Int)=((fin n:Nat):Int)):=not_eq' n hn;have HF:Hid (fin n<4294967296):=fin_lt hn;go_enter func202,ntmps202
 go_wp2
 go_loop [5,6,23] (fun a _ i=>∃ k x:Nat,k<=s.size/\i=.int .i64 k/\x<4294967296/\a=.int .u32 x/\x=crcL (fin n) (s.data.toList.take k)) (fun _ _ i=>s.size-(intOf i).toNat)
 case atStart=>exact⟨0,fin n,Nat.zero_le _,rfl,HF.o,by rw[HN.o],rfl⟩
 case round =>
  obtain⟨k,x,hk,rfl,hx,rfl,hinv⟩:=hrel;have HI:Hid (x=crcL (fin n) (s.data.toList.take k)):=hinv;clear hinv;by_cases hlt:k<s.size
  ·have hb:s[k].toNat<256:=s[k].toNat_lt
   have HT:Hid (crc8 x s[k].toNat=crcL (fin n) (s.data.toList.take (k+1))):=by
    unfold Hid;rw[crcL_take _ _ _ hlt,<-HI.o]
   have HL:Hid (crc8 x s[k].toNat<4294967296):=crc8_lt hx hb
   go_wp2_with (go_at_call 227;refine(byte_any _ _ _ hx hb).mono ?_;rintro e w' ⟨rfl,rfl⟩)
   go_round
   case rel=>exact⟨k+1,crc8 x s[k].toNat,by omega,by go_num,HL.o,rfl,HT.o⟩
   case measure=>simp[intOf];omega
  ·have HX:Hid (x=crcL (fin n) s.data.toList):=by
    have h:=HI.o;rw[List.take_of_length_le (by simp;omega)]at h;exact h
   have HE:Hid (bits BinOp.xor IntKind.u32 IntKind.u32.max (x:Int)=((fin x:Nat):Int)):=not_eq' x hx;have HG:Hid (fin x<4294967296):=fin_lt hx
   go_wp2
   go_ret;have e1:=HE.o;have e2:=HX.o;have e3:=HG.o;rw[e2]at e3;exact⟨ret_int (by rw[e1,e2];simp[wrap64];omega),rfl⟩
theorem crc_spec (n:Nat) (s:ByteArray) (w:World) (hs:s.size<=8000) (hn:n<4294967296) :
  Calls prog 139 #[.int .i64 n,.string s] w fun e w'=>e=.returned (.int .i64 (fin (crcL (fin n) s.data.toList):Nat))/\w'=w:=by
 have HN:Hid (bits BinOp.xor IntKind.u32 (n:Int) 4294967295=((fin n:Nat):Int)):=not_eq n hn;have HF:Hid (fin n<4294967296):=fin_lt hn;go_enter func139,ntmps139
 go_wp2
 go_loop [5,6,7] (fun a i _=>∃ k x:Nat,k<=s.size/\i=.int .i64 k/\x<4294967296/\a=.int .u32 x/\x=crcL (fin n) (s.data.toList.take k)) (fun _ i _=>s.size-(intOf i).toNat)
 case atStart=>exact⟨0,fin n,Nat.zero_le _,rfl,HF.o,by rw[HN.o],rfl⟩
 case round =>
  obtain⟨k,x,hk,rfl,hx,rfl,hinv⟩:=hrel;have HI:Hid (x=crcL (fin n) (s.data.toList.take k)):=hinv;clear hinv;by_cases hlt:k<s.size
  ·have hb:s[k].toNat<256:=s[k].toNat_lt
   have HT:Hid (crc8 x s[k].toNat=crcL (fin n) (s.data.toList.take (k+1))):=by
    unfold Hid;rw[crcL_take _ _ _ hlt,<-HI.o]
   have HL:Hid (crc8 x s[k].toNat<4294967296):=crc8_lt hx hb;have HXL:Hid (x ^^^ s[k].toNat<4294967296):=xor_lt hx (by omega);have HXE:Hid (bits BinOp.xor IntKind.u32 (x:Int) (s[k].toNat:Int)=((x ^^^ s[k].toNat:Nat):Int)):=u32_xor_nat _ _ hx (by omega)
   go_wp2
   go_loop [5,7] (fun a i=>∃ j y:Nat,j<=8/\i=.int .i64 j/\y<4294967296/\a=.int .u32 y/\y=stepN j (x ^^^ s[k].toNat)) (fun _ i=>8-(intOf i).toNat)
   case atStart=>exact⟨0,x ^^^ s[k].toNat,Nat.zero_le _,rfl,HXL.o,by rw[HXE.o],rfl⟩
   case round =>
    obtain⟨j,y,hj,rfl,hy,rfl,hinv⟩:=hrel;have HJ:Hid (y=stepN j (x ^^^ s[k].toNat)):=hinv;clear hinv;by_cases hjl:j<8
    ·have ht:=low_eq y hy
     by_cases hb:y%2=1
     ·have hB:(bits BinOp.and IntKind.u32 (y:Int) 1==1)=true:=by rw[ht,hb];rfl
      have HS:Hid (step y=(y/2) ^^^ 3988292384):=by unfold Hid step;rw[if_pos hb]
      clear ht hb
      go_wp2
      go_round
      case rel=>exact⟨j+1,step y,by omega,by go_num,step_lt hy,by rw[HS.o,half_xor y hy],by rw[HJ.o];rfl⟩
      case measure=>simp[intOf];omega
     ·have hB:(bits BinOp.and IntKind.u32 (y:Int) 1==1)=false:=by rw[ht];simp;omega
      have HS:Hid (step y=y/2):=by unfold Hid step;rw[if_neg hb]
      clear ht hb
      go_wp2
      go_round
      case rel=>exact⟨j+1,step y,by omega,by go_num,step_lt hy,by rw[HS.o];go_num,by rw[HJ.o];rfl⟩
      case measure=>simp[intOf];omega
    ·have HY:Hid (y=crcL (fin n) (s.data.toList.take (k+1))):=by
      have h:=HJ.o;have e8:j=8:=(by omega);rw[e8]at h;exact h.trans HT.o
     go_wp2
     go_round
     case rel=>exact⟨k+1,y,by omega,by go_num,hy,rfl,HY.o⟩
     case measure=>simp[intOf];omega
  ·have HX:Hid (x=crcL (fin n) s.data.toList):=by
    have h:=HI.o;rw[List.take_of_length_le (by simp;omega)]at h;exact h
   have HE:Hid (bits BinOp.xor IntKind.u32 (x:Int) 4294967295=((fin x:Nat):Int)):=not_eq x hx;have HG:Hid (fin x<4294967296):=fin_lt hx
   go_wp2
   go_ret;have e1:=HE.o;have e2:=HX.o;have e3:=HG.o;rw[e2]at e3;exact⟨ret_int (by rw[e1,e2];simp[wrap64];omega),rfl⟩
def moreV (c:Int) (s:ByteArray):Int:=if s.size<=8000/\0<=c/\c<=4294967295 then (fin (crcL (fin c.toNat) s.data.toList):Nat) else 0
theorem moreV_yes (n:Nat) (s:ByteArray) (hs:s.size<=8000) (hn:n<4294967296):moreV n s=(fin (crcL (fin n) s.data.toList):Nat):=by
 unfold moreV;rw[if_pos ⟨hs,by omega,by omega⟩,Int.toNat_natCast]
theorem moreV_no (c:Int) (s:ByteArray) (h:¬(s.size<=8000/\0<=c/\c<=4294967295)):moreV c s=0:=by
 unfold moreV;rw[if_neg h]
theorem more_impl (c:Int) (s:ByteArray) (w:World) (hs:s.size<=maxLen) :
  Calls prog 202 #[.int .i64 c,.string s] w fun e w'=>e=.returned (.int .i64 (moreV c s))/\w'=w:=by
 unfold maxLen at hs;by_cases h1:8000<s.size
 ·go_enter func202,ntmps202
  go_wp2
  go_ret;exact⟨ret_int (moreV_no c s (by omega)).symm,rfl⟩
 ·by_cases h2:c<0
  ·go_enter func202,ntmps202
   go_wp2
   go_ret;exact⟨ret_int (moreV_no c s (by omega)).symm,rfl⟩
  ·by_cases h3:4294967295<c
   ·go_enter func202,ntmps202
    go_wp2
    go_ret;exact⟨ret_int (moreV_no c s (by omega)).symm,rfl⟩
   ·obtain⟨n,rfl⟩:=Int.eq_ofNat_of_zero_le (show 0<=c from by omega)
    rw[moreV_yes n s (by omega) (by omega)];exact more_any n s w (by omega) (by omega)
theorem crc_impl0 (s:ByteArray) (w:World) (hs:s.size<=maxLen) :
  Calls prog 167 #[.string s] w fun e w'=>e=.returned (.int .i64 (moreV 0 s))/\w'=w:=by
 go_enter func167,ntmps167
 go_wp2_with fail
 refine(more_impl 0 s _ hs).mono ?_;rintro e w' ⟨rfl,rfl⟩
 go_wp2
 go_ret;exact⟨rfl,rfl⟩
end Cr
end Go.Proofs.YtaejgfdkfcmjeaaGreatDoor
