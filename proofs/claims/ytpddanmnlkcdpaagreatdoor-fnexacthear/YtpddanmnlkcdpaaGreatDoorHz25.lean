/- Texts put together: AsWalks, GetNumWalks, GetTextWalks. -/
import Derived.Test.YtpddanmnlkcdpaaGreatDoorHz24
import Derived.Test.YtpddanmnlkcdpaaGreatDoorHz23
import Derived.Test.YtpddanmnlkcdpaaGreatDoorHz10
import Derived.RegionTactic
import Derived.BigRegion
set_option maxRecDepth 100000
set_option maxHeartbeats 8000000
namespace Go.Proofs.YtpddanmnlkcdpaaGreatDoor
open Go.RowKit Go.Extern.Stop Go.Stop Go.Extern
theorem Tryz.setD (ta b:Addr) (c:Int) (old:Value) (W:World) (hb:W.cell? b=some (.int .i64 c)) (ht:W.cell? ta=some old) (hf:W.frozen? ta=false) :
  (ReflectliteValue.set #[.agg #[.pointer (some ⟨4,235,none⟩),.pointer (some ta),.int .u64 409],.agg #[.pointer (some ⟨4,235,none⟩),.pointer (some b),.int .u64 153]]).run Tryz.prog W
   = .ok (.tuple #[]) (W.setCell ta (.int .i64 c)):=by
 refine Eq.trans (b:=(Bind.bind (ReflectliteValue.parts (.agg #[.pointer (some ⟨4,235,none⟩),.pointer (some ta),.int .u64 409])) _).run Tryz.prog W) rfl ?_
 simp only[Sem.run_bind,Tryz.partsDa,Result.andThen]
 erw[Tryz.partsD b W]
 simp[ReflectliteValue.flagAddr,loadVar,isAgg,underlying,Tryz.underlying235,Result.andThen,Tryz.directD,storeVar,Value.cells,storeCells,Addr.add]
 have hl:=run_loadCells_list (P:=Tryz.prog) W b [.int .i64 c] (by
  intro j v hj
  match j,hj with
  |0,hj=>simp at hj;subst hj;simpa [Addr.add] using hb)
 have hl':(loadCells b 1).run Tryz.prog W=.ok #[.int .i64 c] W:=hl
 rw[hl']
 simp[storeCells,Addr.add]
 rw[run_store Tryz.prog W ta _ _ (by rfl)]
 simp[ht,hf]
/-- a fault of the program's own type,asked for with errors.As: it is taken into the variable at t;four blocks are new -/
theorem as_hit (c:Int) (t:Addr) (old:Value) (w:World) (hg:w.cell? ⟨1,0,none⟩=some (.iface 280 (.agg #[.pointer (some ⟨4,213,none⟩)]))) (ht0:w.cell? t=some old) (hf0:w.frozen? t=false) :
  Calls Tryz.prog 195 #[.iface 235 (.agg #[.int .i64 c]),.iface 237 (.pointer (some t))] w fun ev w'=>ev=.returned (.bool true)/\w'=((((w.alloc (.cells #[.pointer (some t)] 237)).alloc (.cells #[.pointer (some ⟨4,237,none⟩),.pointer (some ⟨w.heap.size,0,none⟩),.int .u64 150] 259)).alloc (.cells #[.pointer (some ⟨4,237,none⟩),.pointer (some ⟨w.heap.size,0,none⟩),.int .u64 150] 259)).alloc (.cells #[.int .i64 c] 235)).setCell t (.int .i64 c):=by
 have hA:=@run_callFunc_extern Tryz.prog 212 _ (fun args=>ReflectliteValue.unpack (args.getD 0 (.tuple #[]))) Tryz.func212 (by kernel_rfl) (by kernel_rfl) (by kernel_rfl) (by kernel_rfl)
 have hB:=@run_callFunc_extern Tryz.prog 213 _ (ReflectliteValue.methodAny (ReflectliteValue.valueError "reflectlite.Value.Type" 0) (fun t _ _ _=>ReflectliteType.toType t)) Tryz.func213 (by kernel_rfl) (by kernel_rfl) (by kernel_rfl) (by kernel_rfl)
 have hC:=@run_callFunc_extern Tryz.prog 214 _ (ReflectliteValue.method (ReflectliteValue.valueError "reflectlite.Value.IsNil" 0) ReflectliteValue.isNil) Tryz.func214 (by kernel_rfl) (by kernel_rfl) (by kernel_rfl) (by kernel_rfl)
 have hD:=@run_callFunc_extern Tryz.prog 258 _ (ReflectliteType.abiMethod fun t=>do pure (.int .u8 (<-Rtype.kind t))) Tryz.func258 (by kernel_rfl) (by kernel_rfl) (by kernel_rfl) (by kernel_rfl)
 have hE:=@run_callFunc_extern Tryz.prog 269 _ (ReflectliteType.method ReflectliteType.elem) Tryz.func269 (by kernel_rfl) (by kernel_rfl) (by kernel_rfl) (by kernel_rfl)
 have hF:=@run_callFunc_extern Tryz.prog 270 _ (ReflectliteType.relation "Implements" ReflectliteType.implements_) Tryz.func270 (by kernel_rfl) (by kernel_rfl) (by kernel_rfl) (by kernel_rfl)
 have hG:=@run_callFunc_extern Tryz.prog 228 _ ReflectliteType.typeOf Tryz.func228 (by kernel_rfl) (by kernel_rfl) (by kernel_rfl) (by kernel_rfl)
 have hH:=@run_callFunc_extern Tryz.prog 267 _ (ReflectliteType.relation "AssignableTo" ReflectliteType.assignableTo) Tryz.func267 (by kernel_rfl) (by kernel_rfl) (by kernel_rfl) (by kernel_rfl)
 have hI:=@run_callFunc_extern Tryz.prog 229 _ (ReflectliteValue.method (ReflectliteValue.valueError "reflectlite.Value.Elem" 0) ReflectliteValue.elem) Tryz.func229 (by kernel_rfl) (by kernel_rfl) (by kernel_rfl) (by kernel_rfl)
 have hJ:=@run_callFunc_extern Tryz.prog 230 _ ReflectliteValue.set Tryz.func230 (by kernel_rfl) (by kernel_rfl) (by kernel_rfl) (by kernel_rfl)
 have f1:=Tryz.typeOfD
 have f2:=Tryz.methodAssignableTo
 have f3:=Tryz.assignableD
 have f4:=Tryz.valueOfD
 have f5:=Tryz.valueOfP
 have f6:=Tryz.typeP
 have f7:=Tryz.methodKind
 have f8:=Tryz.methodElem
 have f9:=Tryz.methodImplements
 have f10:=Tryz.kindP
 have f11:=Tryz.kindD
 have f12:=Tryz.elemP
 have f13:=Tryz.implementsD
 obtain⟨vb,hvb⟩:∃ vb,vb=Obj.cells #[.pointer (some ⟨4,237,none⟩),.pointer (some ⟨w.heap.size,0,none⟩),.int .u64 150] 259:=⟨_,rfl⟩
 have n8:=Tryz.isNilP ⟨w.heap.size,0,none⟩ t ((w.alloc (.cells #[.pointer (some t)] 237)).alloc vb) (by rw[hvb];simp)
 have hlt:1 < w.heap.size:=by
  rcases Nat.lt_or_ge 1 w.heap.size with h|h
  ·exact h
  ·simp[World.cell?,Array.getElem?_eq_none h]at hg
 have hg2:((w.alloc (.cells #[.pointer (some t)] 237)).alloc vb).cell? ⟨1,0,none⟩=some (.iface 280 (.agg #[.pointer (some ⟨4,213,none⟩)])):=by
  rw[World.cell?_alloc_lt _ _ ⟨1,0,none⟩ (Nat.lt_of_lt_of_le hlt (by simp)),World.cell?_alloc_lt _ _ ⟨1,0,none⟩ hlt];exact hg
 have htl:t.block<w.heap.size:=by
  rcases Nat.lt_or_ge t.block w.heap.size with h|h
  ·exact h
  ·simp[World.cell?,Array.getElem?_eq_none h]at ht0
 have el:=Tryz.elemVP ⟨w.heap.size,0,none⟩ t (((w.alloc (.cells #[.pointer (some t)] 237)).alloc vb).alloc vb) (by rw[World.cell?_alloc_lt _ _ ⟨w.heap.size,0,none⟩ (by simp;omega),hvb];simp)
 have st:=Tryz.setD t ⟨w.heap.size+1+1+1,0,none⟩ c old ((((w.alloc (.cells #[.pointer (some t)] 237)).alloc vb).alloc vb).alloc (.cells #[.int .i64 c] 235))
  (by rw[World.cell?_alloc_at _ _ _ _ (by simp)];rfl)
  (by rw[World.cell?_alloc_lt _ _ t (by simp;omega),World.cell?_alloc_lt _ _ t (by simp;omega),World.cell?_alloc_lt _ _ t (by simp;omega),World.cell?_alloc_lt _ _ t htl];exact ht0)
  (by rw[World.frozen?_alloc_old _ _ t (by simp;omega),World.frozen?_alloc_old _ _ t (by simp;omega),World.frozen?_alloc_old _ _ t (by simp;omega),World.frozen?_alloc_old _ _ t (Nat.ne_of_lt htl)];exact hf0)
 subst hvb
 go_enter Tryz.func195,Tryz.ntmps195
 go_wp2
 refine wp_loop_rounds 1 ?_
 rw[rounds_succ]
 go_wp2
 go_ret
 exact⟨rfl,rfl⟩
end Go.Proofs.YtpddanmnlkcdpaaGreatDoor


namespace Go.Proofs.YtpddanmnlkcdpaaGreatDoor.Gn
open Go.RowKit
theorem ret_int {k:IntKind} {a b:Int} (h:a=b):Ending.returned (.int k a)=.returned (.int k b):=by rw[h]
theorem not_half (u:Nat) (h:u<=18446744073709551615):bits BinOp.xor IntKind.u64 IntKind.u64.max ((u:Int)/2)=((18446744073709551615-u/2:Nat):Int):=by
 have e:((u:Int)/2)=((u/2:Nat):Int):=by omega
 rw[e,show IntKind.u64.max=((18446744073709551615:Nat):Int) from rfl,u64_xor_nat _ _ (by decide) (by omega)]
 have e:=congrArg BitVec.toNat (BitVec.allOnes_xor (x:=BitVec.ofNat 64 (u/2)))
 rw[BitVec.toNat_xor,BitVec.toNat_not,BitVec.toNat_allOnes,BitVec.toNat_ofNat,Nat.mod_eq_of_lt (by omega)]at e
 exact congrArg (fun n:Nat=>(n:Int)) e
theorem low_bit (u:Nat) (h:u<=18446744073709551615):bits BinOp.and IntKind.u64 (u:Int) 1=((u%2:Nat):Int):=by
 have:=u64_and_nat u 1 (by omega) (by decide)
 rw[nat_mask1]at this
 exact this
theorem unfold_any (u:Nat) (w:World) (h:u<=18446744073709551615) :
  Calls Tryz.prog 211 #[.int .u64 u] w fun e w'=>e=.returned (.int .i64 (unz u))/\w'=w:=by
 have hl:=low_bit u h
 by_cases hodd:u%2=1
 ·have ht:(bits BinOp.and IntKind.u64 (u:Int) 1==1)=true:=by rw[hl,hodd];rfl
  obtain⟨z,hz⟩:∃ z,z=18446744073709551615-u/2:=⟨_,rfl⟩
  have hn:=not_half u h
  rw[<-hz]at hn
  have HO:=hide (unz_odd u hodd)
  have HZ:=hide hz
  clear hl hodd hz
  go_enter Tryz.func211,Tryz.ntmps211
  go_wp2
  go_ret
  exact⟨ret_int (by rw[HO.out,HZ.out];simp[wrap64];omega),rfl⟩
 ·have ht:(bits BinOp.and IntKind.u64 (u:Int) 1==1)=false:=by rw[hl];simp;omega
  have HO:=hide (unz_even' u hodd)
  clear hl hodd
  go_enter Tryz.func211,Tryz.ntmps211
  go_wp2
  go_ret
  exact⟨ret_int HO.out,rfl⟩
theorem place_big (s:ByteArray) (a:Int) (w:World) (hs:s.size<=maxLen) (h:8000<s.size) :
  Calls Tryz.prog 209 #[.string s,.int .i64 a] w fun e w'=>e=.returned (.iface 235 (.agg #[.int .i64 2]))/\w'=w:=by
 unfold maxLen at hs
 go_enter Tryz.func209,Tryz.ntmps209
 go_wp2
 go_ret
 exact⟨rfl,rfl⟩
theorem place_neg (s:ByteArray) (a:Int) (w:World) (hs:¬8000<s.size) (h:a<0) :
  Calls Tryz.prog 209 #[.string s,.int .i64 a] w fun e w'=>e=.returned (.iface 235 (.agg #[.int .i64 1]))/\w'=w:=by
 go_enter Tryz.func209,Tryz.ntmps209
 go_wp2
 go_ret
 exact⟨rfl,rfl⟩
theorem place_ok (s:ByteArray) (a:Int) (w:World) (hs:¬8000<s.size) (h:¬a<0) :
  Calls Tryz.prog 209 #[.string s,.int .i64 a] w fun e w'=>e=.returned .nilIface/\w'=w:=by
 go_enter Tryz.func209,Tryz.ntmps209
 go_wp2
 go_ret
 exact⟨rfl,rfl⟩
def rd (s:ByteArray) (a:Int):Int × Nat × Int:=if 8000<s.size then (0,0,2) else if a<0 then (0,0,1) else (unz (numR s a.toNat).1,(numR s a.toNat).2.1,(numR s a.toNat).2.2)
theorem run_codes (s:ByteArray):∀ f k p u,(run s f k p u).2.2=0∨((run s f k p u).1=0/\(run s f k p u).2.1=0/\((run s f k p u).2.2=3∨(run s f k p u).2.2=4)):=by
 intro f
 induction f with
 |zero=>intro k p u;exact .inr ⟨rfl,rfl,.inl rfl⟩
 |succ f ih =>
  intro k p u
  rw[run]
  split
  ·exact .inr ⟨rfl,rfl,.inr rfl⟩
  ·split
   ·exact .inr ⟨rfl,rfl,.inl rfl⟩
   ·split
    ·split
     ·exact .inr ⟨rfl,rfl,.inl rfl⟩
     ·exact .inl rfl
    ·exact ih _ _ _
theorem run_bound (s:ByteArray):∀ f k p u,k<=9->u<2 ^ (7*k)->(run s f k p u).1<=18446744073709551615:=by
 intro f
 induction f with
 |zero=>intro k p u _ _;exact Nat.zero_le _
 |succ f ih =>
  intro k p u hk hu
  rw[run]
  split
  ·exact Nat.zero_le _
  ·split
   ·exact Nat.zero_le _
   ·rename_i h9
    split
    ·split
     ·exact Nat.zero_le _
     ·exact(next_small u (byteN s p) k hu hk h9).2
    ·exact ih _ _ _ (by omega) (next_lt _ _ _ hu)
theorem run_place (s:ByteArray):∀ f k p u,(run s f k p u).2.1<=s.size:=by
 intro f
 induction f with
 |zero=>intro k p u;exact Nat.zero_le _
 |succ f ih =>
  intro k p u
  rw[run]
  split
  ·exact Nat.zero_le _
  ·split
   ·exact Nat.zero_le _
   ·split
    ·split
     ·exact Nat.zero_le _
     ·show p+1<=s.size;omega
    ·exact ih _ _ _
theorem read_any (s:ByteArray) (a:Int) (w:World) (hs:s.size<=maxLen) :
  Calls Tryz.prog 194 #[.string s,.int .i64 a] w fun e w'=>e=.returned (.tuple #[.int .i64 (rd s a).1,.int .i64 (rd s a).2.1,errV (rd s a).2.2])/\w'=w:=by
 by_cases h1:8000<s.size
 ·have HE:Hid (rd s a=(0,0,2)):=by unfold Hid rd;rw[if_pos h1]
  go_enter Tryz.func194,Tryz.ntmps194
  go_wp2_with fail
  refine(place_big s a _ hs h1).mono ?_
  rintro e w' ⟨rfl,hw⟩
  subst w'
  go_wp2
  go_ret3
  exact⟨by rw[HE.out];rfl,rfl⟩
 ·by_cases h2:a<0
  ·have HE:Hid (rd s a=(0,0,1)):=by unfold Hid rd;rw[if_neg h1,if_pos h2]
   go_enter Tryz.func194,Tryz.ntmps194
   go_wp2_with fail
   refine(place_neg s a _ h1 h2).mono ?_
   rintro e w' ⟨rfl,hw⟩
   subst w'
   go_wp2
   go_ret3
   exact⟨by rw[HE.out];rfl,rfl⟩
  ·obtain⟨n,rfl⟩:=Int.eq_ofNat_of_zero_le (show 0<=a from by omega)
   have HE:Hid (rd s (n:Int)=(unz (numR s n).1,(numR s n).2.1,(numR s n).2.2)):=by unfold Hid rd;rw[if_neg h1,if_neg h2,Int.toNat_natCast]
   have hb:(numR s n).1<=18446744073709551615:=run_bound s 10 0 n 0 (by decide) (by decide)
   go_enter Tryz.func194,Tryz.ntmps194
   go_wp2_with fail
   refine(place_ok s n _ h1 (by omega)).mono ?_
   rintro e w' ⟨rfl,hw⟩
   subst w'
   go_wp2_with fail
   refine(bits_any s n _ (by omega)).mono ?_
   generalize numR s n=r at HE hb ⊢
   obtain⟨u,p,c⟩:=r
   simp only[bitsV]at HE hb ⊢
   generalize hev:errV c=ev
   have HEV:=hide hev
   clear hev
   rintro e w' ⟨rfl,hw⟩
   subst w'
   go_wp2_with fail
   refine(unfold_any u _ hb).mono ?_
   rintro e w' ⟨rfl,hw⟩
   subst w'
   go_wp2
   go_ret3
   exact⟨by rw[HE.out,<-HEV.out];rfl,rfl⟩
def handle:Value:=.iface 280 (.agg #[.pointer (some ⟨4,213,none⟩)])
theorem code_any (c:Int) (w:World) (hg:w.cell? ⟨1,0,none⟩=some handle) :
  Calls Tryz.prog 169 #[.iface 235 (.agg #[.int .i64 c])] w fun e w'=>e=.returned (.int .i64 c)/\Below w.heap.size w w':=by
 have hlt:1 < w.heap.size:=by
  rcases Nat.lt_or_ge 1 w.heap.size with h|h
  ·exact h
  ·simp[World.cell?,Array.getElem?_eq_none h]at hg
 have hgA:(w.alloc (.cells #[.int .i64 0] 235)).cell? ⟨1,0,none⟩=some handle:=by
  rw[World.cell?_alloc_lt _ _ ⟨1,0,none⟩ hlt];exact hg
 have htA:(w.alloc (.cells #[.int .i64 0] 235)).cell? ⟨w.heap.size,0,none⟩=some (.int .i64 0):=by simp
 have hfA:(w.alloc (.cells #[.int .i64 0] 235)).frozen? ⟨w.heap.size,0,none⟩=false:=by simp
 go_enter Tryz.func169,Tryz.ntmps169
 go_wp2_with fail
 refine(as_hit c _ (.int .i64 0) _ hgA htA hfA).mono ?_
 rintro e w' ⟨rfl,rfl⟩
 go_wp2
 go_ret
 exact⟨rfl,(((((Below.refl _ _).alloc (Nat.le_refl _) _).alloc (by simp) _).alloc (by simp;omega) _).alloc (by simp;omega) _).alloc (by simp;omega) _⟩
theorem rd_codes (s:ByteArray) (a:Int):(rd s a).2.2=0∨(rd s a).2.2≠0/\(rd s a).1=0/\(rd s a).2.1=0:=by
 unfold rd
 split
 ·exact .inr ⟨by decide,rfl,rfl⟩
 ·split
  ·exact .inr ⟨by decide,rfl,rfl⟩
  ·rcases run_codes s 10 0 a.toNat 0 with h|⟨h1,h2,h3⟩
   ·exact .inl h
   ·refine .inr ⟨?_,?_,h2⟩
    ·show (numR s a.toNat).2.2≠0
     unfold numR
     omega
    ·show unz (numR s a.toNat).1=0
     unfold numR
     rw[h1]
     rfl
theorem getV_rd (s:ByteArray) (a:Int):getV s a=if (rd s a).2.2=0 then outN (rd s a).1 (rd s a).2.1 0 else outN 0 0 (rd s a).2.2:=by
 unfold getV rd
 split
 ·rfl
 ·split
  ·rfl
  ·rfl
theorem bcell {W w1:World} (hb:Below W.heap.size W w1):(∀ b o,b<W.heap.size->w1.cell? ⟨b,o,none⟩=W.cell? ⟨b,o,none⟩)/\(∀ b o,b<W.heap.size->w1.frozen? ⟨b,o,none⟩=W.frozen? ⟨b,o,none⟩) :=
 ⟨fun b o h=>hb.cell (p:=⟨b,o,none⟩) h,fun b o h=>hb.frozen (p:=⟨b,o,none⟩) h⟩
theorem lt_of_handle {w:World} (hg:w.cell? ⟨1,0,none⟩=some handle):1 < w.heap.size:=by
 rcases Nat.lt_or_ge 1 w.heap.size with h|h
 ·exact h
 ·simp[World.cell?,Array.getElem?_eq_none h]at hg
theorem handle_below {w w1:World} (hb:Below w.heap.size w w1) (hg:w.cell? ⟨1,0,none⟩=some handle):w1.cell? ⟨1,0,none⟩=some handle :=
 (hb.cell (p:=⟨1,0,none⟩) (lt_of_handle hg)).trans hg
theorem handle_alloc {w:World} (o:Obj) (hg:w.cell? ⟨1,0,none⟩=some handle):(w.alloc o).cell? ⟨1,0,none⟩=some handle:=by
 rw[World.cell?_alloc_lt _ _ ⟨1,0,none⟩ (lt_of_handle hg)];exact hg
theorem get_impl (s:ByteArray) (a:Int) (w:World) (hs:s.size<=maxLen) (hg:w.cell? ⟨1,0,none⟩=some handle) :
  Calls Tryz.prog 172 #[.string s,.int .i64 a] w fun e w'=>e=.returned (getV s a)/\Below w.heap.size w w':=by
 have HV:=hide (getV_rd s a)
 have HG:=hide hg
 clear hg
 by_cases h0:(rd s a).2.2=0
 ·go_enter Tryz.func172,Tryz.ntmps172
  go_wp2_with fail
  refine(read_any s a _ hs).mono ?_
  generalize rd s a=r at HV h0 ⊢
  obtain⟨n,p,c⟩:=r
  simp only at HV h0 ⊢
  subst h0
  rintro e w' ⟨rfl,hw⟩
  subst w'
  simp only[errV,if_pos]
  go_wp2
  refine bodyPost_ret (v:=outN n p 0) (by simp[results,outN,Tryz.results172,go_sem]) rfl ⟨by rw[HV.out];rfl,(Below.refl _ _).alloc (Nat.le_refl _) _⟩
 ·go_enter Tryz.func172,Tryz.ntmps172
  go_wp2_with fail
  refine(read_any s a _ hs).mono ?_
  generalize rd s a=r at HV h0 ⊢
  obtain⟨n,p,c⟩:=r
  simp only at HV h0 ⊢
  have H0:=hide h0
  rintro e w' ⟨rfl,hw⟩
  subst w'
  simp only[errV,if_neg h0]
  clear h0
  go_wp2_with fail
  refine(code_any c _ (handle_alloc _ HG.out)).mono ?_
  rintro e w1 ⟨rfl,hb1⟩
  obtain⟨hc1,hf1⟩:=bcell hb1
  go_wp2
  refine bodyPost_ret (v:=outN 0 0 c) (by simp[results,outN,Tryz.results172,go_sem,hc1]) rfl ⟨by rw[HV.out,if_neg H0.out],?_⟩
  exact((((Below.refl w.heap.size w).alloc (Nat.le_refl _) _).trans (hb1.mono (by simp))).setCell (Nat.le_refl _) _ |>.setCell (Nat.le_refl _) _).setCell (Nat.le_refl _) _
end Go.Proofs.YtpddanmnlkcdpaaGreatDoor.Gn


namespace Go.Proofs.YtpddanmnlkcdpaaGreatDoor.Gn
open Go.RowKit
def rt (s:ByteArray) (a:Int):ByteArray × Nat × Int :=
 if (rd s a).2.2≠0 then (⟨#[]⟩,0,(rd s a).2.2)
 else if (rd s a).1<0∨8000<(rd s a).1 then (⟨#[]⟩,0,3)
 else if s.size<(rd s a).2.1+(rd s a).1.toNat then (⟨#[]⟩,0,4)
 else (s.extract (rd s a).2.1 ((rd s a).2.1+(rd s a).1.toNat),(rd s a).2.1+(rd s a).1.toNat,0)
def outT (t:ByteArray) (at_ code:Int):Value:=.agg #[.string t,.int .i64 at_,.int .i64 code]
def textV (s:ByteArray) (a:Int):Value:=outT (rt s a).1 (rt s a).2.1 (rt s a).2.2
theorem rd_place (s:ByteArray) (a:Int) (h:(rd s a).2.2=0):s.size<=8000/\(rd s a).2.1<=s.size:=by
 unfold rd at h ⊢
 split at h
 ·exact absurd h (by decide)
 ·split at h
  ·exact absurd h (by decide)
  ·rename_i h1 h2
   rw[if_neg h1,if_neg h2]
   exact⟨by omega,run_place s 10 0 a.toNat 0⟩
theorem rt_bad (s:ByteArray) (a n:Int) (p:Nat) (c:Int) (hr:rd s a=(n,p,c)) (h:¬c=0):rt s a=(⟨#[]⟩,0,c):=by
 unfold rt;rw[hr];exact if_pos h
theorem rt_size (s:ByteArray) (a n:Int) (p:Nat) (hr:rd s a=(n,p,0)) (h:n<0∨8000<n):rt s a=(⟨#[]⟩,0,3):=by
 unfold rt;rw[hr];exact(if_neg (by simp)).trans (if_pos h)
theorem rt_short (s:ByteArray) (a:Int) (m p:Nat) (hr:rd s a=((m:Int),p,0)) (h8:m<=8000) (h:s.size<p+m):rt s a=(⟨#[]⟩,0,4):=by
 unfold rt;rw[hr];exact(if_neg (by simp)).trans ((if_neg (by show ¬((m:Int)<0∨8000<(m:Int));omega)).trans (if_pos h))
theorem rt_ok (s:ByteArray) (a:Int) (m p:Nat) (hr:rd s a=((m:Int),p,0)) (h8:m<=8000) (h:¬s.size<p+m):rt s a=(s.extract p (p+m),p+m,0):=by
 unfold rt;rw[hr];exact(if_neg (by simp)).trans ((if_neg (by show ¬((m:Int)<0∨8000<(m:Int));omega)).trans (if_neg h))
theorem getV_of (s:ByteArray) (a n:Int) (p:Nat) (c:Int) (hr:rd s a=(n,p,c)):getV s a=if c=0 then outN n p 0 else outN 0 0 c:=by
 rw[getV_rd,hr]
theorem textV_of (s:ByteArray) (a:Int) (t:ByteArray) (p:Nat) (c:Int) (h:rt s a=(t,p,c)):textV s a=outT t p c:=by
 unfold textV;rw[h]
def tupV (r:ByteArray × Nat × Int):Value:=.tuple #[.string r.1,.int .i64 r.2.1,errV r.2.2]
theorem readText_any (s:ByteArray) (a:Int) (w:World) (hs:s.size<=maxLen) :
  Calls Tryz.prog 168 #[.string s,.int .i64 a] w fun e w'=>e=.returned (tupV (rt s a))/\Below w.heap.size w w':=by
 obtain⟨⟨n,p,c⟩,hr⟩:∃ r,rd s a=r:=⟨_,rfl⟩
 have HR:=hide hr
 by_cases h0:c=0
 ·subst h0
  obtain⟨hs8,hp⟩:=rd_place s a (by rw[hr])
  rw[hr]at hp
  simp only at hp
  by_cases hn:n<0∨8000<n
  ·have HT:=hide (rt_size s a n p hr hn)
   clear hr
   by_cases hneg:n<0
   ·clear hn
    go_enter Tryz.func168,Tryz.ntmps168
    go_wp2_with fail
    refine(read_any s a _ hs).mono ?_
    rw[HR.out]
    simp only[errV,if_pos]
    rintro e w' ⟨rfl,hw⟩
    subst w'
    go_wp2
    go_ret3
    exact⟨by rw[HT.out];rfl,Below.refl _ _⟩
   ·have hbig:(8000:Int)<n:=by omega
    clear hn
    go_enter Tryz.func168,Tryz.ntmps168
    go_wp2_with fail
    refine(read_any s a _ hs).mono ?_
    rw[HR.out]
    simp only[errV,if_pos]
    rintro e w' ⟨rfl,hw⟩
    subst w'
    go_wp2
    go_ret3
    exact⟨by rw[HT.out];rfl,Below.refl _ _⟩
  ·obtain⟨m,rfl⟩:=Int.eq_ofNat_of_zero_le (show 0<=n from by omega)
   have hm8:m<=8000:=by omega
   have hnb:¬((8000:Int)<m):=by omega
   by_cases hl:s.size<p+m
   ·have HT:=hide (rt_short s a m p hr hm8 hl)
    clear hn hr
    go_enter Tryz.func168,Tryz.ntmps168
    go_wp2_with fail
    refine(read_any s a _ hs).mono ?_
    rw[HR.out]
    simp only[errV,if_pos]
    rintro e w' ⟨rfl,hw⟩
    subst w'
    go_wp2
    go_ret3
    exact⟨by rw[HT.out];rfl,Below.refl _ _⟩
   ·have HT:=hide (rt_ok s a m p hr hm8 hl)
    clear hn hr
    go_enter Tryz.func168,Tryz.ntmps168
    go_wp2_with fail
    refine(read_any s a _ hs).mono ?_
    rw[HR.out]
    simp only[errV,if_pos]
    rintro e w' ⟨rfl,hw⟩
    subst w'
    go_wp2_with fail
    refine(Nu.cut_any s p (p+m) _ (by omega) (by omega) (by omega)).mono ?_
    rintro e w1 ⟨rfl,hb1⟩
    go_wp2
    go_ret3
    exact⟨by rw[HT.out];rfl,hb1⟩
 ·have HT:=hide (rt_bad s a n p c hr h0)
  have H0:=hide h0
  go_enter Tryz.func168,Tryz.ntmps168
  go_wp2_with fail
  refine(read_any s a _ hs).mono ?_
  rw[HR.out]
  simp only[errV,if_neg h0]
  clear hr h0
  rintro e w' ⟨rfl,hw⟩
  subst w'
  go_wp2
  go_ret3
  exact⟨by rw[HT.out];simp only[tupV,errV,if_neg H0.out];rfl,Below.refl _ _⟩
theorem rt_codes (s:ByteArray) (a:Int) (h:¬(rt s a).2.2=0):(rt s a).1=⟨#[]⟩/\(rt s a).2.1=0:=by
 unfold rt at h ⊢
 split at h
 ·rename_i h1;rw[if_pos h1];exact⟨rfl,rfl⟩
 ·rename_i h1
  rw[if_neg h1]
  split at h
  ·rename_i h2;rw[if_pos h2];exact⟨rfl,rfl⟩
  ·rename_i h2
   rw[if_neg h2]
   split at h
   ·rename_i h3;rw[if_pos h3];exact⟨rfl,rfl⟩
   ·exact absurd rfl h
theorem text_impl (s:ByteArray) (a:Int) (w:World) (hs:s.size<=maxLen) (hg:w.cell? ⟨1,0,none⟩=some handle) :
  Calls Tryz.prog 135 #[.string s,.int .i64 a] w fun e w'=>e=.returned (textV s a)/\Below w.heap.size w w':=by
 have HG:=hide hg
 clear hg
 obtain⟨⟨t,p,c⟩,hr⟩:∃ r,rt s a=r:=⟨_,rfl⟩
 have HR:=hide hr
 by_cases h0:c=0
 ·subst h0
  have HT:=hide (textV_of s a t p 0 hr)
  clear hr
  go_enter Tryz.func135,Tryz.ntmps135
  go_wp2_with fail
  refine(readText_any s a _ hs).mono ?_
  rw[HR.out]
  simp only[tupV,errV,if_pos]
  rintro e w1 ⟨rfl,hb1⟩
  obtain⟨hc1,hf1⟩:=bcell hb1
  go_wp2
  refine bodyPost_ret (v:=outT t p 0) (by simp[results,outT,Tryz.results135,go_sem,hc1]) rfl ⟨by rw[HT.out],?_⟩
  exact((((Below.refl w.heap.size w).alloc (Nat.le_refl _) _).trans (hb1.mono (by simp))).setCell (Nat.le_refl _) _ |>.setCell (Nat.le_refl _) _).setCell (Nat.le_refl _) _
 ·have hz:=rt_codes s a (by rw[hr];exact h0)
  rw[hr]at hz
  simp only at hz
  obtain⟨rfl,rfl⟩:=hz
  have HT:=hide (textV_of s a _ _ c hr)
  clear hr
  go_enter Tryz.func135,Tryz.ntmps135
  go_wp2_with fail
  refine(readText_any s a _ hs).mono ?_
  rw[HR.out]
  simp only[tupV,errV,if_neg h0]
  clear h0
  rintro e w1 ⟨rfl,hb1⟩
  obtain⟨hc1,hf1⟩:=bcell hb1
  have hz1:w.heap.size<w1.heap.size:=by have:=hb1.size;simp at this;omega
  have HB1:=hide (((Below.refl w.heap.size w).alloc (Nat.le_refl _) _).trans (hb1.mono (by simp)))
  go_wp2_with fail
  refine(code_any c _ (handle_below HB1.out HG.out)).mono ?_
  rintro e w2 ⟨rfl,hb2⟩
  obtain⟨hc2,hf2⟩:=bcell hb2
  go_wp2
  refine bodyPost_ret (v:=outT ⟨#[]⟩ 0 c) (by simp[results,outT,Tryz.results135,go_sem,hc1,hc2,hz1]) rfl ⟨by rw[HT.out];rfl,?_⟩
  exact((((HB1.out).trans (hb2.mono HB1.out.size)).setCell (Nat.le_refl _) _).setCell (Nat.le_refl _) _).setCell (Nat.le_refl _) _
end Go.Proofs.YtpddanmnlkcdpaaGreatDoor.Gn

