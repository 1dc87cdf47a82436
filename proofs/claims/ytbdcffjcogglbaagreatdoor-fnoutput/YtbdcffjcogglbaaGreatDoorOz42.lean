import Derived.Test.YtbdcffjcogglbaaGreatDoorOz41
set_option maxRecDepth 100000
set_option maxHeartbeats 8000000
namespace Go.Proofs.YtbdcffjcogglbaaGreatDoor
open Go.Proofs.Tryz
namespace Up
open Pk
open Go.RowKit Go.Proofs.YtbdcffjcogglbaaGreatDoor.Jump
open Gn (rd errV read_any)
open In (Ints IsI made_ints)
open Hf (up)
open Go.Proofs.YtbdcffjcogglbaaGreatDoor.So (bwtA)
structure Mem (g:Nat) (ev:Value) (w0 w:World) (l l':List Int):Prop where
 told:IsI w g 113 l
 four:l.length=4
 lens:IsI w (g+1) 2 l'
 many:l'.length=257
 low:Below g w0 w
 glob:Glob w ev
theorem Mem.setT {g : Nat} {ev : Value} {w0 w : World} {l l' : List Int} (h : Mem g ev w0 w l l') (hg : 0 < g) (k : Nat) (x : Int) : Mem g ev w0 (w.setCell ⟨g, k, none⟩ (.int .i64 x)) (l.set k x) l' :=
  ⟨h.told.set k x, by rw [List.length_set]; exact h.four, h.lens.set_other ⟨g, k, none⟩ _ (by show g + 1 ≠ g; omega), h.many, h.low.setCell (p := ⟨g, k, none⟩) nl _,
   ⟨Nat.lt_of_lt_of_le h.glob.1 (Nat.le_of_eq (by simp [World.setCell])), (Below.cell (((Below.refl g w).setCell (p := ⟨g, k, none⟩) nl _)) (p := ⟨0, 0, none⟩) hg).trans h.glob.2⟩⟩
theorem Mem.setL {g : Nat} {ev : Value} {w0 w : World} {l l' : List Int} (h : Mem g ev w0 w l l') (hg : 0 < g) (k : Nat) (x : Int) : Mem g ev w0 (w.setCell ⟨g + 1, k, none⟩ (.int .i64 x)) l (l'.set k x) :=
  ⟨h.told.set_other ⟨g + 1, k, none⟩ _ (by show g ≠ g + 1; omega), h.four, h.lens.set k x, by rw [List.length_set]; exact h.many, h.low.setCell (p := ⟨g + 1, k, none⟩) (by show g ≤ g + 1; omega) _,
   ⟨Nat.lt_of_lt_of_le h.glob.1 (Nat.le_of_eq (by simp [World.setCell])), (Below.cell (((Below.refl g w).setCell (p := ⟨g + 1, k, none⟩) (by show g ≤ g + 1; omega) _)) (p := ⟨0, 0, none⟩) hg).trans h.glob.2⟩⟩
def JS (s:ByteArray) (g:Nat) (ev:Value) (w0:World) (lab:Nat) (a:Act) (w:World):Prop :=
 (lab=0/\∃ (k p:Nat) (l l':List Int) (x5 x6 x10 x11 x12 x13 x14 x15 x16 x17 x18 x19 x20 x21 x22 x23 x24 x25 x26 x27 x28 x29 x30 x31 x32 x33 x34 x35 x36 x37 x38 x39 x40 x41 x42 x43 x44 x45 x46 x47 x48 x49 x50 x51 x52 x53 x54 x55 x56 x57 x58 x59 x60 x61 x62 x63 x64 x65 x66 x67 x68 x69:Value),a={ tmps:=#[.string s,undef,.string ⟨#[]⟩,.nilIface,.pointer (some ⟨g,0,none⟩),x5,x6,.slice (some ⟨g+1,0,none⟩) 257 257,.int .i64 (p:Nat),.int .i64 (k:Nat),x10,x11,x12,x13,x14,x15,x16,x17,x18,x19,x20,x21,x22,x23,x24,x25,x26,x27,x28,x29,x30,x31,x32,x33,x34,x35,x36,x37,x38,x39,x40,x41,x42,x43,x44,x45,x46,x47,x48,x49,x50,x51,x52,x53,x54,x55,x56,x57,x58,x59,x60,x61,x62,x63,x64,x65,x66,x67,x68,x69],defers:=[] }/\1<=k/\k<=3/\RdI s k p/\HeadF s k l/\l'=List.replicate 257 0/\Mem g ev w0 w l l') ∨
 (lab=3/\∃ (k p:Nat) (l l':List Int) (x5 x6 x10 x11 x12 x13 x14 x15 x16 x17 x18 x19 x20 x21 x22 x23 x24 x25 x26 x27 x28 x29 x30 x31 x32 x33 x34 x35 x36 x37 x38 x39 x40 x41 x42 x43 x44 x45 x46 x47 x48 x49 x50 x51 x52 x53 x54 x55 x56 x57 x58 x59 x60 x61 x62 x63 x64 x65 x66 x67 x68 x69:Value),a={ tmps:=#[.string s,undef,.string ⟨#[]⟩,.nilIface,.pointer (some ⟨g,0,none⟩),x5,x6,.slice (some ⟨g+1,0,none⟩) 257 257,.int .i64 (p:Nat),.int .i64 (k:Nat),x10,x11,x12,x13,x14,x15,x16,x17,x18,x19,x20,x21,x22,x23,x24,x25,x26,x27,x28,x29,x30,x31,x32,x33,x34,x35,x36,x37,x38,x39,x40,x41,x42,x43,x44,x45,x46,x47,x48,x49,x50,x51,x52,x53,x54,x55,x56,x57,x58,x59,x60,x61,x62,x63,x64,x65,x66,x67,x68,x69],defers:=[] }/\RdI s (4+2*k) p/\k<=p/\HeadF s 4 l/\TabF s k l'/\Mem g ev w0 w l l') ∨
 (lab=2/\∃ (k p:Nat) (l l':List Int) (x5 x6 x10 x11 x12 x13 x14 x15 x16 x17 x18 x19 x20 x21 x22 x23 x24 x25 x26 x27 x28 x29 x30 x31 x32 x33 x34 x35 x36 x37 x38 x39 x40 x41 x42 x43 x44 x45 x46 x47 x48 x49 x50 x51 x52 x53 x54 x55 x56 x57 x58 x59 x60 x61 x62 x63 x64 x65 x66 x67 x68 x69:Value),a={ tmps:=#[.string s,undef,.string ⟨#[]⟩,.nilIface,.pointer (some ⟨g,0,none⟩),x5,x6,.slice (some ⟨g+1,0,none⟩) 257 257,.int .i64 (p:Nat),.int .i64 (k:Nat),x10,x11,x12,x13,x14,x15,x16,x17,x18,x19,x20,x21,x22,x23,x24,x25,x26,x27,x28,x29,x30,x31,x32,x33,x34,x35,x36,x37,x38,x39,x40,x41,x42,x43,x44,x45,x46,x47,x48,x49,x50,x51,x52,x53,x54,x55,x56,x57,x58,x59,x60,x61,x62,x63,x64,x65,x66,x67,x68,x69],defers:=[] }/\p<=s.size/\AllF s p l l'/\Mem g ev w0 w l l') ∨
 (lab=1/\∃ (k p:Int) (l l':List Int) (x5 x6 x10 x11 x12 x13 x14 x15 x16 x17 x18 x19 x20 x21 x22 x23 x24 x25 x26 x27 x28 x29 x30 x31 x32 x33 x34 x35 x36 x37 x38 x39 x40 x41 x42 x43 x44 x45 x46 x47 x48 x49 x50 x51 x52 x53 x54 x55 x56 x57 x58 x59 x60 x61 x62 x63 x64 x65 x66 x67 x68 x69:Value),a={ tmps:=#[.string s,undef,.string ⟨#[]⟩,.nilIface,.pointer (some ⟨g,0,none⟩),x5,x6,.slice (some ⟨g+1,0,none⟩) 257 257,.int .i64 p,.int .i64 k,x10,x11,x12,x13,x14,x15,x16,x17,x18,x19,x20,x21,x22,x23,x24,x25,x26,x27,x28,x29,x30,x31,x32,x33,x34,x35,x36,x37,x38,x39,x40,x41,x42,x43,x44,x45,x46,x47,x48,x49,x50,x51,x52,x53,x54,x55,x56,x57,x58,x59,x60,x61,x62,x63,x64,x65,x66,x67,x68,x69],defers:=[] }/\(∀ b,¬Good s b)/\Mem g ev w0 w l l')
theorem JS0 (s:ByteArray) (g:Nat) (ev:Value) (w0:World) (w:World) (k p:Nat) (l l':List Int) (x5 x6 x10 x11 x12 x13 x14 x15 x16 x17 x18 x19 x20 x21 x22 x23 x24 x25 x26 x27 x28 x29 x30 x31 x32 x33 x34 x35 x36 x37 x38 x39 x40 x41 x42 x43 x44 x45 x46 x47 x48 x49 x50 x51 x52 x53 x54 x55 x56 x57 x58 x59 x60 x61 x62 x63 x64 x65 x66 x67 x68 x69:Value) (h0:1<=k) (h1:k<=3) (h2:RdI s k p) (h3:HeadF s k l) (h4:l'=List.replicate 257 0) (h5:Mem g ev w0 w l l'):JS s g ev w0 0 { tmps:=#[.string s,undef,.string ⟨#[]⟩,.nilIface,.pointer (some ⟨g,0,none⟩),x5,x6,.slice (some ⟨g+1,0,none⟩) 257 257,.int .i64 (p:Nat),.int .i64 (k:Nat),x10,x11,x12,x13,x14,x15,x16,x17,x18,x19,x20,x21,x22,x23,x24,x25,x26,x27,x28,x29,x30,x31,x32,x33,x34,x35,x36,x37,x38,x39,x40,x41,x42,x43,x44,x45,x46,x47,x48,x49,x50,x51,x52,x53,x54,x55,x56,x57,x58,x59,x60,x61,x62,x63,x64,x65,x66,x67,x68,x69],defers:=[] } w :=
 .inl ⟨rfl,k,p,l,l',x5,x6,x10,x11,x12,x13,x14,x15,x16,x17,x18,x19,x20,x21,x22,x23,x24,x25,x26,x27,x28,x29,x30,x31,x32,x33,x34,x35,x36,x37,x38,x39,x40,x41,x42,x43,x44,x45,x46,x47,x48,x49,x50,x51,x52,x53,x54,x55,x56,x57,x58,x59,x60,x61,x62,x63,x64,x65,x66,x67,x68,x69,rfl,h0,h1,h2,h3,h4,h5⟩
theorem JS3 (s:ByteArray) (g:Nat) (ev:Value) (w0:World) (w:World) (k p:Nat) (l l':List Int) (x5 x6 x10 x11 x12 x13 x14 x15 x16 x17 x18 x19 x20 x21 x22 x23 x24 x25 x26 x27 x28 x29 x30 x31 x32 x33 x34 x35 x36 x37 x38 x39 x40 x41 x42 x43 x44 x45 x46 x47 x48 x49 x50 x51 x52 x53 x54 x55 x56 x57 x58 x59 x60 x61 x62 x63 x64 x65 x66 x67 x68 x69:Value) (h0:RdI s (4+2*k) p) (h1:k<=p) (h2:HeadF s 4 l) (h3:TabF s k l') (h4:Mem g ev w0 w l l'):JS s g ev w0 3 { tmps:=#[.string s,undef,.string ⟨#[]⟩,.nilIface,.pointer (some ⟨g,0,none⟩),x5,x6,.slice (some ⟨g+1,0,none⟩) 257 257,.int .i64 (p:Nat),.int .i64 (k:Nat),x10,x11,x12,x13,x14,x15,x16,x17,x18,x19,x20,x21,x22,x23,x24,x25,x26,x27,x28,x29,x30,x31,x32,x33,x34,x35,x36,x37,x38,x39,x40,x41,x42,x43,x44,x45,x46,x47,x48,x49,x50,x51,x52,x53,x54,x55,x56,x57,x58,x59,x60,x61,x62,x63,x64,x65,x66,x67,x68,x69],defers:=[] } w :=
 .inr <| .inl ⟨rfl,k,p,l,l',x5,x6,x10,x11,x12,x13,x14,x15,x16,x17,x18,x19,x20,x21,x22,x23,x24,x25,x26,x27,x28,x29,x30,x31,x32,x33,x34,x35,x36,x37,x38,x39,x40,x41,x42,x43,x44,x45,x46,x47,x48,x49,x50,x51,x52,x53,x54,x55,x56,x57,x58,x59,x60,x61,x62,x63,x64,x65,x66,x67,x68,x69,rfl,h0,h1,h2,h3,h4⟩
theorem JS2 (s:ByteArray) (g:Nat) (ev:Value) (w0:World) (w:World) (k p:Nat) (l l':List Int) (x5 x6 x10 x11 x12 x13 x14 x15 x16 x17 x18 x19 x20 x21 x22 x23 x24 x25 x26 x27 x28 x29 x30 x31 x32 x33 x34 x35 x36 x37 x38 x39 x40 x41 x42 x43 x44 x45 x46 x47 x48 x49 x50 x51 x52 x53 x54 x55 x56 x57 x58 x59 x60 x61 x62 x63 x64 x65 x66 x67 x68 x69:Value) (h0:p<=s.size) (h1:AllF s p l l') (h2:Mem g ev w0 w l l'):JS s g ev w0 2 { tmps:=#[.string s,undef,.string ⟨#[]⟩,.nilIface,.pointer (some ⟨g,0,none⟩),x5,x6,.slice (some ⟨g+1,0,none⟩) 257 257,.int .i64 (p:Nat),.int .i64 (k:Nat),x10,x11,x12,x13,x14,x15,x16,x17,x18,x19,x20,x21,x22,x23,x24,x25,x26,x27,x28,x29,x30,x31,x32,x33,x34,x35,x36,x37,x38,x39,x40,x41,x42,x43,x44,x45,x46,x47,x48,x49,x50,x51,x52,x53,x54,x55,x56,x57,x58,x59,x60,x61,x62,x63,x64,x65,x66,x67,x68,x69],defers:=[] } w :=
 .inr <| .inr <| .inl ⟨rfl,k,p,l,l',x5,x6,x10,x11,x12,x13,x14,x15,x16,x17,x18,x19,x20,x21,x22,x23,x24,x25,x26,x27,x28,x29,x30,x31,x32,x33,x34,x35,x36,x37,x38,x39,x40,x41,x42,x43,x44,x45,x46,x47,x48,x49,x50,x51,x52,x53,x54,x55,x56,x57,x58,x59,x60,x61,x62,x63,x64,x65,x66,x67,x68,x69,rfl,h0,h1,h2⟩
theorem JS1 (s:ByteArray) (g:Nat) (ev:Value) (w0:World) (w:World) (k p:Int) (l l':List Int) (x5 x6 x10 x11 x12 x13 x14 x15 x16 x17 x18 x19 x20 x21 x22 x23 x24 x25 x26 x27 x28 x29 x30 x31 x32 x33 x34 x35 x36 x37 x38 x39 x40 x41 x42 x43 x44 x45 x46 x47 x48 x49 x50 x51 x52 x53 x54 x55 x56 x57 x58 x59 x60 x61 x62 x63 x64 x65 x66 x67 x68 x69:Value) (h0:(∀ b,¬Good s b)) (h1:Mem g ev w0 w l l'):JS s g ev w0 1 { tmps:=#[.string s,undef,.string ⟨#[]⟩,.nilIface,.pointer (some ⟨g,0,none⟩),x5,x6,.slice (some ⟨g+1,0,none⟩) 257 257,.int .i64 p,.int .i64 k,x10,x11,x12,x13,x14,x15,x16,x17,x18,x19,x20,x21,x22,x23,x24,x25,x26,x27,x28,x29,x30,x31,x32,x33,x34,x35,x36,x37,x38,x39,x40,x41,x42,x43,x44,x45,x46,x47,x48,x49,x50,x51,x52,x53,x54,x55,x56,x57,x58,x59,x60,x61,x62,x63,x64,x65,x66,x67,x68,x69],defers:=[] } w :=
 .inr <| .inr <| .inr ⟨rfl,k,p,l,l',x5,x6,x10,x11,x12,x13,x14,x15,x16,x17,x18,x19,x20,x21,x22,x23,x24,x25,x26,x27,x28,x29,x30,x31,x32,x33,x34,x35,x36,x37,x38,x39,x40,x41,x42,x43,x44,x45,x46,x47,x48,x49,x50,x51,x52,x53,x54,x55,x56,x57,x58,x59,x60,x61,x62,x63,x64,x65,x66,x67,x68,x69,rfl,h0,h1⟩
def muS (lab:Nat) (a:Act) (_:World):Nat:=if lab=0 then 30000-(intOf (a.tmps.getD 9 undef)).toNat else if lab=3 then 20000-(intOf (a.tmps.getD 8 undef)).toNat else if lab=2 then 1 else 0
theorem ev_cell {g:Nat} {ev:Value} {w0 w:World} {l l':List Int} (h:Mem g ev w0 w l l'):w.cell? ⟨0,0,none⟩=some ev:=h.glob.2
theorem short_any (ev:Value) (s:ByteArray) (w:World) (hgl:Glob w ev) (h1:1<=s.size) (hs:s.size<=8000) :
  Calls prog 117 #[.string s] w fun e w'=>(∃ r v,e=.returned (.tuple #[.string r,v])/\(v=.nilIface∨v=ev)/\r.size<=8000/\∀ b,Good s b->r=b/\v=.nilIface)/\Below w.heap.size w w':=by
 obtain⟨i0,hi,hz0,hz1,hz2⟩:=info_parts In.Tryz.infoI2;obtain⟨g,hg⟩:∃ g,g=w.heap.size:=⟨_,rfl⟩;have HBE:=hideP hg.symm
 have HVG:Hid (0 < g):=by rw[hg];exact hgl.1
 have HI0:Hid (IsI (w.alloc (.cells #[.int .i64 0,.int .i64 0,.int .i64 0,.int .i64 0] 113)) g 113 [0,0,0,0]):=by rw[hg];exact heap_alloc_new w _
 have HL0:Hid (Below g w (w.alloc (.cells #[.int .i64 0,.int .i64 0,.int .i64 0,.int .i64 0] 113))):=by rw[hg];exact(Below.refl _ _).alloc nl _
 have HG0:Hid (Glob (w.alloc (.cells #[.int .i64 0,.int .i64 0,.int .i64 0,.int .i64 0] 113)) ev):=glob_keep hgl ((Below.refl _ _).alloc nl _)
 have HZ0:Hid ((w.alloc (.cells #[.int .i64 0,.int .i64 0,.int .i64 0,.int .i64 0] 113)).heap.size=g+1):=by unfold Hid;rw[hg];simp
 have HRD:=hideP (fun (p:Int) (W:World)=>read_any s p W (by unfold maxLen;omega));have HR1:=hideP (rdI_first h1);clear hgl h1 hg;rw[HBE.o];go_enter func117,ntmps117
 go_wp2_with fail
 refine wp_scope_labels (JS s g ev w) muS ?_ ?_
 ·go_wp2_with (at_make;generalize hww:w.alloc (.cells #[.int .i64 0,.int .i64 0,.int .i64 0,.int .i64 0] 113)=wa at HI0 HL0 HG0 HZ0 ⊢;clear hww;refine wpList_make_full _ rfl (.const (.int .i64 257)) (.const (.int .i64 257)) 69 rfl wa.heap.size 2 i0 (.int .i64 0) 1 underlying69 hi hz0 hz1 .i64 .i64 _ _ 257 rfl rfl (by omega) (by omega) (by rw[hz2];omega) (by unfold maxLen;omega) nl ?_;intro wm hown hgrow;have I0:=hideP (made_ints hown);have HBm:=hideP ((Below.refl wa.heap.size wa).grown hgrow nl (by simp));clear hown hgrow)
  rw[HZ0.o]at I0 ⊢;rw[HBE.o];have MT:Hid (Mem g ev w wm [0,0,0,0] (List.replicate 257 0)):=⟨HI0.o.below HBm.o (by rw[HZ0.o];omega),rfl,I0.o,List.length_replicate ..,HL0.o.trans (HBm.o.mono (by rw[HZ0.o];omega)),glob_keep HG0.o HBm.o⟩;have HST:=hideP (rdI_step HR1.o (fun b _=>four_le b 0 (by omega)))
  go_step3
  go_wp2_with fail
  refine(HRD.o 1 _).mono ?_;rintro e w2 ⟨rfl,hw⟩;subst w2;obtain⟨⟨y,q,c⟩,hrd⟩:∃ x,x=rd s 1:=⟨_,rfl⟩;rw[show rd s ((1:Nat):Int)=rd s 1 from rfl,<-hrd]at HST;rw[<-hrd];clear hrd HI0 HL0 HG0 I0 HBm HR1;dsimp only at HST ⊢;have cy:=MT.o.told.cell (j:=0) (by decide);have fy:=MT.o.told.frozen 0;have MS:=hideP (MT.o.setT HVG.o 0 y);by_cases hc:c=0
  ·rw[errV_yes hc]
   have R2:=hideP ((HST.o.1 hc).1);have Y2:=hideP (head_next (head_none s [0,0,0,0]) (by decide) (HST.o.1 hc).2);clear HST hc
   go_wp2_with fail
   go_step3
   exact JS0 s g ev w _ 1 q _ _ _ _ _ _ _ _ _ _ _ _ _ _ _ _ _ _ _ _ _ _ _ _ _ _ _ _ _ _ _ _ _ _ _ _ _ _ _ _ _ _ _ _ _ _ _ _ _ _ _ _ _ _ _ _ _ _ _ _ _ _ _ _ (by omega) (by omega) R2.o Y2.o rfl MS.o
  ·rw[errV_no hc]
   have HNO:=hideP (HST.o.2 hc);clear HST
   go_wp2_with fail
   go_step3
   exact JS1 s g ev w _ _ _ _ _ _ _ _ _ _ _ _ _ _ _ _ _ _ _ _ _ _ _ _ _ _ _ _ _ _ _ _ _ _ _ _ _ _ _ _ _ _ _ _ _ _ _ _ _ _ _ _ _ _ _ _ _ _ _ _ _ _ _ _ _ _ _ HNO.o MS.o
 ·intro lab a' w' hJ
  rcases hJ with⟨rfl,k,p,l,l',x5,x6,x10,x11,x12,x13,x14,x15,x16,x17,x18,x19,x20,x21,x22,x23,x24,x25,x26,x27,x28,x29,x30,x31,x32,x33,x34,x35,x36,x37,x38,x39,x40,x41,x42,x43,x44,x45,x46,x47,x48,x49,x50,x51,x52,x53,x54,x55,x56,x57,x58,x59,x60,x61,x62,x63,x64,x65,x66,x67,x68,x69,rfl,h0,h1,h2,h3,h4,h5⟩|⟨rfl,k,p,l,l',x5,x6,x10,x11,x12,x13,x14,x15,x16,x17,x18,x19,x20,x21,x22,x23,x24,x25,x26,x27,x28,x29,x30,x31,x32,x33,x34,x35,x36,x37,x38,x39,x40,x41,x42,x43,x44,x45,x46,x47,x48,x49,x50,x51,x52,x53,x54,x55,x56,x57,x58,x59,x60,x61,x62,x63,x64,x65,x66,x67,x68,x69,rfl,h0,hkp,h1,h2,h3⟩|⟨rfl,k,p,l,l',x5,x6,x10,x11,x12,x13,x14,x15,x16,x17,x18,x19,x20,x21,x22,x23,x24,x25,x26,x27,x28,x29,x30,x31,x32,x33,x34,x35,x36,x37,x38,x39,x40,x41,x42,x43,x44,x45,x46,x47,x48,x49,x50,x51,x52,x53,x54,x55,x56,x57,x58,x59,x60,x61,x62,x63,x64,x65,x66,x67,x68,x69,rfl,h0,h1,h2⟩|⟨rfl,k,p,l,l',x5,x6,x10,x11,x12,x13,x14,x15,x16,x17,x18,x19,x20,x21,x22,x23,x24,x25,x26,x27,x28,x29,x30,x31,x32,x33,x34,x35,x36,x37,x38,x39,x40,x41,x42,x43,x44,x45,x46,x47,x48,x49,x50,x51,x52,x53,x54,x55,x56,x57,x58,x59,x60,x61,x62,x63,x64,x65,x66,x67,x68,x69,rfl,h0,h1⟩
  ·refine⟨_,rfl,?_⟩
   have M0:=hideP h5;have HST:=hideP (rdI_step h2 (fun b _=>four_le b k (by omega)));have H3:=hideP h3;have H4:=hideP h4
   have hk4:(k:Int)<4:=by omega
   clear h2 h3 h4 h5 HI0 HL0 HG0 HR1
   go_wp2_with fail
   refine(HRD.o ((p:Nat):Int) _).mono ?_;rintro e w2 ⟨rfl,hw⟩;subst w2;obtain⟨⟨x,q,c⟩,hrd⟩:∃ x,x=rd s ((p:Nat):Int):=⟨_,rfl⟩;rw[<-hrd]at HST ⊢;clear hrd;dsimp only at HST ⊢;have cy:=M0.o.told.cell (j:=k) (by have:=M0.o.four;omega);have fy:=M0.o.told.frozen k;obtain⟨old,hold⟩:∃ x:Int,x=l[k]'(by have:=M0.o.four;omega):=⟨_,rfl⟩;rw[<-hold]at cy;clear hold;have MT:=hideP (M0.o.setT HVG.o k x);by_cases hc:c=0
   ·rw[errV_yes hc]
    have R2:=hideP ((HST.o.1 hc).1);have Y2:=hideP (head_next H3.o (by have:=M0.o.four;omega) (HST.o.1 hc).2);clear HST hc;by_cases hk:k+1<4
    ·have hk':(k:Int)+1<4:=by omega
     (go_wp2_with fail)
     go_step3
     exact⟨JS0 s g ev w _ (k+1) q _ _ _ _ _ _ _ _ _ _ _ _ _ _ _ _ _ _ _ _ _ _ _ _ _ _ _ _ _ _ _ _ _ _ _ _ _ _ _ _ _ _ _ _ _ _ _ _ _ _ _ _ _ _ _ _ _ _ _ _ _ _ _ _ (by omega) (by omega) R2.o Y2.o H4.o MT.o,by simp[muS,intOf]<;>omega⟩
    ·obtain rfl:k=3:=by omega
     have HHF:=Y2;have HTF:Hid (TabF s 0 l'):=(by rw[H4.o];exact tab_none s);have HRI:Hid (RdI s (4+2*0) q):=R2.o;have h3x:(l.set 3 x)[3]? = some x:=List.getElem?_set_self (by have:=M0.o.four;omega);have H3X:=hideP h3x;clear h3x;by_cases hle:x<=0
     ·have HAL:=hideP (tab_end HTF.o HHF.o HRI.o H3X.o (by omega))
      (go_wp2_with fail)
      go_step3
      (go_wp2_with fail)
      go_step3
      exact⟨JS2 s g ev w _ 0 q _ _ _ _ _ _ _ _ _ _ _ _ _ _ _ _ _ _ _ _ _ _ _ _ _ _ _ _ _ _ _ _ _ _ _ _ _ _ _ _ _ _ _ _ _ _ _ _ _ _ _ _ _ _ _ _ _ _ _ _ _ _ _ _ HRI.o.1 HAL.o MT.o,by simp[muS,intOf]<;>omega⟩
     ·have hle':decide (x<=0)=false:=by simp;omega
      have HLT:=hideP (tab_lt (m:=0) HHF.o H3X.o (by omega));have hqz:=HRI.o.1;(go_wp2_with fail)
      go_step3
      (go_wp2_with fail);generalize hww:w'.setCell ⟨g,3,none⟩ (.int .i64 x)=wt at MT ⊢;clear hww cy fy M0;have HST:=hideP (rdI_step HRI.o (tab_len HLT.o).1);have HON:=hideP (fun h=>rd_on (s:=s) (a:=q) h);refine(HRD.o ((q:Nat):Int) _).mono ?_;rintro e w2 ⟨rfl,hw⟩;subst w2;obtain⟨⟨y,q2,c⟩,hrd⟩:∃ x,x=rd s ((q:Nat):Int):=⟨_,rfl⟩;rw[<-hrd]at HST HON ⊢;clear hrd;dsimp only at HST HON ⊢;by_cases hc:c=0
      ·rw[errV_yes hc]
       have R2:=hideP ((HST.o.1 hc).1);have Y2:=hideP ((HST.o.1 hc).2);have O2:=HON.o hc;have hq2:=R2.o.1;clear HST HON hc;by_cases hy0:y<0
       ·have HNO:=hideP (tab_sym HLT.o Y2.o (.inl hy0))
        (go_wp2_with fail)
        go_step3
        exact⟨JS1 s g ev w _ _ _ _ _ _ _ _ _ _ _ _ _ _ _ _ _ _ _ _ _ _ _ _ _ _ _ _ _ _ _ _ _ _ _ _ _ _ _ _ _ _ _ _ _ _ _ _ _ _ _ _ _ _ _ _ _ _ _ _ _ _ _ _ _ _ _ HNO.o MT.o,by simp[muS,intOf]<;>omega⟩
       ·have hy0':decide (y<0)=false:=by simp;omega
        by_cases hy1:257<=y
        ·have HNO:=hideP (tab_sym HLT.o Y2.o (.inr hy1))
         (go_wp2_with fail)
         go_step3
         exact⟨JS1 s g ev w _ _ _ _ _ _ _ _ _ _ _ _ _ _ _ _ _ _ _ _ _ _ _ _ _ _ _ _ _ _ _ _ _ _ _ _ _ _ _ _ _ _ _ _ _ _ _ _ _ _ _ _ _ _ _ _ _ _ _ _ _ _ _ _ _ _ _ HNO.o MT.o,by simp[muS,intOf]<;>omega⟩
        ·have hy1':decide (257<=y)=false:=by simp;omega
         obtain⟨yn,rfl⟩:=Int.eq_ofNat_of_zero_le (show 0<=y by omega);have hyn:yn<257:=(by omega);have hyi:(yn:Int)<257:=(by omega);(go_wp2_with fail);have HST:=hideP (rdI_step R2.o (tab_len HLT.o).2);have HON:=hideP (fun h=>rd_on (s:=s) (a:=q2) h);refine(HRD.o ((q2:Nat):Int) _).mono ?_;rintro e w3 ⟨rfl,hw⟩;subst w3;obtain⟨⟨z,q3,c3⟩,hrd⟩:∃ x,x=rd s ((q2:Nat):Int):=⟨_,rfl⟩;rw[<-hrd]at HST HON ⊢;clear hrd;dsimp only at HST HON ⊢;have cy:=MT.o.lens.cell (j:=yn) (by have:=MT.o.many;omega);have fy:=MT.o.lens.frozen yn;have MS:=hideP (MT.o.setL HVG.o yn z);obtain⟨old,hold⟩:∃ x:Int,x=l'[yn]'(by have:=MT.o.many;omega):=⟨_,rfl⟩;rw[<-hold]at cy;clear hold;by_cases hc:c3=0
         ·rw[errV_yes hc]
          have R3:=hideP ((HST.o.1 hc).1);have Y3:=hideP ((HST.o.1 hc).2);have O3:=HON.o hc;have hq3:=R3.o.1;have TN:=hideP (tab_next HTF.o HLT.o Y2.o Y3.o);clear HST HON hc;(go_wp2_with fail)
          go_step3
          exact⟨JS3 s g ev w _ (0+1) q3 _ _ _ _ _ _ _ _ _ _ _ _ _ _ _ _ _ _ _ _ _ _ _ _ _ _ _ _ _ _ _ _ _ _ _ _ _ _ _ _ _ _ _ _ _ _ _ _ _ _ _ _ _ _ _ _ _ _ _ _ _ _ _ _ (by rw[show 4+2*(0+1)=4+2*0+1+1 by omega];exact R3.o) (by omega) HHF.o TN.o MS.o,by simp[muS,intOf]<;>omega⟩
         ·rw[errV_no hc]
          have HNO:=hideP (HST.o.2 hc);clear HST HON;(go_wp2_with fail)
          go_step3
          exact⟨JS1 s g ev w _ _ _ _ _ _ _ _ _ _ _ _ _ _ _ _ _ _ _ _ _ _ _ _ _ _ _ _ _ _ _ _ _ _ _ _ _ _ _ _ _ _ _ _ _ _ _ _ _ _ _ _ _ _ _ _ _ _ _ _ _ _ _ _ _ _ _ HNO.o MS.o,by simp[muS,intOf]<;>omega⟩
      ·rw[errV_no hc]
       have HNO:=hideP (HST.o.2 hc);clear HST HON;(go_wp2_with fail)
       go_step3
       exact⟨JS1 s g ev w _ _ _ _ _ _ _ _ _ _ _ _ _ _ _ _ _ _ _ _ _ _ _ _ _ _ _ _ _ _ _ _ _ _ _ _ _ _ _ _ _ _ _ _ _ _ _ _ _ _ _ _ _ _ _ _ _ _ _ _ _ _ _ _ _ _ _ HNO.o MT.o,by simp[muS,intOf]<;>omega⟩
   ·rw[errV_no hc]
    have HNO:=hideP (HST.o.2 hc);clear HST;(go_wp2_with fail)
    go_step3
    exact⟨JS1 s g ev w _ _ _ _ _ _ _ _ _ _ _ _ _ _ _ _ _ _ _ _ _ _ _ _ _ _ _ _ _ _ _ _ _ _ _ _ _ _ _ _ _ _ _ _ _ _ _ _ _ _ _ _ _ _ _ _ _ _ _ _ _ _ _ _ _ _ _ HNO.o MT.o,by simp[muS,intOf]<;>omega⟩
  ·refine⟨_,rfl,?_⟩
   have HRI:=hideP h0;have HHF:=hideP h1;have HTF:=hideP h2;have MT:=hideP h3;clear h0 h1 h2 h3 HI0 HL0 HG0 HR1;have hqz:=HRI.o.1;have cy3:=MT.o.told.cell (j:=3) (by have:=MT.o.four;omega);obtain⟨x3,hx3⟩:∃ x:Int,x=l[3]'(by have:=MT.o.four;omega):=⟨_,rfl⟩;rw[<-hx3]at cy3
   have H3X:Hid (l[3]? = some x3):=by rw[hx3];exact List.getElem?_eq_getElem _
   clear hx3;by_cases hle:x3<=(k:Int)
   ·have HAL:=hideP (tab_end HTF.o HHF.o HRI.o H3X.o hle)
    (go_wp2_with fail)
    go_step3
    exact⟨JS2 s g ev w _ k p _ _ _ _ _ _ _ _ _ _ _ _ _ _ _ _ _ _ _ _ _ _ _ _ _ _ _ _ _ _ _ _ _ _ _ _ _ _ _ _ _ _ _ _ _ _ _ _ _ _ _ _ _ _ _ _ _ _ _ _ _ _ _ _ HRI.o.1 HAL.o MT.o,by simp[muS,intOf]<;>omega⟩
   ·have hle':decide (x3<=(k:Int))=false:=by simp;omega
    have HLT:=hideP (tab_lt (m:=k) HHF.o H3X.o (by omega));(go_wp2_with fail);clear cy3;have HST:=hideP (rdI_step HRI.o (tab_len HLT.o).1);have HON:=hideP (fun h=>rd_on (s:=s) (a:=p) h);refine(HRD.o ((p:Nat):Int) _).mono ?_;rintro e w2 ⟨rfl,hw⟩;subst w2;obtain⟨⟨y,q2,c⟩,hrd⟩:∃ x,x=rd s ((p:Nat):Int):=⟨_,rfl⟩;rw[<-hrd]at HST HON ⊢;clear hrd;dsimp only at HST HON ⊢;by_cases hc:c=0
    ·rw[errV_yes hc]
     have R2:=hideP ((HST.o.1 hc).1);have Y2:=hideP ((HST.o.1 hc).2);have O2:=HON.o hc;have hq2:=R2.o.1;clear HST HON hc;by_cases hy0:y<0
     ·have HNO:=hideP (tab_sym HLT.o Y2.o (.inl hy0))
      (go_wp2_with fail)
      go_step3
      exact⟨JS1 s g ev w _ _ _ _ _ _ _ _ _ _ _ _ _ _ _ _ _ _ _ _ _ _ _ _ _ _ _ _ _ _ _ _ _ _ _ _ _ _ _ _ _ _ _ _ _ _ _ _ _ _ _ _ _ _ _ _ _ _ _ _ _ _ _ _ _ _ _ HNO.o MT.o,by simp[muS,intOf]<;>omega⟩
     ·have hy0':decide (y<0)=false:=by simp;omega
      by_cases hy1:257<=y
      ·have HNO:=hideP (tab_sym HLT.o Y2.o (.inr hy1))
       (go_wp2_with fail)
       go_step3
       exact⟨JS1 s g ev w _ _ _ _ _ _ _ _ _ _ _ _ _ _ _ _ _ _ _ _ _ _ _ _ _ _ _ _ _ _ _ _ _ _ _ _ _ _ _ _ _ _ _ _ _ _ _ _ _ _ _ _ _ _ _ _ _ _ _ _ _ _ _ _ _ _ _ HNO.o MT.o,by simp[muS,intOf]<;>omega⟩
      ·have hy1':decide (257<=y)=false:=by simp;omega
       obtain⟨yn,rfl⟩:=Int.eq_ofNat_of_zero_le (show 0<=y by omega);have hyn:yn<257:=(by omega);have hyi:(yn:Int)<257:=(by omega);(go_wp2_with fail);have HST:=hideP (rdI_step R2.o (tab_len HLT.o).2);have HON:=hideP (fun h=>rd_on (s:=s) (a:=q2) h);refine(HRD.o ((q2:Nat):Int) _).mono ?_;rintro e w3 ⟨rfl,hw⟩;subst w3;obtain⟨⟨z,q3,c3⟩,hrd⟩:∃ x,x=rd s ((q2:Nat):Int):=⟨_,rfl⟩;rw[<-hrd]at HST HON ⊢;clear hrd;dsimp only at HST HON ⊢;have cy:=MT.o.lens.cell (j:=yn) (by have:=MT.o.many;omega);have fy:=MT.o.lens.frozen yn;have MS:=hideP (MT.o.setL HVG.o yn z);obtain⟨old,hold⟩:∃ x:Int,x=l'[yn]'(by have:=MT.o.many;omega):=⟨_,rfl⟩;rw[<-hold]at cy;clear hold;by_cases hc:c3=0
       ·rw[errV_yes hc]
        have R3:=hideP ((HST.o.1 hc).1);have Y3:=hideP ((HST.o.1 hc).2);have O3:=HON.o hc;have hq3:=R3.o.1;have TN:=hideP (tab_next HTF.o HLT.o Y2.o Y3.o);clear HST HON hc;(go_wp2_with fail)
        go_step3
        exact⟨JS3 s g ev w _ (k+1) q3 _ _ _ _ _ _ _ _ _ _ _ _ _ _ _ _ _ _ _ _ _ _ _ _ _ _ _ _ _ _ _ _ _ _ _ _ _ _ _ _ _ _ _ _ _ _ _ _ _ _ _ _ _ _ _ _ _ _ _ _ _ _ _ _ (by rw[show 4+2*(k+1)=4+2*k+1+1 by omega];exact R3.o) (by omega) HHF.o TN.o MS.o,by simp[muS,intOf]<;>omega⟩
       ·rw[errV_no hc]
        have HNO:=hideP (HST.o.2 hc);clear HST HON;(go_wp2_with fail)
        go_step3
        exact⟨JS1 s g ev w _ _ _ _ _ _ _ _ _ _ _ _ _ _ _ _ _ _ _ _ _ _ _ _ _ _ _ _ _ _ _ _ _ _ _ _ _ _ _ _ _ _ _ _ _ _ _ _ _ _ _ _ _ _ _ _ _ _ _ _ _ _ _ _ _ _ _ HNO.o MS.o,by simp[muS,intOf]<;>omega⟩
    ·rw[errV_no hc]
     have HNO:=hideP (HST.o.2 hc);clear HST HON;(go_wp2_with fail)
     go_step3
     exact⟨JS1 s g ev w _ _ _ _ _ _ _ _ _ _ _ _ _ _ _ _ _ _ _ _ _ _ _ _ _ _ _ _ _ _ _ _ _ _ _ _ _ _ _ _ _ _ _ _ _ _ _ _ _ _ _ _ _ _ _ _ _ _ _ _ _ _ _ _ _ _ _ HNO.o MT.o,by simp[muS,intOf]<;>omega⟩
  ·refine⟨_,rfl,?_⟩
   have MT:=hideP h2;have HAL:=hideP h1;obtain⟨x0,x1,x2,x3,hl⟩:=list4 h2.four;subst hl;have hpz:=h0
   have hpi:(p:Int)<=(s.size:Int):=by omega
   clear h0 h1 h2 HI0 HL0 HG0 HR1
   have CB:Hid (∀ W,Below w'.heap.size w' W->W.cell? ⟨g,0,none⟩=some (.int .i64 x0)/\W.cell? ⟨g,1,none⟩=some (.int .i64 x1)/\W.cell? ⟨g,2,none⟩=some (.int .i64 x2)/\W.cell? ⟨g,3,none⟩=some (.int .i64 x3)):=fun W h =>
    four ((h.block g MT.o.told.lt).trans MT.o.told)
   have HBK:Hid (∀ W,Below w'.heap.size w' W->Calls prog 154 #[.agg #[.int .i64 x0,.int .i64 x1,.int .i64 x2,.int .i64 x3],.slice (some ⟨g+1,0,none⟩) 257 257,.string (s.extract p s.size)] W fun e w''=>(∃ r v,e=.returned (.tuple #[.string r,v])/\(v=.nilIface∨v=ev)/\r.size<=8000/\∀ t b,Good t b->l'=up (lenS b)->x1=((bwtA b:Nat):Int)->x2=((symS b).length:Int)->s.extract p s.size=bitsS b->r=b/\v=.nilIface)/\Below W.heap.size W w''):=fun W h =>
    back_any x0 x1 x2 x3 l' (some ⟨g+1,0,none⟩) 257 257 (s.extract p s.size) ev W ((MT.o.lens.below h MT.o.lens.lt).ints (Nat.lt_of_lt_of_le MT.o.lens.lt h.size)) MT.o.many.symm (by decide) (by have:=ext_size s p;omega) (glob_keep MT.o.glob h).1 (glob_keep MT.o.glob h).2
   have KW:=hideP (Below.refl w'.heap.size w')
   go_upto_region 17 with fail
   have hS0:=CB.o _ (KW.o.drew)
   go_region_held3 (fun W=>W.cell? ⟨g,0,none⟩=some (.int .i64 x0)/\W.cell? ⟨g,1,none⟩=some (.int .i64 x1)/\W.cell? ⟨g,2,none⟩=some (.int .i64 x2)/\W.cell? ⟨g,3,none⟩=some (.int .i64 x3))
    (first|assumption|exact CB.o _ (low_keep KW.o.drew LB.o))
    (first|(go_at_call 154;(with_reducible refine(HBK.o _ ?_).mono ?_);(· exact KW.o.drew);rintro e wb ⟨⟨r,v,rfl,hv,hrz,hr⟩,hbb⟩;have LB:=hideP hbb;have HV:=hideP hv;have HR:=hideP hr;clear hbb hv hr))
   all_goals (try go_wp2_with fail)
   all_goals (rw[toLabel_ret])
   all_goals go_ret2
   all_goals (refine⟨⟨r,v,rfl,HV.o,hrz,fun b hb=>?_⟩,MT.o.low.trans ((low_keep KW.o.drew LB.o).mono (by rw[<-HBE.o];exact MT.o.low.size))⟩)
   all_goals (obtain⟨q1,q2,q3,q4⟩:=HAL.o b hb)
   all_goals (exact HR.o s b hb q1 (Option.some.inj q2) (Option.some.inj q3) q4)
  ·refine⟨_,rfl,?_⟩
   have HNO:=hideP h0;have MT:=hideP h1;have gcell:=ev_cell h1;clear h0 h1 HI0 HL0 HG0 HR1
   go_wp2_with fail
   go_quiet (fail)
   go_wp2_with fail
   rw[toLabel_ret];go_ret2;exact⟨⟨_,_,rfl,.inr rfl,by decide,fun b hb=>absurd hb (HNO.o b)⟩,below_drewN MT.o.low _⟩
end Up
end Go.Proofs.YtbdcffjcogglbaaGreatDoor
