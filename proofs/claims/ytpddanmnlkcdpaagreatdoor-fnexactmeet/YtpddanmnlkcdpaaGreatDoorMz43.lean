/- Texts put together: Climb. -/
import Derived.Test.YtpddanmnlkcdpaaGreatDoorMz34
import Derived.Deep.RegionWith
import Derived.BigRegion
set_option maxRecDepth 100000
set_option maxHeartbeats 8000000
namespace Go.Proofs.YtpddanmnlkcdpaaGreatDoor.Tr
open Go.RowKit
open St
open Sh (Vars nodeV nodeV_size nodeR nodeR_yes node_impl)
def Climbs (w0:World) (f:Value) (φ:ByteArray->ByteArray):Prop :=
 ∃ k cap,f=.func (.func k) #[] cap/\(∀ args w,(callFunc k args).run Tryz.prog w=.ok (.enter k args) w)/\∀ (node:ByteArray) (w:World),node.size=32->Below w0.heap.size w0 w->Vars w ->
  Calls Tryz.prog k (#[.string node]++cap) w fun e w'=>e=.returned (.string (φ node))/\Below w.heap.size w w'
theorem Climbs.later {w w':World} {f:Value} {φ:ByteArray->ByteArray} (h:Climbs w f φ) (b:Below w.heap.size w w'):Climbs w' f φ:=by
 obtain⟨k,cap,hf,he,hc⟩:=h
 exact⟨k,cap,hf,he,fun node W hn hW hV=>hc node W hn (below2 b hW) hV⟩
theorem stay_any (w0:World):Climbs w0 (.func (.func 217) #[] #[]) (fun x=>x):=by
 refine⟨217,#[],rfl,enters_of Tryz.func217 (by kernel_rfl) rfl,fun node w hn hb hV=>?_⟩
 show Calls Tryz.prog 217 #[.string node] w _
 clear hV hb hn
 go_enter Tryz.func217,Tryz.ntmps217
 go_wp2_with fail
 go_ret
 exact⟨rfl,Below.refl _ _⟩
theorem right_call (node side:ByteArray) (k g1 g2:Nat) (cap:Array Value) (φ:ByteArray->ByteArray) (w:World) (hn:node.size=32) (hs:side.size=32) (hV:Vars w)
  (he:∀ args w,(callFunc k args).run Tryz.prog w=.ok (.enter k args) w) (c1:w.cell? ⟨g1,0,none⟩=some (.func (.func k) #[] cap)) (c2:w.cell? ⟨g2,0,none⟩=some (.string side))
  (H:∀ (x:ByteArray) (W:World),x.size=32->Below w.heap.size w W->Vars W->Calls Tryz.prog k (#[.string x]++cap) W fun e w'=>e=.returned (.string (φ x))/\Below W.heap.size W w') :
  Calls Tryz.prog 232 #[.string node,.pointer (some ⟨g1,0,none⟩),.pointer (some ⟨g2,0,none⟩)] w fun e w'=>e=.returned (.string (φ (nodeV node side)))/\Below w.heap.size w w':=by
 have HH:=hideT H
 have HV:=hideT hV
 have hv2:=hV.two
 have HN:=hideT (nodeR_yes node side hn hs)
 have HG:=hideT (World.block_lt_of_cell? w _ c1)
 have HC1:=hideT c1
 clear H hV
 go_enter Tryz.func232,Tryz.ntmps232
 go_wp2_with fail
 go_region_with (first|(go_at_call 233;(with_reducible refine(node_impl node side _ ?_).mono ?_);(· exact HV.out);rw[HN.out];rintro e w1 ⟨rfl,hb1⟩;have HB1:=hideT (show Below w.heap.size w w1 from ⟨hb1.os,hb1.tape,hb1.output,hb1.size,hb1.block⟩);have c1b:=(HB1.out.cell (p:=⟨g1,0,none⟩) HG.out).trans HC1.out;clear hb1)|((with_reducible refine(HH.out (nodeV node side) w1 ?_ HB1.out ?_).mono ?_);(· exact nodeV_size _ _);(· exact HV.out.below HB1.out hv2);rintro e w2 ⟨rfl,hb2⟩;have HB2:=hideT (below2 HB1.out hb2);clear hb2))
 all_goals (try go_wp2_with fail)
 all_goals go_ret
 all_goals exact⟨rfl,HB2.out⟩
theorem left_call (node side:ByteArray) (k g1 g2:Nat) (cap:Array Value) (φ:ByteArray->ByteArray) (w:World) (hn:node.size=32) (hs:side.size=32) (hV:Vars w)
  (he:∀ args w,(callFunc k args).run Tryz.prog w=.ok (.enter k args) w) (c1:w.cell? ⟨g1,0,none⟩=some (.func (.func k) #[] cap)) (c2:w.cell? ⟨g2,0,none⟩=some (.string side))
  (H:∀ (x:ByteArray) (W:World),x.size=32->Below w.heap.size w W->Vars W->Calls Tryz.prog k (#[.string x]++cap) W fun e w'=>e=.returned (.string (φ x))/\Below W.heap.size W w') :
  Calls Tryz.prog 234 #[.string node,.pointer (some ⟨g1,0,none⟩),.pointer (some ⟨g2,0,none⟩)] w fun e w'=>e=.returned (.string (φ (nodeV side node)))/\Below w.heap.size w w':=by
 have HH:=hideT H
 have HV:=hideT hV
 have hv2:=hV.two
 have HN:=hideT (nodeR_yes side node hs hn)
 have HG:=hideT (World.block_lt_of_cell? w _ c1)
 have HC1:=hideT c1
 clear H hV
 go_enter Tryz.func234,Tryz.ntmps234
 go_wp2_with fail
 go_region_with (first|(go_at_call 233;(with_reducible refine(node_impl side node _ ?_).mono ?_);(· exact HV.out);rw[HN.out];rintro e w1 ⟨rfl,hb1⟩;have HB1:=hideT (show Below w.heap.size w w1 from ⟨hb1.os,hb1.tape,hb1.output,hb1.size,hb1.block⟩);have c1b:=(HB1.out.cell (p:=⟨g1,0,none⟩) HG.out).trans HC1.out;clear hb1)|((with_reducible refine(HH.out (nodeV side node) w1 ?_ HB1.out ?_).mono ?_);(· exact nodeV_size _ _);(· exact HV.out.below HB1.out hv2);rintro e w2 ⟨rfl,hb2⟩;have HB2:=hideT (below2 HB1.out hb2);clear hb2))
 all_goals (try go_wp2_with fail)
 all_goals go_ret
 all_goals exact⟨rfl,HB2.out⟩
theorem joinRight_any (side:ByteArray) (f:Value) (φ:ByteArray->ByteArray) (w:World) (hs:side.size=32) (h:Climbs w f φ) :
  Calls Tryz.prog 220 #[.string side,f] w fun e w'=>∃ g,e=.returned g/\Climbs w' g (fun x=>φ (nodeV x side))/\Below w.heap.size w w':=by
 obtain⟨k,cap,rfl,he,hc⟩:=h
 have HE:=hideT he
 have HC:=hideT hc
 clear he hc
 go_enter Tryz.func220,Tryz.ntmps220
 go_wp2_with fail
 go_ret
 refine⟨_,rfl,⟨232,_,rfl,enters_of Tryz.func232 (by kernel_rfl) rfl,fun node W hn hW hV=>?_⟩,((Below.refl _ _).alloc (Nat.le_refl _) _).alloc (by simp) _⟩
 have hsz:=hW.size
 have hb:Below w.heap.size w W:=below2 (((Below.refl _ _).alloc (Nat.le_refl _) _).alloc (by simp) _) hW
 have c1:=hW.cell (p:=⟨w.heap.size+1,0,none⟩) (by simp)
 have c2:=hW.cell (p:=⟨w.heap.size,0,none⟩) (by simp;omega)
 refine right_call node side k (w.heap.size+1) w.heap.size cap φ W hn hs hV HE.out ?_ ?_ (fun x W' hx hW' hV'=>HC.out x W' hx (below2 hb hW') hV')
 ·rw[c1]
  simp
 ·rw[c2]
  simp
theorem joinLeft_any (side:ByteArray) (f:Value) (φ:ByteArray->ByteArray) (w:World) (hs:side.size=32) (h:Climbs w f φ) :
  Calls Tryz.prog 221 #[.string side,f] w fun e w'=>∃ g,e=.returned g/\Climbs w' g (fun x=>φ (nodeV side x))/\Below w.heap.size w w':=by
 obtain⟨k,cap,rfl,he,hc⟩:=h
 have HE:=hideT he
 have HC:=hideT hc
 clear he hc
 go_enter Tryz.func221,Tryz.ntmps221
 go_wp2_with fail
 go_ret
 refine⟨_,rfl,⟨234,_,rfl,enters_of Tryz.func234 (by kernel_rfl) rfl,fun node W hn hW hV=>?_⟩,((Below.refl _ _).alloc (Nat.le_refl _) _).alloc (by simp) _⟩
 have hsz:=hW.size
 have hb:Below w.heap.size w W:=below2 (((Below.refl _ _).alloc (Nat.le_refl _) _).alloc (by simp) _) hW
 have c1:=hW.cell (p:=⟨w.heap.size+1,0,none⟩) (by simp)
 have c2:=hW.cell (p:=⟨w.heap.size,0,none⟩) (by simp;omega)
 refine left_call node side k (w.heap.size+1) w.heap.size cap φ W hn hs hV HE.out ?_ ?_ (fun x W' hx hW' hV'=>HC.out x W' hx (below2 hb hW') hV')
 ·rw[c1]
  simp
 ·rw[c2]
  simp
end Go.Proofs.YtpddanmnlkcdpaaGreatDoor.Tr

