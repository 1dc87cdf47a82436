/- Texts put together: TreeTop, Climb. -/
import Derived.Test.YtkfipamdfpknpaaDoorWy26
import Derived.Test.YtkfipamdfpknpaaDoorWy15
import Derived.Deep.RegionWith
import Derived.BigRegion
/- What both TreeHash answer, and the law on it. -/
namespace Go.Proofs.YtkfipamdfpknpaaDoor.Tr
open Go.RowKit
open Go.Proofs.YtkfipamdfpknpaaDoor.St
open Go.Proofs.YtkfipamdfpknpaaDoor.Sh (Vars)
theorem below2 {w w1 w2 : World} (h1 : Below w.heap.size w w1) (h2 : Below w1.heap.size w1 w2) : Below w.heap.size w w2 := h1.trans (h2.mono h1.size)
end Go.Proofs.YtkfipamdfpknpaaDoor.Tr


/- What leads up in a tree: the closures that impl.joinLeft and impl.joinRight make. -/
namespace Go.Proofs.YtkfipamdfpknpaaDoor.Tr
open Go.RowKit
open Go.Proofs.YtkfipamdfpknpaaDoor.St
open Go.Proofs.YtkfipamdfpknpaaDoor.Sh (Vars nodeV nodeV_size nodeR nodeR_yes node_impl)
def Climbs (w0 : World) (f : Value) (φ : ByteArray → ByteArray) : Prop :=
 ∃ k cap, f = .func (.func k) #[] cap ∧ (∀ args w, (callFunc k args).run Tryd.prog w = .ok (.enter k args) w) ∧ ∀ (node : ByteArray) (w : World), node.size = 32 → Below w0.heap.size w0 w → Vars w →
  Calls Tryd.prog k (#[.string node] ++ cap) w fun e w' => e = .returned (.string (φ node)) ∧ Below w.heap.size w w'
theorem Climbs.later {w w' : World} {f : Value} {φ : ByteArray → ByteArray} (h : Climbs w f φ) (b : Below w.heap.size w w') : Climbs w' f φ := by
 obtain ⟨k, cap, hf, he, hc⟩ := h
 exact ⟨k, cap, hf, he, fun node W hn hW hV => hc node W hn (below2 b hW) hV⟩
set_option maxHeartbeats 1000000 in
theorem stay_any (w0 : World) : Climbs w0 (.func (.func 62) #[] #[]) (fun x => x) := by
 refine ⟨62, #[], rfl, enters_of Tryd.func62 (by kernel_rfl) rfl, fun node w hn hb hV => ?_⟩
 show Calls Tryd.prog 62 #[.string node] w _
 clear hV hb hn
 go_enter Tryd.func62, Tryd.ntmps62
 go_wp2_with fail
 go_ret
 exact ⟨rfl, Below.refl _ _⟩
set_option maxRecDepth 100000 in
set_option maxHeartbeats 4000000 in
theorem right_call (node side : ByteArray) (k g1 g2 : Nat) (cap : Array Value) (φ : ByteArray → ByteArray) (w : World) (hn : node.size = 32) (hs : side.size = 32) (hV : Vars w)
  (he : ∀ args w, (callFunc k args).run Tryd.prog w = .ok (.enter k args) w) (c1 : w.cell? ⟨g1, 0, none⟩ = some (.func (.func k) #[] cap)) (c2 : w.cell? ⟨g2, 0, none⟩ = some (.string side))
  (H : ∀ (x : ByteArray) (W : World), x.size = 32 → Below w.heap.size w W → Vars W → Calls Tryd.prog k (#[.string x] ++ cap) W fun e w' => e = .returned (.string (φ x)) ∧ Below W.heap.size W w') :
  Calls Tryd.prog 78 #[.string node, .pointer (some ⟨g1, 0, none⟩), .pointer (some ⟨g2, 0, none⟩)] w fun e w' => e = .returned (.string (φ (nodeV node side))) ∧ Below w.heap.size w w' := by
 have HH := hideT H
 have HV := hideT hV
 have hv2 := hV.two
 have HN := hideT (nodeR_yes node side hn hs)
 have HG := hideT (World.block_lt_of_cell? w _ c1)
 have HC1 := hideT c1
 clear H hV
 go_enter Tryd.func78, Tryd.ntmps78
 go_wp2_with fail
 go_region_with (first | (go_at_call 79; (with_reducible refine (node_impl node side _ ?_).mono ?_); (· exact HV.out); rw [HN.out]; rintro e w1 ⟨rfl, hb1⟩; have HB1 := hideT (show Below w.heap.size w w1 from ⟨hb1.os, hb1.tape, hb1.output, hb1.size, hb1.block⟩); have c1b := (HB1.out.cell (p := ⟨g1, 0, none⟩) HG.out).trans HC1.out; clear hb1) | ((with_reducible refine (HH.out (nodeV node side) w1 ?_ HB1.out ?_).mono ?_); (· exact nodeV_size _ _); (· exact HV.out.below HB1.out hv2); rintro e w2 ⟨rfl, hb2⟩; have HB2 := hideT (below2 HB1.out hb2); clear hb2))
 all_goals (try go_wp2_with fail)
 all_goals go_ret
 all_goals exact ⟨rfl, HB2.out⟩
set_option maxRecDepth 100000 in
set_option maxHeartbeats 4000000 in
theorem left_call (node side : ByteArray) (k g1 g2 : Nat) (cap : Array Value) (φ : ByteArray → ByteArray) (w : World) (hn : node.size = 32) (hs : side.size = 32) (hV : Vars w)
  (he : ∀ args w, (callFunc k args).run Tryd.prog w = .ok (.enter k args) w) (c1 : w.cell? ⟨g1, 0, none⟩ = some (.func (.func k) #[] cap)) (c2 : w.cell? ⟨g2, 0, none⟩ = some (.string side))
  (H : ∀ (x : ByteArray) (W : World), x.size = 32 → Below w.heap.size w W → Vars W → Calls Tryd.prog k (#[.string x] ++ cap) W fun e w' => e = .returned (.string (φ x)) ∧ Below W.heap.size W w') :
  Calls Tryd.prog 80 #[.string node, .pointer (some ⟨g1, 0, none⟩), .pointer (some ⟨g2, 0, none⟩)] w fun e w' => e = .returned (.string (φ (nodeV side node))) ∧ Below w.heap.size w w' := by
 have HH := hideT H
 have HV := hideT hV
 have hv2 := hV.two
 have HN := hideT (nodeR_yes side node hs hn)
 have HG := hideT (World.block_lt_of_cell? w _ c1)
 have HC1 := hideT c1
 clear H hV
 go_enter Tryd.func80, Tryd.ntmps80
 go_wp2_with fail
 go_region_with (first | (go_at_call 79; (with_reducible refine (node_impl side node _ ?_).mono ?_); (· exact HV.out); rw [HN.out]; rintro e w1 ⟨rfl, hb1⟩; have HB1 := hideT (show Below w.heap.size w w1 from ⟨hb1.os, hb1.tape, hb1.output, hb1.size, hb1.block⟩); have c1b := (HB1.out.cell (p := ⟨g1, 0, none⟩) HG.out).trans HC1.out; clear hb1) | ((with_reducible refine (HH.out (nodeV side node) w1 ?_ HB1.out ?_).mono ?_); (· exact nodeV_size _ _); (· exact HV.out.below HB1.out hv2); rintro e w2 ⟨rfl, hb2⟩; have HB2 := hideT (below2 HB1.out hb2); clear hb2))
 all_goals (try go_wp2_with fail)
 all_goals go_ret
 all_goals exact ⟨rfl, HB2.out⟩
set_option maxHeartbeats 1000000 in
theorem joinRight_any (side : ByteArray) (f : Value) (φ : ByteArray → ByteArray) (w : World) (hs : side.size = 32) (h : Climbs w f φ) :
  Calls Tryd.prog 63 #[.string side, f] w fun e w' => ∃ g, e = .returned g ∧ Climbs w' g (fun x => φ (nodeV x side)) ∧ Below w.heap.size w w' := by
 obtain ⟨k, cap, rfl, he, hc⟩ := h
 have HE := hideT he
 have HC := hideT hc
 clear he hc
 go_enter Tryd.func63, Tryd.ntmps63
 go_wp2_with fail
 go_ret
 refine ⟨_, rfl, ⟨78, _, rfl, enters_of Tryd.func78 (by kernel_rfl) rfl, fun node W hn hW hV => ?_⟩, ((Below.refl _ _).alloc (Nat.le_refl _) _).alloc (by simp) _⟩
 have hsz := hW.size
 have hb : Below w.heap.size w W := below2 (((Below.refl _ _).alloc (Nat.le_refl _) _).alloc (by simp) _) hW
 have c1 := hW.cell (p := ⟨w.heap.size + 1, 0, none⟩) (by simp)
 have c2 := hW.cell (p := ⟨w.heap.size, 0, none⟩) (by simp; omega)
 refine right_call node side k (w.heap.size + 1) w.heap.size cap φ W hn hs hV HE.out ?_ ?_ (fun x W' hx hW' hV' => HC.out x W' hx (below2 hb hW') hV')
 ·rw [c1]
  simp
 ·rw [c2]
  simp
set_option maxHeartbeats 1000000 in
theorem joinLeft_any (side : ByteArray) (f : Value) (φ : ByteArray → ByteArray) (w : World) (hs : side.size = 32) (h : Climbs w f φ) :
  Calls Tryd.prog 64 #[.string side, f] w fun e w' => ∃ g, e = .returned g ∧ Climbs w' g (fun x => φ (nodeV side x)) ∧ Below w.heap.size w w' := by
 obtain ⟨k, cap, rfl, he, hc⟩ := h
 have HE := hideT he
 have HC := hideT hc
 clear he hc
 go_enter Tryd.func64, Tryd.ntmps64
 go_wp2_with fail
 go_ret
 refine ⟨_, rfl, ⟨80, _, rfl, enters_of Tryd.func80 (by kernel_rfl) rfl, fun node W hn hW hV => ?_⟩, ((Below.refl _ _).alloc (Nat.le_refl _) _).alloc (by simp) _⟩
 have hsz := hW.size
 have hb : Below w.heap.size w W := below2 (((Below.refl _ _).alloc (Nat.le_refl _) _).alloc (by simp) _) hW
 have c1 := hW.cell (p := ⟨w.heap.size + 1, 0, none⟩) (by simp)
 have c2 := hW.cell (p := ⟨w.heap.size, 0, none⟩) (by simp; omega)
 refine left_call node side k (w.heap.size + 1) w.heap.size cap φ W hn hs hV HE.out ?_ ?_ (fun x W' hx hW' hV' => HC.out x W' hx (below2 hb hW') hV')
 ·rw [c1]
  simp
 ·rw [c2]
  simp
end Go.Proofs.YtkfipamdfpknpaaDoor.Tr

