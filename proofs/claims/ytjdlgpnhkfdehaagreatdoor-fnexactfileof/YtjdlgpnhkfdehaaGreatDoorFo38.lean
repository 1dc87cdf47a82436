/- Texts put together: UnLaid. -/
import Derived.Test.YtjdlgpnhkfdehaaGreatDoorRows
import Derived.Test.YtjdlgpnhkfdehaaGreatDoorFo37
import Derived.OpenShut
import Derived.MakeChecks
import Derived.LaidLaws
import Derived.LaidHandle
import Derived.RowKitTokens
/- What a row's list of variables gives a walk, where the error's variable is among them. -/
namespace Go.Proofs.YtjdlgpnhkfdehaaGreatDoor.Up
open Go.RowKit
theorem gNoBlock : Tryz.prog.globalNamed "loop.example/g00550/impl.errNoBlock" = some 0 := by kernel_rfl
theorem tNoBlock : (Tryz.prog.globals[0]?).map (·.type) = some 72 := by kernel_rfl
theorem cellsErrS : Tryz.prog.cellsOf 305 = 1 := by kernel_rfl
theorem cellsStr : Tryz.prog.cellsOf 9 = 1 := by kernel_rfl
theorem starErr : "*" ++ "errors.errorString" = "*errors.errorString" := by decide
theorem rowErr (u : TypeId) (h : Tryz.prog.typeName? 3 u = some "*errors.errorString") : u = 285 :=
 typeName_ptr_named (nm := "errors.errorString") (by rw [starErr]; kernel_rfl) (by kernel_rfl) (by decide) u (by rw [starErr]; exact h)
theorem trodVars_length {H : Type} {enc : TypeId × Value → H} {P : Program} {w : World} {sp : Nat → Bool} : ∀ {ns : List String} {gs : List (DataW H)} {ps : List MemPlace}, DataW.TrodVars enc P w sp ns gs ps → gs.length = ns.length
 | [], [], _, _ => rfl
 | [], _ :: _, _, h => h.elim
 | _ :: _, [], _, h => h.elim
 | n :: ns, d :: ds, ps, h => by
  obtain ⟨g, t, cs, fuel, p, q, h1, h2, h3, h4, hs, e⟩ := h
  show ds.length + 1 = ns.length + 1
  rw [trodVars_length hs]
theorem list1 {α : Type} {l : List α} (h : l.length = 1) : ∃ a, l = [a] := by
 match l, h with
 | [a], _ => exact ⟨a, rfl⟩
set_option maxRecDepth 100000 in
theorem glob_of_met {W : World} (h : laidMet Tryz.prog [("loop.example/g00550/impl.errNoBlock", Rows.laid_loop_example_g00550_impl_errNoBlock)] W) : ∃ a : Addr, Glob W (.iface 285 (.pointer (some a))) := by
 obtain ⟨ps, ⟨g0, t0, cs0, f0, p0, q0, hg0, ht0, hv0, hd0, hq0, e0⟩, hnd, hrows⟩ := h
 obtain rfl := Option.some.inj (gNoBlock.symm.trans hg0)
 obtain rfl := Option.some.inj (tNoBlock.symm.trans ht0)
 have hq' : q0 = [] := hq0
 subst hq'
 subst e0
 obtain ⟨l0⟩ := cs0
 have ok0 : ∀ u v, l0 = [.iface u v] → Value.okWide Tryz.prog W .any 0 u v := fun u v e => by
  subst e
  exact (hrows 0 0 (by simp [MemPlace.row])).2 u v (by simpa using World.var?_cell hg0 hv0 0)
 obtain ⟨a0, s0, rfl, hc0, hs0, hz0, rfl⟩ := errorString_of_trod Tryz.underlying72 rowErr Tryz.underlying285 Tryz.underlying305 rfl rfl Tryz.underlying9 cellsErrS cellsStr hd0 ok0
 have hc : W.cell? ⟨0, 0, none⟩ = some (.iface 285 (.pointer (some a0))) := by simpa using World.var?_cell gNoBlock hv0 0
 refine ⟨a0, ?_, hc⟩
 rcases Nat.lt_or_ge 0 W.heap.size with h | h
 ·exact h
 ·simp [World.cell?, Array.getElem?_eq_none h] at hc
set_option maxRecDepth 100000 in
theorem glob_of_laid {W : World} (h : laidMetH Tryz.prog [("loop.example/g00550/impl.errNoBlock", Rows.laid_loop_example_g00550_impl_errNoBlock)] W) : ∃ a : Addr, Glob W (.iface 285 (.pointer (some a))) := by
 rw [MakeChecks.laidMetH_plain _ _ _ (by kernel_rfl)] at h
 exact glob_of_met h
end Go.Proofs.YtjdlgpnhkfdehaaGreatDoor.Up

