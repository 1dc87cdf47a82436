/- Texts put together: UnLaid, DrawBase, DrawN, DrawSource, DrawMore, DrawRow, DrawPick. -/
import Derived.Test.YthbpenanelbbcaaGreatDoorRows
import Derived.Test.YthbpenanelbbcaaGreatDoorBz37
import Derived.OpenShut
import Derived.MakeChecks
import Derived.LaidLaws
import Derived.LaidHandle
import Derived.RowKitTokens
import Derived.Test.YthbpenanelbbcaaGreatDoorChecked
import Derived.WalkKit
import Derived.WalkSpells
import Derived.WalkLawsBesides
import Derived.BigRegion
import Derived.Deep.QuietTactic
import Derived.BigQuiet
import Derived.Laws.BitsAllLaws
import Derived.Test.YthbpenanelbbcaaGreatDoorBz1
import Derived.Test.YthbpenanelbbcaaGreatDoorBz8
/- What a row's list of variables gives a walk, where the error's variable is among them. -/
namespace Go.Proofs.YthbpenanelbbcaaGreatDoor.Up
open Go.RowKit
theorem gNoBlock : Tryz.prog.globalNamed "loop.example/g00550/impl.errNoBlock" = some 0 := by kernel_rfl
theorem tNoBlock : (Tryz.prog.globals[0]?).map (·.type) = some 40 := by kernel_rfl
theorem cellsErrS : Tryz.prog.cellsOf 213 = 1 := by kernel_rfl
theorem cellsStr : Tryz.prog.cellsOf 9 = 1 := by kernel_rfl
theorem starErr : "*" ++ "errors.errorString" = "*errors.errorString" := by decide
theorem rowErr (u : TypeId) (h : Tryz.prog.typeName? 3 u = some "*errors.errorString") : u = 189 :=
 typeName_ptr_named (nm := "errors.errorString") (by rw [starErr]; kernel_rfl) (by kernel_rfl) (by decide) u (by rw [starErr]; exact h)
theorem trodVars_length {H : Type} {enc : TypeId × Value → H} {P : Program} {w : World} {sp : Nat → Bool} : ∀ {ns : List String} {gs : List (DataW H)} {ps : List MemPlace}, DataW.TrodVars enc P w sp ns gs ps → gs.length = ns.length
 | [], [], _, _ => rfl
 | [], _ :: _, _, h => h.elim
 | _ :: _, [], _, h => h.elim
 | n :: ns, d :: ds, ps, h => by
  obtain ⟨g, t, cs, fuel, p, q, h1, h2, h3, h4, hs, e⟩ := h
  show ds.length + 1 = ns.length + 1
  rw [trodVars_length hs]
theorem list1 {α : Type} {l : List α} (h : l.length = 1) : ∃ a, l = [a] := by
 match l, h with
 | [a], _ => exact ⟨a, rfl⟩
set_option maxRecDepth 100000 in
theorem glob_of_met {W : World} (h : laidMet Tryz.prog [("loop.example/g00550/impl.errNoBlock", Rows.laid_loop_example_g00550_impl_errNoBlock)] W) : ∃ a : Addr, Glob W (.iface 189 (.pointer (some a))) := by
 obtain ⟨ps, ⟨g0, t0, cs0, f0, p0, q0, hg0, ht0, hv0, hd0, hq0, e0⟩, hnd, hrows⟩ := h
 obtain rfl := Option.some.inj (gNoBlock.symm.trans hg0)
 obtain rfl := Option.some.inj (tNoBlock.symm.trans ht0)
 have hq' : q0 = [] := hq0
 subst hq'
 subst e0
 obtain ⟨l0⟩ := cs0
 have ok0 : ∀ u v, l0 = [.iface u v] → Value.okWide Tryz.prog W .any 0 u v := fun u v e => by
  subst e
  exact (hrows 0 0 (by simp [MemPlace.row])).2 u v (by simpa using World.var?_cell hg0 hv0 0)
 obtain ⟨a0, s0, rfl, hc0, hs0, hz0, rfl⟩ := errorString_of_trod Tryz.underlying40 rowErr Tryz.underlying189 Tryz.underlying213 rfl rfl Tryz.underlying9 cellsErrS cellsStr hd0 ok0
 have hc : W.cell? ⟨0, 0, none⟩ = some (.iface 189 (.pointer (some a0))) := by simpa using World.var?_cell gNoBlock hv0 0
 refine ⟨a0, ?_, hc⟩
 rcases Nat.lt_or_ge 0 W.heap.size with h | h
 ·exact h
 ·simp [World.cell?, Array.getElem?_eq_none h] at hc
set_option maxRecDepth 100000 in
theorem glob_of_laid {W : World} (h : laidMetH Tryz.prog [("loop.example/g00550/impl.errNoBlock", Rows.laid_loop_example_g00550_impl_errNoBlock)] W) : ∃ a : Addr, Glob W (.iface 189 (.pointer (some a))) := by
 rw [MakeChecks.laidMetH_plain _ _ _ (by kernel_rfl)] at h
 exact glob_of_met h
end Go.Proofs.YthbpenanelbbcaaGreatDoor.Up


/- The draws' own base: a source of draws in memory, and the number that it gives: some number below what is asked, and nothing turns but the source itself. -/
namespace Go.Proofs.YthbpenanelbbcaaGreatDoor.Dr
open Go.RowKit
theorem hideD {p : Prop} (h : p) : Hid p := h
def Row (w : World) (B : Nat) (a : Option Addr) (len : Nat) : Prop :=
 len = 0 ∨ ∃ b off, a = some ⟨b, off, none⟩ ∧ b < B ∧ ∀ i, i < len → ∃ z : Int, w.cell? ⟨b, off + i, none⟩ = some (.int .u8 z) ∧ 0 ≤ z ∧ z ≤ 255
def Src (w : World) (B : Nat) (a : Option Addr) (len cap : Nat) : Prop :=
 Row w B a len ∧ ∃ at_ mix size : Int, w.heap[B]? = some (.cells #[.slice a len cap, .int .i64 at_, .int .u64 mix, .int .i64 size] 50 (0, 0)) ∧
  0 ≤ at_ ∧ at_ ≤ len ∧ 0 ≤ mix ∧ mix ≤ 18446744073709551615 ∧ 0 ≤ size ∧ size ≤ 12
theorem wrap64_bd (x : Int) : 0 ≤ IntKind.u64.wrap x ∧ IntKind.u64.wrap x ≤ 18446744073709551615 := by rw [IntKind.wrap_u64]; omega
theorem xor_bd (x y : Int) (h0 : 0 ≤ x) (h1 : x ≤ 18446744073709551615) (h2 : 0 ≤ y) (h3 : y ≤ 18446744073709551615) :
  0 ≤ bits BinOp.xor IntKind.u64 x y ∧ bits BinOp.xor IntKind.u64 x y ≤ 18446744073709551615 := by
 obtain ⟨m, rfl⟩ := Int.eq_ofNat_of_zero_le h0
 obtain ⟨n, rfl⟩ := Int.eq_ofNat_of_zero_le h2
 rw [u64_xor_nat m n (by omega) (by omega)]
 have := Nat.xor_lt_two_pow (n := 64) (x := m) (y := n) (by omega) (by omega)
 omega
theorem sc1 {W : World} {p : Addr} {x : Value} (h : W.cell? p = some x) (v : Value) : (W.setCell p v).cell? p = some v := by
 exact World.cell?_setCell_same W p v h
theorem sc2 {W : World} {p : Addr} {x : Value} (h : W.cell? p = some x) (v v2 : Value) : ((W.setCell p v).setCell p v2).cell? p = some v2 := sc1 (sc1 h v) v2
theorem sc3 {W : World} {p : Addr} {x : Value} (h : W.cell? p = some x) (v v2 v3 : Value) : (((W.setCell p v).setCell p v2).setCell p v3).cell? p = some v3 := sc1 (sc2 h v v2) v3
def Only (B : Nat) (w w' : World) : Prop := w'.os = w.os ∧ w'.tape = w.tape ∧ w'.output = w.output ∧ w'.heap.size = w.heap.size ∧ ∀ k, k ≠ B → w'.heap[k]? = w.heap[k]?
theorem Only.refl (B : Nat) (w : World) : Only B w w := ⟨rfl, rfl, rfl, rfl, fun _ _ => rfl⟩
theorem Only.drew {B : Nat} {w w' : World} (h : Only B w w') : Only B w w'.drew := h
theorem Only.drewN {B : Nat} (w : World) (n : Nat) : Only B w (w.drewN n) := ⟨rfl, rfl, rfl, rfl, fun _ _ => rfl⟩
theorem Only.set {B : Nat} {w w' : World} (h : Only B w w') (o : Nat) (v : Value) : Only B w (w'.setCell ⟨B, o, none⟩ v) :=
 ⟨h.1, h.2.1, h.2.2.1, by simpa [World.setCell] using h.2.2.2.1, fun k hk => (heap_setCell_other w' ⟨B, o, none⟩ k v hk).trans (h.2.2.2.2 k hk)⟩
theorem Only.trans {B : Nat} {a b c : World} (h : Only B a b) (k : Only B b c) : Only B a c :=
 ⟨k.1.trans h.1, k.2.1.trans h.2.1, k.2.2.1.trans h.2.2.1, k.2.2.2.1.trans h.2.2.2.1, fun i hi => (k.2.2.2.2 i hi).trans (h.2.2.2.2 i hi)⟩
theorem Only.below {B C : Nat} {w0 w w' : World} (hb : Below C w0 w) (h : Only B w w') (hC : C ≤ B) : Below C w0 w' :=
 hb.trans ⟨h.1, h.2.1, h.2.2.1, by rw [h.2.2.2.1]; exact Nat.le_refl _, fun k hk => h.2.2.2.2 k (by omega)⟩
theorem Only.row {B : Nat} {w w' : World} {a : Option Addr} {len : Nat} (h : Only B w w') (hr : Row w B a len) : Row w' B a len := by
 rcases hr with h0 | ⟨b, off, rfl, hb, hc⟩
 ·exact .inl h0
 ·refine .inr ⟨b, off, rfl, hb, fun i hi => ?_⟩
  obtain ⟨z, hz, h1, h2⟩ := hc i hi
  exact ⟨z, (World.cell?_of_block (w := w) (a := ⟨b, off + i, none⟩) (h.2.2.2.2 b (Nat.ne_of_lt hb))).trans hz, h1, h2⟩
theorem rem_bd (y most : Int) (h0 : 0 ≤ y) (h1 : 1 < most) (h2 : most ≤ 9223372036854775807) : 0 ≤ wrap64 (y.tmod most) ∧ wrap64 (y.tmod most) < most := by
 rw [Int.tmod_eq_emod_of_nonneg h0]
 have a1 := Int.emod_nonneg y (show most ≠ 0 by omega)
 have a2 := Int.emod_lt_of_pos y (show 0 < most by omega)
 simp only [wrap64]
 omega
theorem src_set {w w' : World} {B : Nat} {a : Option Addr} {len cap : Nat} {at_ mix size : Int} (hr : Row w B a len) (ho : Only B w w')
  (hb : w'.heap[B]? = some (.cells #[.slice a len cap, .int .i64 at_, .int .u64 mix, .int .i64 size] 50 (0, 0)))
  (h1 : 0 ≤ at_) (h2 : at_ ≤ len) (h3 : 0 ≤ mix ∧ mix ≤ 18446744073709551615) (h4 : 0 ≤ size) (h5 : size ≤ 12) : Src w' B a len cap :=
 ⟨ho.row hr, at_, mix, size, hb, h1, h2, h3.1, h3.2, h4, h5⟩
theorem blk_set {W : World} {B : Nat} {x0 x1 x2 x3 : Value} {T : TypeId} (h : W.heap[B]? = some (.cells #[x0, x1, x2, x3] T (0, 0))) (v : Value) :
  (W.setCell ⟨B, 2, none⟩ v).heap[B]? = some (.cells #[x0, x1, v, x3] T (0, 0)) := by
 rw [heap_setCell_same W B 2 _ T v h]; rfl
theorem blk_set1 {W : World} {B : Nat} {x0 x1 x2 x3 : Value} {T : TypeId} (h : W.heap[B]? = some (.cells #[x0, x1, x2, x3] T (0, 0))) (v : Value) :
  (W.setCell ⟨B, 1, none⟩ v).heap[B]? = some (.cells #[x0, v, x2, x3] T (0, 0)) := by
 rw [heap_setCell_same W B 1 _ T v h]; rfl
theorem step1 (m : Int) (h : 0 ≤ m ∧ m ≤ 18446744073709551615) (y : Int) : 0 ≤ bits BinOp.xor IntKind.u64 m (IntKind.u64.wrap y) ∧ bits BinOp.xor IntKind.u64 m (IntKind.u64.wrap y) ≤ 18446744073709551615 :=
 xor_bd m _ h.1 h.2 (wrap64_bd y).1 (wrap64_bd y).2
theorem step2 (m : Int) (h : 0 ≤ m ∧ m ≤ 18446744073709551615) : 0 ≤ bits BinOp.xor IntKind.u64 m (m / 128) ∧ bits BinOp.xor IntKind.u64 m (m / 128) ≤ 18446744073709551615 :=
 xor_bd m _ h.1 h.2 (by omega) (by omega)
set_option maxRecDepth 100000 in
set_option maxHeartbeats 2000000 in
theorem n_past (B : Nat) (a : Option Addr) (len cap : Nat) (most at_ mix size : Int) (w : World) (hm : 1 < most) (hm2 : most ≤ 9223372036854775807) (hr : Row w B a len)
  (hb : w.heap[B]? = some (.cells #[.slice a len cap, .int .i64 at_, .int .u64 mix, .int .i64 size] 50 (0, 0)))
  (h0 : 0 ≤ at_) (h1 : ¬ at_ < len) (h1' : at_ ≤ len) (h2 : 0 ≤ mix) (h3 : mix ≤ 18446744073709551615) (h4 : 0 ≤ size) (h5 : size ≤ 12) :
  Calls Tryz.prog 22 #[.pointer (some ⟨B, 0, none⟩), .int .i64 most] w fun e w' => ∃ r, e = .returned (.int .i64 r) ∧ 0 ≤ r ∧ r < most ∧ Src w' B a len cap ∧ Only B w w' := by
 have c0 : w.cell? ⟨B, 0, none⟩ = some (.slice a len cap) := by rw [cell_of_row w B 0 _ _ _ hb]; rfl
 have c1 : w.cell? ⟨B, 1, none⟩ = some (.int .i64 at_) := by rw [cell_of_row w B 1 _ _ _ hb]; rfl
 have c2 : w.cell? ⟨B, 2, none⟩ = some (.int .u64 mix) := by rw [cell_of_row w B 2 _ _ _ hb]; rfl
 have f := fun o => frozen_of_row w B o _ _ hb
 have HB := hideD hb
 have HR := hideD hr
 clear hb hr
 have s1 := fun n => sc1 (W := w.drewN n) (p := ⟨B, 2, none⟩) (x := .int .u64 mix) (by simpa using c2)
 have s2 := fun n => sc2 (W := w.drewN n) (p := ⟨B, 2, none⟩) (x := .int .u64 mix) (by simpa using c2)
 have s3 := fun n => sc3 (W := w.drewN n) (p := ⟨B, 2, none⟩) (x := .int .u64 mix) (by simpa using c2)
 go_enter Tryz.func22, Tryz.ntmps22
 go_wp2
 go_quiet (fail)
 go_wp2
 go_region
 go_wp2
 go_region
 go_wp2
 go_region
 go_wp2
 go_ret
 have k1 := step1 mix ⟨h2, h3⟩ (mix * 8192)
 have k2 := step2 _ k1
 have k3 := step1 _ k2 (bits BinOp.xor IntKind.u64 (bits BinOp.xor IntKind.u64 mix (IntKind.u64.wrap (mix * 8192))) (bits BinOp.xor IntKind.u64 mix (IntKind.u64.wrap (mix * 8192)) / 128) * 131072)
 exact ⟨_, rfl, (rem_bd _ most (wrap64_bd _).1 hm hm2).1, (rem_bd _ most (wrap64_bd _).1 hm hm2).2,
  src_set HR.out ((((Only.drewN w _).set 2 _).set 2 _).set 2 _).drew.drew (blk_set (blk_set (blk_set (W := w.drewN _) HB.out _) _) _) h0 h1' k3 h4 h5, ((((Only.drewN w _).set 2 _).set 2 _).set 2 _).drew.drew⟩
end Go.Proofs.YthbpenanelbbcaaGreatDoor.Dr


/- The number that a source of draws gives. -/
namespace Go.Proofs.YthbpenanelbbcaaGreatDoor.Dr
open Go.RowKit
theorem c1_other {W : World} {B : Nat} {x : Value} (h : W.cell? ⟨B, 2, none⟩ = some x) (v : Value) : (W.setCell ⟨B, 1, none⟩ v).cell? ⟨B, 2, none⟩ = some x :=
 (World.cell?_setCell_other W _ _ _ (by simp)).trans h
set_option maxRecDepth 100000 in
set_option maxHeartbeats 400000 in
theorem n_within (B b off i : Nat) (len cap : Nat) (most z mix size : Int) (w : World) (hl : len ≤ 1048576) (hm : 1 < most) (hm2 : most ≤ 9223372036854775807) (hr : Row w B (some ⟨b, off, none⟩) len)
  (hb : w.heap[B]? = some (.cells #[.slice (some ⟨b, off, none⟩) len cap, .int .i64 (i : Int), .int .u64 mix, .int .i64 size] 50 (0, 0)))
  (h1 : i < len) (h2 : 0 ≤ mix) (h3 : mix ≤ 18446744073709551615) (h4 : 0 ≤ size) (h5 : size ≤ 12) (hc : w.cell? ⟨b, off + i, none⟩ = some (.int .u8 z)) (hz1 : 0 ≤ z) (hz2 : z ≤ 255) :
  Calls Tryz.prog 22 #[.pointer (some ⟨B, 0, none⟩), .int .i64 most] w fun e w' => ∃ r, e = .returned (.int .i64 r) ∧ 0 ≤ r ∧ r < most ∧ Src w' B (some ⟨b, off, none⟩) len cap ∧ Only B w w' := by
 have c0 : w.cell? ⟨B, 0, none⟩ = some (.slice (some ⟨b, off, none⟩) len cap) := by rw [cell_of_row w B 0 _ _ _ hb]; rfl
 have c1 : w.cell? ⟨B, 1, none⟩ = some (.int .i64 (i : Int)) := by rw [cell_of_row w B 1 _ _ _ hb]; rfl
 have c2 : w.cell? ⟨B, 2, none⟩ = some (.int .u64 mix) := by rw [cell_of_row w B 2 _ _ _ hb]; rfl
 have f := fun o => frozen_of_row w B o _ _ hb
 have HB := hideD hb
 have HR := hideD hr
 clear hb hr
 have g1 : (i : Int) < (len : Int) := by omega
 go_enter Tryz.func22, Tryz.ntmps22
 go_wp2
 go_quiet (fail)
 obtain ⟨q1, rfl⟩ : ∃ q, q = nq := ⟨_, rfl⟩
 go_wp2
 go_quiet (fail)
 go_wp2
 have e2 : ((w.drewN (q1 + nq)).setCell ⟨B, 1, none⟩ (.int .i64 ((i : Int) + 1))).cell? ⟨B, 2, none⟩ = some (.int .u64 mix) := c1_other (by simpa using c2) _
 have ef : ∀ o, ((w.drewN (q1 + nq)).setCell ⟨B, 1, none⟩ (.int .i64 ((i : Int) + 1))).frozen? ⟨B, o, none⟩ = false := fun o => frozen_of_row _ B o _ _ (blk_set1 (W := w.drewN _) HB.out _)
 have EB := hideD (blk_set1 (W := w.drewN (q1 + nq)) HB.out (.int .i64 ((i : Int) + 1)))
 have EO := hideD ((Only.drewN (B := B) w (q1 + nq)).set 1 (.int .i64 ((i : Int) + 1)))
 generalize (w.drewN (q1 + nq)).setCell ⟨B, 1, none⟩ (.int .i64 ((i : Int) + 1)) = W1 at e2 ef EB EO ⊢
 clear c0 c1 c2 f hc
 have s1 := sc1 (W := W1) (p := ⟨B, 2, none⟩) (x := .int .u64 mix) e2
 have s2 := sc2 (W := W1) (p := ⟨B, 2, none⟩) (x := .int .u64 mix) e2
 have s3 := sc3 (W := W1) (p := ⟨B, 2, none⟩) (x := .int .u64 mix) e2
 go_region
 go_wp2
 go_region
 go_wp2
 go_region
 go_wp2
 go_ret
 have k1 := step1 mix ⟨h2, h3⟩ (mix * 8192)
 have k2 := step2 _ k1
 have k3 := step1 _ k2 (bits BinOp.xor IntKind.u64 (bits BinOp.xor IntKind.u64 mix (IntKind.u64.wrap (mix * 8192))) (bits BinOp.xor IntKind.u64 mix (IntKind.u64.wrap (mix * 8192)) / 128) * 131072)
 exact ⟨_, rfl, (rem_bd _ most (wrap64_bd _).1 hm hm2).1, (rem_bd _ most (wrap64_bd _).1 hm hm2).2,
  src_set HR.out (((EO.out.set 2 _).set 2 _).set 2 _).drew.drew.drew (blk_set (blk_set (blk_set EB.out _) _) _) (by omega) (by omega) k3 h4 h5, (((EO.out.set 2 _).set 2 _).set 2 _).drew.drew.drew⟩
theorem n_any (B : Nat) (a : Option Addr) (len cap : Nat) (most : Int) (w : World) (hl : len ≤ 1048576) (hm2 : most ≤ 9223372036854775807) (hs : Src w B a len cap) :
  Calls Tryz.prog 22 #[.pointer (some ⟨B, 0, none⟩), .int .i64 most] w fun e w' => ∃ r, e = .returned (.int .i64 r) ∧ 0 ≤ r ∧ (r < most ∨ r = 0) ∧ Src w' B a len cap ∧ Only B w w' := by
 by_cases hm : 1 < most
 ·obtain ⟨hr, at_, mix, size, hb, h0, h1, h2, h3, h4, h5⟩ := hs
  by_cases hlt : at_ < len
  ·obtain ⟨i, rfl⟩ := Int.eq_ofNat_of_zero_le h0
   rcases hr with h | ⟨b, off, rfl, hne, hc⟩
   ·exfalso; omega
   ·obtain ⟨z, hz, z1, z2⟩ := hc i (by omega)
    exact (n_within B b off i len cap most z mix size w hl hm hm2 (.inr ⟨b, off, rfl, hne, hc⟩) hb (by omega) h2 h3 h4 h5 hz z1 z2).mono fun e w' ⟨r, e1, e2, e3, e4, e5⟩ => ⟨r, e1, e2, .inl e3, e4, e5⟩
  ·exact (n_past B a len cap most at_ mix size w hm hm2 hr hb h0 hlt h1 h2 h3 h4 h5).mono fun e w' ⟨r, e1, e2, e3, e4, e5⟩ => ⟨r, e1, e2, .inl e3, e4, e5⟩
 ·have HS := hideD hs
  clear hs
  go_enter Tryz.func22, Tryz.ntmps22
  go_wp2
  go_ret
  exact ⟨0, rfl, Int.le_refl _, .inr rfl, HS.out, Only.refl _ _⟩
end Go.Proofs.YthbpenanelbbcaaGreatDoor.Dr


/- The making of a source of draws: it lies in a new block, and draws from the bytes that it was handed. -/
namespace Go.Proofs.YthbpenanelbbcaaGreatDoor.Dr
open Go.RowKit
theorem blk_set3 {W : World} {B : Nat} {x0 x1 x2 x3 : Value} {T : TypeId} (h : W.heap[B]? = some (.cells #[x0, x1, x2, x3] T (0, 0))) (v : Value) :
  (W.setCell ⟨B, 3, none⟩ v).heap[B]? = some (.cells #[x0, x1, x2, v] T (0, 0)) := by
 rw [heap_setCell_same W B 3 _ T v h]; rfl
def sobj (a : Option Addr) (len cap : Nat) (mix size : Int) : Obj := .cells #[.slice a len cap, .int .i64 0, .int .u64 mix, .int .i64 size] 50 (0, 0)
theorem src_of {w wr : World} {a : Option Addr} {len cap : Nat} {mix size : Int} (hr : Row w w.heap.size a len) (ho : Only w.heap.size (w.alloc (sobj a len cap 88172645463325252 0)) wr)
  (hb : wr.heap[w.heap.size]? = some (sobj a len cap mix size)) (h1 : 0 ≤ mix) (h2 : mix ≤ 18446744073709551615) (h3 : 0 ≤ size) (h4 : size ≤ 12) : Src wr w.heap.size a len cap := by
 refine ⟨ho.row ?_, 0, mix, size, hb, Int.le_refl _, by omega, h1, h2, h3, h4⟩
 rcases hr with h0 | ⟨b, off, rfl, hne, hc⟩
 ·exact .inl h0
 ·refine .inr ⟨b, off, rfl, hne, fun i hi => ?_⟩
  obtain ⟨z, hz, z1, z2⟩ := hc i hi
  exact ⟨z, (World.cell?_alloc_lt _ _ ⟨b, off + i, none⟩ (World.block_lt_of_cell? w _ hz)).trans hz, z1, z2⟩
set_option maxRecDepth 100000 in
set_option maxHeartbeats 2000000 in
theorem source_any (a : Option Addr) (len cap : Nat) (w : World) (hl : len ≤ 1048576) (hr : Row w w.heap.size a len) :
  Calls Tryz.prog 17 #[.slice a len cap] w fun e w' => e = .returned (.pointer (some ⟨w.heap.size, 0, none⟩)) ∧ Src w' w.heap.size a len cap ∧ Below w.heap.size w w' ∧ w'.heap.size = w.heap.size + 1 := by
 have HR := hideD hr
 clear hr
 go_enter Tryz.func17, Tryz.ntmps17
 go_wp2
 go_loopw [4] (fun i wr => ∃ (k : Nat) (mix : Int), i = .int .i64 k ∧ k ≤ len ∧ 0 ≤ mix ∧ mix ≤ 18446744073709551615 ∧ wr.heap[w.heap.size]? = some (sobj a len cap mix 0) ∧ Only w.heap.size (w.alloc (sobj a len cap 88172645463325252 0)) wr) (fun i _ => len - (intOf i).toNat)
 case atStart => exact ⟨0, 88172645463325252, rfl, Nat.zero_le _, by decide, by decide, heap_alloc_new _ _, Only.refl _ _⟩
 case round =>
  obtain ⟨k, mix, rfl, hk, h2, h3, hb, ho⟩ := hrel
  have c2 : wr.cell? ⟨w.heap.size, 2, none⟩ = some (.int .u64 mix) := by rw [cell_of_row wr _ 2 _ _ _ hb]; rfl
  have c3 : wr.cell? ⟨w.heap.size, 3, none⟩ = some (.int .i64 0) := by rw [cell_of_row wr _ 3 _ _ _ hb]; rfl
  have f := fun o => frozen_of_row wr w.heap.size o _ _ hb
  have HB := hideD hb
  have HO := hideD ho
  clear hb ho
  by_cases hlt : k < len
  ·by_cases h64 : k < 64
   ·rcases HR.out with h0 | ⟨b, off, rfl, hne, hc⟩
    ·exfalso; omega
    ·obtain ⟨z, hz, z1, z2⟩ := hc k hlt
     have hzr : wr.cell? ⟨b, off + k, none⟩ = some (.int .u8 z) := (World.cell?_of_block (w := w.alloc _) (a := ⟨b, off + k, none⟩) (HO.out.2.2.2.2 b (Nat.ne_of_lt hne))).trans ((World.cell?_alloc_lt _ _ ⟨b, off + k, none⟩ hne).trans hz)
     clear hc hz
     have g1 : (k : Int) < (len : Int) := by omega
     go_wp2
     go_region
     go_wp2
     go_roundw
     case rel => exact ⟨k + 1, _, by go_num, by omega, (wrap64_bd _).1, (wrap64_bd _).2, blk_set HB.out _, (HO.out.set 2 _).drew⟩
     case measure => simp [intOf]; omega
   ·have hd : decide ((k : Int) < 64) = false := decide_eq_false (by omega)
    have g1 : (k : Int) < (len : Int) := by omega
    have s3 := fun v => sc1 (W := wr) (p := ⟨w.heap.size, 3, none⟩) (x := .int .i64 0) c3 v
    by_cases hbig : (12 : Int) < (len : Int) / 20
    ·go_wp2
     go_ret
     refine ⟨rfl, src_of HR.out ((HO.out.set 3 _).set 3 _) (blk_set3 (blk_set3 HB.out _) _) h2 h3 (by omega) (by omega), ?_, ?_⟩
     ·exact ((HO.out.set 3 _).set 3 _).below ((Below.refl _ _).alloc (Nat.le_refl _) _) (Nat.le_refl _)
     ·have := ((HO.out.set 3 (.int .i64 0)).set 3 (.int .i64 0)).2.2.2.1
      simpa [World.setCell] using this
    ·go_wp2
     go_ret
     refine ⟨rfl, src_of HR.out (HO.out.set 3 _) (blk_set3 HB.out _) h2 h3 (by omega) (by omega), ?_, ?_⟩
     ·exact (HO.out.set 3 _).below ((Below.refl _ _).alloc (Nat.le_refl _) _) (Nat.le_refl _)
     ·have := (HO.out.set 3 (.int .i64 0)).2.2.2.1
      simpa [World.setCell] using this
  ·have hd : decide ((k : Int) < (len : Int)) = false := decide_eq_false (by omega)
   have s3 := fun v => sc1 (W := wr) (p := ⟨w.heap.size, 3, none⟩) (x := .int .i64 0) c3 v
   by_cases hbig : (12 : Int) < (len : Int) / 20
   ·go_wp2
    go_ret
    refine ⟨rfl, src_of HR.out ((HO.out.set 3 _).set 3 _) (blk_set3 (blk_set3 HB.out _) _) h2 h3 (by omega) (by omega), ?_, ?_⟩
    ·exact ((HO.out.set 3 _).set 3 _).below ((Below.refl _ _).alloc (Nat.le_refl _) _) (Nat.le_refl _)
    ·have := ((HO.out.set 3 (.int .i64 0)).set 3 (.int .i64 0)).2.2.2.1
     simpa [World.setCell] using this
   ·go_wp2
    go_ret
    refine ⟨rfl, src_of HR.out (HO.out.set 3 _) (blk_set3 HB.out _) h2 h3 (by omega) (by omega), ?_, ?_⟩
    ·exact (HO.out.set 3 _).below ((Below.refl _ _).alloc (Nat.le_refl _) _) (Nat.le_refl _)
    ·have := (HO.out.set 3 (.int .i64 0)).2.2.2.1
     simpa [World.setCell] using this
end Go.Proofs.YthbpenanelbbcaaGreatDoor.Dr


/- What stays of a source while other memory is made; a coin, and bytes, that it gives. -/
namespace Go.Proofs.YthbpenanelbbcaaGreatDoor.Dr
open Go.RowKit
open Go.Proofs.YthbpenanelbbcaaGreatDoor.Nu (bv own_string)
structure Aft (B : Nat) (w w' : World) : Prop where
 os : w'.os = w.os
 tape : w'.tape = w.tape
 output : w'.output = w.output
 size : w.heap.size ≤ w'.heap.size
 block : ∀ k, k < w.heap.size → k ≠ B → w'.heap[k]? = w.heap[k]?
theorem Aft.refl (B : Nat) (w : World) : Aft B w w := ⟨rfl, rfl, rfl, Nat.le_refl _, fun _ _ _ => rfl⟩
theorem Aft.trans {B : Nat} {a b c : World} (h : Aft B a b) (k : Aft B b c) : Aft B a c :=
 ⟨k.os.trans h.os, k.tape.trans h.tape, k.output.trans h.output, Nat.le_trans h.size k.size, fun i hi hn => (k.block i (Nat.lt_of_lt_of_le hi h.size) hn).trans (h.block i hi hn)⟩
theorem Only.aft {B : Nat} {w w' : World} (h : Only B w w') : Aft B w w' := ⟨h.1, h.2.1, h.2.2.1, by rw [h.2.2.2.1]; exact Nat.le_refl _, fun k _ hk => h.2.2.2.2 k hk⟩
theorem aft_below {B : Nat} {w w' : World} (h : Below w.heap.size w w') : Aft B w w' := ⟨h.os, h.tape, h.output, h.size, fun k hk _ => h.block k hk⟩
theorem Aft.below {B C : Nat} {w0 w w' : World} (hb : Below C w0 w) (h : Aft B w w') (hC : C ≤ B) (hS : C ≤ w.heap.size) : Below C w0 w' :=
 hb.trans ⟨h.os, h.tape, h.output, h.size, fun k hk => h.block k (by omega) (by omega)⟩
theorem Src.stays {B : Nat} {w w' : World} {a : Option Addr} {len cap : Nat} (hs : Src w B a len cap) (h : ∀ k, k ≤ B → w'.heap[k]? = w.heap[k]?) : Src w' B a len cap := by
 obtain ⟨hr, at_, mix, size, hb, h0⟩ := hs
 refine ⟨?_, at_, mix, size, (h B (Nat.le_refl _)).trans hb, h0⟩
 rcases hr with h0 | ⟨b, off, rfl, hlt, hc⟩
 ·exact .inl h0
 ·refine .inr ⟨b, off, rfl, hlt, fun i hi => ?_⟩
  obtain ⟨z, hz, z1, z2⟩ := hc i hi
  exact ⟨z, (World.cell?_of_block (w := w) (a := ⟨b, off + i, none⟩) (h b (Nat.le_of_lt hlt))).trans hz, z1, z2⟩
theorem Src.lt {B : Nat} {w : World} {a : Option Addr} {len cap : Nat} (hs : Src w B a len cap) : B < w.heap.size := by
 obtain ⟨_, at_, mix, size, hb, _⟩ := hs
 rcases Nat.lt_or_ge B w.heap.size with h | h
 ·exact h
 ·rw [Array.getElem?_eq_none h] at hb
  exact absurd hb (by simp)
theorem Src.below {B : Nat} {w w' : World} {a : Option Addr} {len cap : Nat} (hs : Src w B a len cap) (h : Below w.heap.size w w') : Src w' B a len cap :=
 hs.stays fun k hk => h.block k (Nat.lt_of_le_of_lt hk hs.lt)
theorem one_any (B : Nat) (a : Option Addr) (len cap : Nat) (most : Int) (w : World) (hl : len ≤ 1048576) (hm2 : most ≤ 9223372036854775807) (hs : Src w B a len cap) :
  Calls Tryz.prog 37 #[.pointer (some ⟨B, 0, none⟩), .int .i64 most] w fun e w' => ∃ r : Bool, e = .returned (.bool r) ∧ Src w' B a len cap ∧ Only B w w' := by
 go_enter Tryz.func37, Tryz.ntmps37
 go_wp2_with fail
 refine (n_any B a len cap most _ hl hm2 hs).mono ?_
 rintro e w1 ⟨r, rfl, h0, h1, h2, h3⟩
 go_wp2
 go_ret
 exact ⟨_, rfl, h2, h3⟩
theorem owns_only {B base : Nat} {w w' : World} {e : TypeId} {v : Value} {n size : Nat} {xs : List Value} (h : w.ownsRow base e size v n xs) (ho : Only B w w') (hB : B < base) : w'.ownsRow base e size v n xs := by
 obtain ⟨h1, h2⟩ := h
 refine ⟨h1, ?_⟩
 rcases h2 with h2 | ⟨g, cap, cur, e1, e2, e3, e4⟩
 ·exact .inl h2
 ·exact .inr ⟨g, cap, cur, e1, e2, (ho.2.2.2.2 g (by omega)).trans e3, e4⟩
theorem aft_more {B : Nat} {w w1 w2 : World} (h : Aft B w w1) (hb : Below w.heap.size w1 w2) : Aft B w w2 :=
 ⟨hb.os.trans h.os, hb.tape.trans h.tape, hb.output.trans h.output, Nat.le_trans h.size hb.size, fun k hk hn => (hb.block k hk).trans (h.block k hk hn)⟩
theorem bv_int (r : Int) (h0 : 0 ≤ r) (h1 : r ≤ 255) : bv (UInt8.ofNat r.toNat) = .int .u8 r := by
 unfold bv
 rw [UInt8.toNat_ofNat', Nat.mod_eq_of_lt (by omega)]
 congr 1
 omega
theorem Tryz.infoD5 : (Tryz.prog.info? 5).map (fun i => (i.zero, i.size, i.bytes)) = some (some (.int .u8 0), 1, 1) := by kernel_rfl
set_option maxRecDepth 100000 in
set_option maxHeartbeats 2000000 in
/-- s.bytes(n): a text of n bytes -/
theorem bytes_any (B : Nat) (a : Option Addr) (len cap m : Nat) (w : World) (hl : len ≤ 1048576) (hm : m ≤ 1048576) (hs : Src w B a len cap) :
  Calls Tryz.prog 70 #[.pointer (some ⟨B, 0, none⟩), .int .i64 m] w fun e w' => ∃ l : List UInt8, l.length = m ∧ e = .returned (.string ⟨l.toArray⟩) ∧ Src w' B a len cap ∧ Aft B w w' := by
 have hB := hs.lt
 have HS := hideD hs
 clear hs
 obtain ⟨i0, hi, hz0, hz1, hz2⟩ := info_parts Tryz.infoD5
 go_enter Tryz.func70, Tryz.ntmps70
 go_wp2
 go_loopw [5, 6] (fun v i wr => ∃ (k : Nat) (l : List UInt8), i = .int .i64 k ∧ k ≤ m ∧ l.length = k ∧ wr.ownsRow w.heap.size 5 1 v k (l.map bv) ∧ Src wr B a len cap ∧ Aft B w wr) (fun _ i _ => m - (intOf i).toNat)
 case atStart =>
  exact ⟨0, [], rfl, Nat.zero_le _, rfl, World.ownsRow_made _ _ _ (Nat.le_refl _) (by decide) rfl, HS.out.below ((Below.refl _ _).alloc (Nat.le_refl _) _), aft_below ((Below.refl _ _).alloc (Nat.le_refl _) _)⟩
 case round =>
  obtain ⟨k, l, rfl, hk, hlen, hown, hsr, haft⟩ := hrel
  have HL := hideD hlen
  have HSR := hideD hsr
  have HA := hideD haft
  have HO := hideD hown
  clear hlen hsr haft hown
  by_cases hlt : k < m
  ·go_wp2_with fail
   refine (n_any B a len cap 256 _ hl (by omega) HSR.out).mono ?_
   rintro e w1 ⟨r, rfl, r0, r1, hs1, ho1⟩
   have r2 : r ≤ 255 := by omega
   have hown1 := owns_only HO.out ho1 hB
   have HS1 := hideD hs1
   have HA1 := hideD (HA.out.trans ho1.aft)
   clear hs1
   go_wp2_with (at_builtin; refine wpList_append_own _ rfl (.tmp 13) (.tmp 17) 22 rfl w.heap.size 5 i0 (.int .u8 0) 1 1 Tryz.underlying22 hi hz0 hz1 hz2 rfl (by decide) _ _ _ rfl (hown1.alloc _) ⟨w1.heap.size, 0, none⟩ 1 1 [.int .u8 r] rfl rfl ?c1 ?c2 ?c3 ?c4 ?c5 ?_)
   case c1 =>
    intro j u hj
    match j, hj with
    | 0, hj => simp at hj; subst hj; simp [Addr.add]
   case c2 => intro u hu; simp at hu; subst hu; rfl
   case c3 => unfold maxLen; omega
   case c4 => omega
   case c5 => have := HA1.out.size; simp; omega
   intro v' w2 hown2 hgrow _
   have hb2 := Go.Proofs.YthbpenanelbbcaaGreatDoor.Nu.app_below (w := w1) (Below.refl w.heap.size w1) HA1.out.size hown1 hgrow
   have HS2 := hideD (HS1.out.stays fun j hj => hb2.block j (by omega))
   have HA2 := hideD (aft_more HA1.out hb2)
   have HO2 : Hid (w2.ownsRow w.heap.size 5 1 v' (k + 1) ((l ++ [UInt8.ofNat r.toNat]).map bv)) := by
    unfold Hid
    rw [List.map_append, List.map_singleton, bv_int r r0 r2]
    exact hown2
   clear hown2 hgrow hown1 hb2 ho1
   go_wp2
   go_roundw
   case rel => exact ⟨k + 1, l ++ [UInt8.ofNat r.toNat], by go_num, by omega, by rw [List.length_append, HL.out]; rfl, HO2.out, HS2.out, HA2.out⟩
   case measure => simp [intOf]; omega
  ·have hkm : k = m := by omega
   have HKM := hideD hkm
   have hconv := own_string (P := Tryz.prog) (src := 22) (dst := 9) l (by rw [HL.out]; exact HO.out) Tryz.underlying22 Tryz.underlying5 Tryz.underlying9
   clear hkm
   go_wp2
   go_ret
   exact ⟨l, by rw [HL.out, HKM.out], rfl, HSR.out, HA.out⟩
end Go.Proofs.YthbpenanelbbcaaGreatDoor.Dr


/- Bytes that came in, as a source of draws sees them; and a text of zeros. -/
namespace Go.Proofs.YthbpenanelbbcaaGreatDoor.Dr
open Go.RowKit
open Go.Proofs.YthbpenanelbbcaaGreatDoor.Nu (bv own_string)
def IsRow (k : IntKind) (w : World) (a : Option Addr) (len cap : Nat) (zs : List Int) : Prop :=
 (a = none ∧ len = 0 ∧ cap = 0 ∧ zs = []) ∨
 ∃ x, a = some x ∧ len ≤ cap ∧ cap ≤ maxLen ∧ zs.length = cap ∧ (∀ i, i < zs.length → w.cell? (x.add i) = some (.int k (zs.getD i 0))) ∧ ∀ n ∈ zs, (Lit.int k n).wf = true
theorem row_of {w : World} {a : Option Addr} {len cap : Nat} {zs : List Int} (h : IsRow .u8 w a len cap zs) : Row w w.heap.size a len := by
 rcases h with ⟨_, rfl, _⟩ | ⟨x, rfl, hlc, _, hz, hc, hw⟩
 ·exact .inl rfl
 ·rcases Nat.eq_zero_or_pos len with h0 | h0
  ·exact .inl h0
  ·obtain ⟨b, off, spot⟩ := x
   have hc0 := hc 0 (by omega)
   have hspot : spot = none := by simpa [Addr.add] using World.cell?_spot hc0
   subst hspot
   have e : ∀ i, (⟨b, off, none⟩ : Addr).add i = ⟨b, off + i, none⟩ := fun i => by unfold Addr.add; split <;> simp_all
   have hlt := World.block_lt_of_cell? w _ hc0
   rw [e 0] at hlt
   refine .inr ⟨b, off, rfl, hlt, fun i hi => ⟨zs.getD i 0, by rw [← e i]; exact hc i (by omega), ?_⟩⟩
   have hi' : i < zs.length := by omega
   have hm : zs.getD i 0 ∈ zs := by rw [List.getD_eq_getElem?_getD, List.getElem?_eq_getElem hi']; exact List.getElem_mem hi'
   have := hw _ hm
   simpa [Lit.wf, IntKind.min, IntKind.max, IntKind.signed, IntKind.bits] using this
theorem Row.below {w w' : World} {B : Nat} {a : Option Addr} {len : Nat} (h : Row w B a len) (hb : Below B w w') : Row w' B a len := by
 rcases h with h0 | ⟨b, off, rfl, hlt, hc⟩
 ·exact .inl h0
 ·refine .inr ⟨b, off, rfl, hlt, fun i hi => ?_⟩
  obtain ⟨z, hz, z1, z2⟩ := hc i hi
  exact ⟨z, (hb.cell (p := ⟨b, off + i, none⟩) hlt).trans hz, z1, z2⟩
theorem Row.mono {w : World} {B C : Nat} {a : Option Addr} {len : Nat} (h : Row w B a len) (hBC : B ≤ C) : Row w C a len := by
 rcases h with h0 | ⟨b, off, rfl, hlt, hc⟩
 ·exact .inl h0
 ·exact .inr ⟨b, off, rfl, Nat.lt_of_lt_of_le hlt hBC, hc⟩
def zeroS (n : Nat) : ByteArray := ⟨(List.replicate n (0 : UInt8)).toArray⟩
end Go.Proofs.YthbpenanelbbcaaGreatDoor.Dr


/- One text of a list, drawn. -/
namespace Go.Proofs.YthbpenanelbbcaaGreatDoor.Dr
open Go.RowKit
open Go.Proofs.YthbpenanelbbcaaGreatDoor.St (IsS)
set_option maxRecDepth 100000 in
set_option maxHeartbeats 2000000 in
theorem pick_any (B g c : Nat) (a : Option Addr) (len cap : Nat) (t : TypeId) (l : List ByteArray) (w : World) (hl : len ≤ 1048576) (hs : Src w B a len cap) (hx : IsS w g t l) (hg : g ≠ B) (h0 : 0 < l.length) (hm : l.length ≤ 100) :
  Calls Tryz.prog 71 #[.pointer (some ⟨B, 0, none⟩), .slice (some ⟨g, 0, none⟩) l.length c] w fun e w' => ∃ s, s ∈ l ∧ e = .returned (.string s) ∧ Src w' B a len cap ∧ Only B w w' := by
 have HX := hideD hx
 have HM := hideD (fun (j : Nat) (hj : j < l.length) => List.getElem_mem hj)
 clear hx
 obtain ⟨n, hln⟩ : ∃ n, n = l.length := ⟨_, rfl⟩
 have HLN := hideD hln
 rw [← hln] at h0 hm ⊢
 clear hln
 go_enter Tryz.func71, Tryz.ntmps71
 go_wp2_with fail
 refine (n_any B a len cap n _ hl (by omega) hs).mono ?_
 rintro e w2 ⟨r, rfl, q0, q1, hs2, ho2⟩
 obtain ⟨i, rfl⟩ := Int.eq_ofNat_of_zero_le q0
 have hin : i < n := by omega
 have hil : i < l.length := by rw [← HLN.out]; exact hin
 have hce : w2.cell? ⟨g, i, none⟩ = some (.string l[i]) := by
  have h1 : IsS w2 g t l := by
   unfold IsS
   rw [ho2.2.2.2.2 g hg]
   exact HX.out
  exact h1.cell hil
 have HMI := hideD (HM.out i hil)
 generalize l[i] = s at hce HMI
 have HS2 := hideD hs2
 have HO2 := hideD ho2
 clear hs2 ho2 q0 q1 hs
 go_wp2_with fail
 go_ret
 exact ⟨s, HMI.out, rfl, HS2.out, HO2.out⟩
end Go.Proofs.YthbpenanelbbcaaGreatDoor.Dr

