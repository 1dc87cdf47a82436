/- Texts put together: DrawBase, DrawN, DrawSource. -/
import Derived.Test.YtmkpakhpjgocjaaChecked
import Derived.WalkKit
import Derived.WalkSpells
import Derived.WalkLawsBesides
import Derived.BigRegion
import Derived.Deep.QuietTactic
import Derived.BigQuiet
import Derived.Laws.BitsAllLaws
/- The draws' own base: a source of draws in memory, and the number that it gives: some number below what is asked, and nothing turns but the source itself. -/
namespace Go.Proofs.Ytmkpakhpjgocjaa.Dr
open Go.RowKit

theorem hideD {p : Prop} (h : p) : Hid p := h

/-- the bytes that a source draws from -/
def Row (w : World) (B : Nat) (a : Option Addr) (len : Nat) : Prop :=
  len = 0 ∨ ∃ b off, a = some ⟨b, off, none⟩ ∧ b < B ∧ ∀ i, i < len → ∃ z : Int, w.cell? ⟨b, off + i, none⟩ = some (.int .u8 z) ∧ 0 ≤ z ∧ z ≤ 255

/-- a source at block B -/
def Src (w : World) (B : Nat) (a : Option Addr) (len cap : Nat) : Prop :=
  Row w B a len ∧ ∃ at_ mix size : Int, w.heap[B]? = some (.cells #[.slice a len cap, .int .i64 at_, .int .u64 mix, .int .i64 size] 104 (0, 0)) ∧
    0 ≤ at_ ∧ at_ ≤ len ∧ 0 ≤ mix ∧ mix ≤ 18446744073709551615 ∧ 0 ≤ size ∧ size ≤ 12

theorem wrap64_bd (x : Int) : 0 ≤ IntKind.u64.wrap x ∧ IntKind.u64.wrap x ≤ 18446744073709551615 := by rw [IntKind.wrap_u64]; omega

theorem xor_bd (x y : Int) (h0 : 0 ≤ x) (h1 : x ≤ 18446744073709551615) (h2 : 0 ≤ y) (h3 : y ≤ 18446744073709551615) :
    0 ≤ bits BinOp.xor IntKind.u64 x y ∧ bits BinOp.xor IntKind.u64 x y ≤ 18446744073709551615 := by
  obtain ⟨m, rfl⟩ := Int.eq_ofNat_of_zero_le h0
  obtain ⟨n, rfl⟩ := Int.eq_ofNat_of_zero_le h2
  rw [u64_xor_nat m n (by omega) (by omega)]
  have := Nat.xor_lt_two_pow (n := 64) (x := m) (y := n) (by omega) (by omega)
  omega

theorem sc1 {W : World} {p : Addr} {x : Value} (h : W.cell? p = some x) (v : Value) : (W.setCell p v).cell? p = some v := by
  exact World.cell?_setCell_same W p v h
theorem sc2 {W : World} {p : Addr} {x : Value} (h : W.cell? p = some x) (v v2 : Value) : ((W.setCell p v).setCell p v2).cell? p = some v2 := sc1 (sc1 h v) v2
theorem sc3 {W : World} {p : Addr} {x : Value} (h : W.cell? p = some x) (v v2 v3 : Value) : (((W.setCell p v).setCell p v2).setCell p v3).cell? p = some v3 := sc1 (sc2 h v v2) v3

/-- only block B has turned, and nothing is new -/
def Only (B : Nat) (w w' : World) : Prop := w'.os = w.os ∧ w'.tape = w.tape ∧ w'.output = w.output ∧ w'.heap.size = w.heap.size ∧ ∀ k, k ≠ B → w'.heap[k]? = w.heap[k]?

theorem Only.refl (B : Nat) (w : World) : Only B w w := ⟨rfl, rfl, rfl, rfl, fun _ _ => rfl⟩
theorem Only.drew {B : Nat} {w w' : World} (h : Only B w w') : Only B w w'.drew := h
theorem Only.drewN {B : Nat} (w : World) (n : Nat) : Only B w (w.drewN n) := ⟨rfl, rfl, rfl, rfl, fun _ _ => rfl⟩
theorem Only.set {B : Nat} {w w' : World} (h : Only B w w') (o : Nat) (v : Value) : Only B w (w'.setCell ⟨B, o, none⟩ v) :=
  ⟨h.1, h.2.1, h.2.2.1, by simpa [World.setCell] using h.2.2.2.1, fun k hk => (heap_setCell_other w' ⟨B, o, none⟩ k v hk).trans (h.2.2.2.2 k hk)⟩
theorem Only.trans {B : Nat} {a b c : World} (h : Only B a b) (k : Only B b c) : Only B a c :=
  ⟨k.1.trans h.1, k.2.1.trans h.2.1, k.2.2.1.trans h.2.2.1, k.2.2.2.1.trans h.2.2.2.1, fun i hi => (k.2.2.2.2 i hi).trans (h.2.2.2.2 i hi)⟩
theorem Only.below {B C : Nat} {w0 w w' : World} (hb : Below C w0 w) (h : Only B w w') (hC : C ≤ B) : Below C w0 w' :=
  hb.trans ⟨h.1, h.2.1, h.2.2.1, by rw [h.2.2.2.1]; exact Nat.le_refl _, fun k hk => h.2.2.2.2 k (by omega)⟩
theorem Only.row {B : Nat} {w w' : World} {a : Option Addr} {len : Nat} (h : Only B w w') (hr : Row w B a len) : Row w' B a len := by
  rcases hr with h0 | ⟨b, off, rfl, hb, hc⟩
  · exact .inl h0
  · refine .inr ⟨b, off, rfl, hb, fun i hi => ?_⟩
    obtain ⟨z, hz, h1, h2⟩ := hc i hi
    exact ⟨z, (World.cell?_of_block (w := w) (a := ⟨b, off + i, none⟩) (h.2.2.2.2 b (Nat.ne_of_lt hb))).trans hz, h1, h2⟩

theorem rem_bd (y most : Int) (h0 : 0 ≤ y) (h1 : 1 < most) (h2 : most ≤ 9223372036854775807) : 0 ≤ wrap64 (y.tmod most) ∧ wrap64 (y.tmod most) < most := by
  rw [Int.tmod_eq_emod_of_nonneg h0]
  have a1 := Int.emod_nonneg y (show most ≠ 0 by omega)
  have a2 := Int.emod_lt_of_pos y (show 0 < most by omega)
  simp only [wrap64]
  omega

/-- the source behind a draw: another place, other bits -/
theorem src_set {w w' : World} {B : Nat} {a : Option Addr} {len cap : Nat} {at_ mix size : Int} (hr : Row w B a len) (ho : Only B w w')
    (hb : w'.heap[B]? = some (.cells #[.slice a len cap, .int .i64 at_, .int .u64 mix, .int .i64 size] 104 (0, 0)))
    (h1 : 0 ≤ at_) (h2 : at_ ≤ len) (h3 : 0 ≤ mix ∧ mix ≤ 18446744073709551615) (h4 : 0 ≤ size) (h5 : size ≤ 12) : Src w' B a len cap :=
  ⟨ho.row hr, at_, mix, size, hb, h1, h2, h3.1, h3.2, h4, h5⟩

theorem blk_set {W : World} {B : Nat} {x0 x1 x2 x3 : Value} {T : TypeId} (h : W.heap[B]? = some (.cells #[x0, x1, x2, x3] T (0, 0))) (v : Value) :
    (W.setCell ⟨B, 2, none⟩ v).heap[B]? = some (.cells #[x0, x1, v, x3] T (0, 0)) := by
  rw [heap_setCell_same W B 2 _ T v h]; rfl
theorem blk_set1 {W : World} {B : Nat} {x0 x1 x2 x3 : Value} {T : TypeId} (h : W.heap[B]? = some (.cells #[x0, x1, x2, x3] T (0, 0))) (v : Value) :
    (W.setCell ⟨B, 1, none⟩ v).heap[B]? = some (.cells #[x0, v, x2, x3] T (0, 0)) := by
  rw [heap_setCell_same W B 1 _ T v h]; rfl

theorem step1 (m : Int) (h : 0 ≤ m ∧ m ≤ 18446744073709551615) (y : Int) : 0 ≤ bits BinOp.xor IntKind.u64 m (IntKind.u64.wrap y) ∧ bits BinOp.xor IntKind.u64 m (IntKind.u64.wrap y) ≤ 18446744073709551615 :=
  xor_bd m _ h.1 h.2 (wrap64_bd y).1 (wrap64_bd y).2
theorem step2 (m : Int) (h : 0 ≤ m ∧ m ≤ 18446744073709551615) : 0 ≤ bits BinOp.xor IntKind.u64 m (m / 128) ∧ bits BinOp.xor IntKind.u64 m (m / 128) ≤ 18446744073709551615 :=
  xor_bd m _ h.1 h.2 (by omega) (by omega)

set_option maxRecDepth 100000 in
set_option maxHeartbeats 2000000 in
theorem n_past (B : Nat) (a : Option Addr) (len cap : Nat) (most at_ mix size : Int) (w : World) (hm : 1 < most) (hm2 : most ≤ 9223372036854775807) (hr : Row w B a len)
    (hb : w.heap[B]? = some (.cells #[.slice a len cap, .int .i64 at_, .int .u64 mix, .int .i64 size] 104 (0, 0)))
    (h0 : 0 ≤ at_) (h1 : ¬ at_ < len) (h1' : at_ ≤ len) (h2 : 0 ≤ mix) (h3 : mix ≤ 18446744073709551615) (h4 : 0 ≤ size) (h5 : size ≤ 12) :
    Calls Try.prog 71 #[.pointer (some ⟨B, 0, none⟩), .int .i64 most] w fun e w' => ∃ r, e = .returned (.int .i64 r) ∧ 0 ≤ r ∧ r < most ∧ Src w' B a len cap ∧ Only B w w' := by
  have c0 : w.cell? ⟨B, 0, none⟩ = some (.slice a len cap) := by rw [cell_of_row w B 0 _ _ _ hb]; rfl
  have c1 : w.cell? ⟨B, 1, none⟩ = some (.int .i64 at_) := by rw [cell_of_row w B 1 _ _ _ hb]; rfl
  have c2 : w.cell? ⟨B, 2, none⟩ = some (.int .u64 mix) := by rw [cell_of_row w B 2 _ _ _ hb]; rfl
  have f := fun o => frozen_of_row w B o _ _ hb
  have HB := hideD hb
  have HR := hideD hr
  clear hb hr
  have s1 := fun n => sc1 (W := w.drewN n) (p := ⟨B, 2, none⟩) (x := .int .u64 mix) (by simpa using c2)
  have s2 := fun n => sc2 (W := w.drewN n) (p := ⟨B, 2, none⟩) (x := .int .u64 mix) (by simpa using c2)
  have s3 := fun n => sc3 (W := w.drewN n) (p := ⟨B, 2, none⟩) (x := .int .u64 mix) (by simpa using c2)
  go_enter Try.func71, Try.ntmps71
  go_wp2
  go_quiet (fail)
  go_wp2
  go_region
  go_wp2
  go_region
  go_wp2
  go_region
  go_wp2
  go_ret
  have k1 := step1 mix ⟨h2, h3⟩ (mix * 8192)
  have k2 := step2 _ k1
  have k3 := step1 _ k2 (bits BinOp.xor IntKind.u64 (bits BinOp.xor IntKind.u64 mix (IntKind.u64.wrap (mix * 8192))) (bits BinOp.xor IntKind.u64 mix (IntKind.u64.wrap (mix * 8192)) / 128) * 131072)
  exact ⟨_, rfl, (rem_bd _ most (wrap64_bd _).1 hm hm2).1, (rem_bd _ most (wrap64_bd _).1 hm hm2).2,
    src_set HR.out ((((Only.drewN w _).set 2 _).set 2 _).set 2 _).drew.drew (blk_set (blk_set (blk_set (W := w.drewN _) HB.out _) _) _) h0 h1' k3 h4 h5, ((((Only.drewN w _).set 2 _).set 2 _).set 2 _).drew.drew⟩
end Go.Proofs.Ytmkpakhpjgocjaa.Dr

/- The number that a source of draws gives. -/
namespace Go.Proofs.Ytmkpakhpjgocjaa.Dr
open Go.RowKit

theorem c1_other {W : World} {B : Nat} {x : Value} (h : W.cell? ⟨B, 2, none⟩ = some x) (v : Value) : (W.setCell ⟨B, 1, none⟩ v).cell? ⟨B, 2, none⟩ = some x :=
  (World.cell?_setCell_other W _ _ _ (by simp)).trans h

set_option maxRecDepth 100000 in
set_option maxHeartbeats 400000 in
theorem n_within (B b off i : Nat) (len cap : Nat) (most z mix size : Int) (w : World) (hl : len ≤ 1048576) (hm : 1 < most) (hm2 : most ≤ 9223372036854775807) (hr : Row w B (some ⟨b, off, none⟩) len)
    (hb : w.heap[B]? = some (.cells #[.slice (some ⟨b, off, none⟩) len cap, .int .i64 (i : Int), .int .u64 mix, .int .i64 size] 104 (0, 0)))
    (h1 : i < len) (h2 : 0 ≤ mix) (h3 : mix ≤ 18446744073709551615) (h4 : 0 ≤ size) (h5 : size ≤ 12) (hc : w.cell? ⟨b, off + i, none⟩ = some (.int .u8 z)) (hz1 : 0 ≤ z) (hz2 : z ≤ 255) :
    Calls Try.prog 71 #[.pointer (some ⟨B, 0, none⟩), .int .i64 most] w fun e w' => ∃ r, e = .returned (.int .i64 r) ∧ 0 ≤ r ∧ r < most ∧ Src w' B (some ⟨b, off, none⟩) len cap ∧ Only B w w' := by
  have c0 : w.cell? ⟨B, 0, none⟩ = some (.slice (some ⟨b, off, none⟩) len cap) := by rw [cell_of_row w B 0 _ _ _ hb]; rfl
  have c1 : w.cell? ⟨B, 1, none⟩ = some (.int .i64 (i : Int)) := by rw [cell_of_row w B 1 _ _ _ hb]; rfl
  have c2 : w.cell? ⟨B, 2, none⟩ = some (.int .u64 mix) := by rw [cell_of_row w B 2 _ _ _ hb]; rfl
  have f := fun o => frozen_of_row w B o _ _ hb
  have HB := hideD hb
  have HR := hideD hr
  clear hb hr
  have g1 : (i : Int) < (len : Int) := by omega
  go_enter Try.func71, Try.ntmps71
  go_wp2
  go_quiet (fail)
  obtain ⟨q1, rfl⟩ : ∃ q, q = nq := ⟨_, rfl⟩
  go_wp2
  go_quiet (fail)
  go_wp2
  have e2 : ((w.drewN (q1 + nq)).setCell ⟨B, 1, none⟩ (.int .i64 ((i : Int) + 1))).cell? ⟨B, 2, none⟩ = some (.int .u64 mix) := c1_other (by simpa using c2) _
  have ef : ∀ o, ((w.drewN (q1 + nq)).setCell ⟨B, 1, none⟩ (.int .i64 ((i : Int) + 1))).frozen? ⟨B, o, none⟩ = false := fun o => frozen_of_row _ B o _ _ (blk_set1 (W := w.drewN _) HB.out _)
  have EB := hideD (blk_set1 (W := w.drewN (q1 + nq)) HB.out (.int .i64 ((i : Int) + 1)))
  have EO := hideD ((Only.drewN (B := B) w (q1 + nq)).set 1 (.int .i64 ((i : Int) + 1)))
  generalize (w.drewN (q1 + nq)).setCell ⟨B, 1, none⟩ (.int .i64 ((i : Int) + 1)) = W1 at e2 ef EB EO ⊢
  clear c0 c1 c2 f hc
  have s1 := sc1 (W := W1) (p := ⟨B, 2, none⟩) (x := .int .u64 mix) e2
  have s2 := sc2 (W := W1) (p := ⟨B, 2, none⟩) (x := .int .u64 mix) e2
  have s3 := sc3 (W := W1) (p := ⟨B, 2, none⟩) (x := .int .u64 mix) e2
  go_region
  go_wp2
  go_region
  go_wp2
  go_region
  go_wp2
  go_ret
  have k1 := step1 mix ⟨h2, h3⟩ (mix * 8192)
  have k2 := step2 _ k1
  have k3 := step1 _ k2 (bits BinOp.xor IntKind.u64 (bits BinOp.xor IntKind.u64 mix (IntKind.u64.wrap (mix * 8192))) (bits BinOp.xor IntKind.u64 mix (IntKind.u64.wrap (mix * 8192)) / 128) * 131072)
  exact ⟨_, rfl, (rem_bd _ most (wrap64_bd _).1 hm hm2).1, (rem_bd _ most (wrap64_bd _).1 hm hm2).2,
    src_set HR.out (((EO.out.set 2 _).set 2 _).set 2 _).drew.drew.drew (blk_set (blk_set (blk_set EB.out _) _) _) (by omega) (by omega) k3 h4 h5, (((EO.out.set 2 _).set 2 _).set 2 _).drew.drew.drew⟩

/-- s.n(most): some number below most (0, if most is 1 or less); only the source has turned -/
theorem n_any (B : Nat) (a : Option Addr) (len cap : Nat) (most : Int) (w : World) (hl : len ≤ 1048576) (hm2 : most ≤ 9223372036854775807) (hs : Src w B a len cap) :
    Calls Try.prog 71 #[.pointer (some ⟨B, 0, none⟩), .int .i64 most] w fun e w' => ∃ r, e = .returned (.int .i64 r) ∧ 0 ≤ r ∧ (r < most ∨ r = 0) ∧ Src w' B a len cap ∧ Only B w w' := by
  by_cases hm : 1 < most
  · obtain ⟨hr, at_, mix, size, hb, h0, h1, h2, h3, h4, h5⟩ := hs
    by_cases hlt : at_ < len
    · obtain ⟨i, rfl⟩ := Int.eq_ofNat_of_zero_le h0
      rcases hr with h | ⟨b, off, rfl, hne, hc⟩
      · exfalso; omega
      · obtain ⟨z, hz, z1, z2⟩ := hc i (by omega)
        exact (n_within B b off i len cap most z mix size w hl hm hm2 (.inr ⟨b, off, rfl, hne, hc⟩) hb (by omega) h2 h3 h4 h5 hz z1 z2).mono fun e w' ⟨r, e1, e2, e3, e4, e5⟩ => ⟨r, e1, e2, .inl e3, e4, e5⟩
    · exact (n_past B a len cap most at_ mix size w hm hm2 hr hb h0 hlt h1 h2 h3 h4 h5).mono fun e w' ⟨r, e1, e2, e3, e4, e5⟩ => ⟨r, e1, e2, .inl e3, e4, e5⟩
  · have HS := hideD hs
    clear hs
    go_enter Try.func71, Try.ntmps71
    go_wp2
    go_ret
    exact ⟨0, rfl, Int.le_refl _, .inr rfl, HS.out, Only.refl _ _⟩
end Go.Proofs.Ytmkpakhpjgocjaa.Dr

/- The making of a source of draws: it lies in a new block, and draws from the bytes that it was handed. -/
namespace Go.Proofs.Ytmkpakhpjgocjaa.Dr
open Go.RowKit

theorem blk_set3 {W : World} {B : Nat} {x0 x1 x2 x3 : Value} {T : TypeId} (h : W.heap[B]? = some (.cells #[x0, x1, x2, x3] T (0, 0))) (v : Value) :
    (W.setCell ⟨B, 3, none⟩ v).heap[B]? = some (.cells #[x0, x1, x2, v] T (0, 0)) := by
  rw [heap_setCell_same W B 3 _ T v h]; rfl

def sobj (a : Option Addr) (len cap : Nat) (mix size : Int) : Obj := .cells #[.slice a len cap, .int .i64 0, .int .u64 mix, .int .i64 size] 104 (0, 0)

theorem src_of {w wr : World} {a : Option Addr} {len cap : Nat} {mix size : Int} (hr : Row w w.heap.size a len) (ho : Only w.heap.size (w.alloc (sobj a len cap 88172645463325252 0)) wr)
    (hb : wr.heap[w.heap.size]? = some (sobj a len cap mix size)) (h1 : 0 ≤ mix) (h2 : mix ≤ 18446744073709551615) (h3 : 0 ≤ size) (h4 : size ≤ 12) : Src wr w.heap.size a len cap := by
  refine ⟨ho.row ?_, 0, mix, size, hb, Int.le_refl _, by omega, h1, h2, h3, h4⟩
  rcases hr with h0 | ⟨b, off, rfl, hne, hc⟩
  · exact .inl h0
  · refine .inr ⟨b, off, rfl, hne, fun i hi => ?_⟩
    obtain ⟨z, hz, z1, z2⟩ := hc i hi
    exact ⟨z, (World.cell?_alloc_lt _ _ ⟨b, off + i, none⟩ (World.block_lt_of_cell? w _ hz)).trans hz, z1, z2⟩

set_option maxRecDepth 100000 in
set_option maxHeartbeats 2000000 in
theorem source_any (a : Option Addr) (len cap : Nat) (w : World) (hl : len ≤ 1048576) (hr : Row w w.heap.size a len) :
    Calls Try.prog 64 #[.slice a len cap] w fun e w' => e = .returned (.pointer (some ⟨w.heap.size, 0, none⟩)) ∧ Src w' w.heap.size a len cap ∧ Below w.heap.size w w' ∧ w'.heap.size = w.heap.size + 1 := by
  have HR := hideD hr
  clear hr
  go_enter Try.func64, Try.ntmps64
  go_wp2
  go_loopw [4] (fun i wr => ∃ (k : Nat) (mix : Int), i = .int .i64 k ∧ k ≤ len ∧ 0 ≤ mix ∧ mix ≤ 18446744073709551615 ∧ wr.heap[w.heap.size]? = some (sobj a len cap mix 0) ∧ Only w.heap.size (w.alloc (sobj a len cap 88172645463325252 0)) wr) (fun i _ => len - (intOf i).toNat)
  case atStart => exact ⟨0, 88172645463325252, rfl, Nat.zero_le _, by decide, by decide, heap_alloc_new _ _, Only.refl _ _⟩
  case round =>
    obtain ⟨k, mix, rfl, hk, h2, h3, hb, ho⟩ := hrel
    have c2 : wr.cell? ⟨w.heap.size, 2, none⟩ = some (.int .u64 mix) := by rw [cell_of_row wr _ 2 _ _ _ hb]; rfl
    have c3 : wr.cell? ⟨w.heap.size, 3, none⟩ = some (.int .i64 0) := by rw [cell_of_row wr _ 3 _ _ _ hb]; rfl
    have f := fun o => frozen_of_row wr w.heap.size o _ _ hb
    have HB := hideD hb
    have HO := hideD ho
    clear hb ho
    by_cases hlt : k < len
    · by_cases h64 : k < 64
      · rcases HR.out with h0 | ⟨b, off, rfl, hne, hc⟩
        · exfalso; omega
        · obtain ⟨z, hz, z1, z2⟩ := hc k hlt
          have hzr : wr.cell? ⟨b, off + k, none⟩ = some (.int .u8 z) := (World.cell?_of_block (w := w.alloc _) (a := ⟨b, off + k, none⟩) (HO.out.2.2.2.2 b (Nat.ne_of_lt hne))).trans ((World.cell?_alloc_lt _ _ ⟨b, off + k, none⟩ hne).trans hz)
          clear hc hz
          have g1 : (k : Int) < (len : Int) := by omega
          go_wp2
          go_region
          go_wp2
          go_roundw
          case rel => exact ⟨k + 1, _, by go_num, by omega, (wrap64_bd _).1, (wrap64_bd _).2, blk_set HB.out _, (HO.out.set 2 _).drew⟩
          case measure => simp [intOf]; omega
      · have hd : decide ((k : Int) < 64) = false := decide_eq_false (by omega)
        have g1 : (k : Int) < (len : Int) := by omega
        have s3 := fun v => sc1 (W := wr) (p := ⟨w.heap.size, 3, none⟩) (x := .int .i64 0) c3 v
        by_cases hbig : (12 : Int) < (len : Int) / 20
        · go_wp2
          go_ret
          refine ⟨rfl, src_of HR.out ((HO.out.set 3 _).set 3 _) (blk_set3 (blk_set3 HB.out _) _) h2 h3 (by omega) (by omega), ?_, ?_⟩
          · exact ((HO.out.set 3 _).set 3 _).below ((Below.refl _ _).alloc (Nat.le_refl _) _) (Nat.le_refl _)
          · have := ((HO.out.set 3 (.int .i64 0)).set 3 (.int .i64 0)).2.2.2.1
            simpa [World.setCell] using this
        · go_wp2
          go_ret
          refine ⟨rfl, src_of HR.out (HO.out.set 3 _) (blk_set3 HB.out _) h2 h3 (by omega) (by omega), ?_, ?_⟩
          · exact (HO.out.set 3 _).below ((Below.refl _ _).alloc (Nat.le_refl _) _) (Nat.le_refl _)
          · have := (HO.out.set 3 (.int .i64 0)).2.2.2.1
            simpa [World.setCell] using this
    · have hd : decide ((k : Int) < (len : Int)) = false := decide_eq_false (by omega)
      have s3 := fun v => sc1 (W := wr) (p := ⟨w.heap.size, 3, none⟩) (x := .int .i64 0) c3 v
      by_cases hbig : (12 : Int) < (len : Int) / 20
      · go_wp2
        go_ret
        refine ⟨rfl, src_of HR.out ((HO.out.set 3 _).set 3 _) (blk_set3 (blk_set3 HB.out _) _) h2 h3 (by omega) (by omega), ?_, ?_⟩
        · exact ((HO.out.set 3 _).set 3 _).below ((Below.refl _ _).alloc (Nat.le_refl _) _) (Nat.le_refl _)
        · have := ((HO.out.set 3 (.int .i64 0)).set 3 (.int .i64 0)).2.2.2.1
          simpa [World.setCell] using this
      · go_wp2
        go_ret
        refine ⟨rfl, src_of HR.out (HO.out.set 3 _) (blk_set3 HB.out _) h2 h3 (by omega) (by omega), ?_, ?_⟩
        · exact (HO.out.set 3 _).below ((Below.refl _ _).alloc (Nat.le_refl _) _) (Nat.le_refl _)
        · have := (HO.out.set 3 (.int .i64 0)).2.2.2.1
          simpa [World.setCell] using this
end Go.Proofs.Ytmkpakhpjgocjaa.Dr
