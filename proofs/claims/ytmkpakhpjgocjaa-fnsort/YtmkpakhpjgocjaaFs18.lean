/- Texts put together: LwNums, DrawBase. -/
import Derived.Test.YtmkpakhpjgocjaaFs17
import Derived.Test.YtmkpakhpjgocjaaChecked
import Derived.WalkKit
import Derived.WalkSpells
import Derived.WalkLawsBesides
import Derived.BigRegion
import Derived.Deep.QuietTactic
import Derived.BigQuiet
import Derived.Laws.BitsAllLaws
/- Two lists of the same numbers are told the same. -/
namespace Go.Proofs.Ytmkpakhpjgocjaa.So
open Go.RowKit Go.Sort Go.Proofs
open Go.Proofs.Ytmkpakhpjgocjaa.In (Ints)

theorem ints_drewN {w : World} {B : Nat} {a : Option Addr} {l : List Int} (h : Ints w B a l) (n : Nat) : Ints (w.drewN n) B a l := by
  rcases h with h | h
  · exact .inl h
  · exact .inr h

set_option maxRecDepth 100000 in
set_option maxHeartbeats 1000000 in
theorem lwNums_same (l : List Int) (a b : Option Addr) (ca cb A B : Nat) (w : World) (ha : Ints w A a l) (hb : Ints w B b l) (hn : l.length ≤ 1048576) :
    Calls Try.prog 20 #[.slice a l.length ca, .slice b l.length cb] w fun e w' => e = .returned (.bool true) ∧ ∃ q, w' = w.drewN q := by
  have mixed := mixed
  have HA := hideO ha
  have HB := hideO hb
  obtain ⟨n, hln⟩ : ∃ n, n = l.length := ⟨_, rfl⟩
  have HLN := hideO hln
  rw [← hln] at hn ⊢
  clear hln ha hb
  have hne : ((n : Int) != (n : Int)) = false := by simp
  go_enter Try.func20, Try.ntmps20
  go_wp2_with fail
  go_loopw [5] (fun i wr => ∃ (k q : Nat), i = .int .i64 k ∧ k ≤ n ∧ wr = w.drewN q) (fun i _ => n - (intOf i).toNat)
  case atStart => exact ⟨0, 0, rfl, Nat.zero_le _, rfl⟩
  case round =>
    obtain ⟨k, q, rfl, hk, hwr⟩ := hrel
    have HW := hideO hwr
    by_cases hlt : k < n
    · have hkz : (k : Int) < (n : Int) := by omega
      have hkl : k < l.length := by rw [← HLN.out]; exact hlt
      have h1 : Ints wr A a l := by rw [hwr]; exact ints_drewN HA.out q
      have h2 : Ints wr B b l := by rw [hwr]; exact ints_drewN HB.out q
      obtain ⟨ga, oa, rfl, _, hca⟩ := h1.some (by omega)
      obtain ⟨gb, ob, rfl, _, hcb⟩ := h2.some (by omega)
      have x1 := hca k hkl
      have x2 := hcb k hkl
      obtain ⟨x, hx⟩ : ∃ x, x = l[k] := ⟨_, rfl⟩
      rw [← hx] at x1 x2
      have y1 := fun n' => (show (wr.drewN n').cell? ⟨ga, oa + k, none⟩ = some (.int .i64 x) from x1)
      have y2 := fun n' => (show (wr.drewN n').cell? ⟨gb, ob + k, none⟩ = some (.int .i64 x) from x2)
      have hxx : (x != x) = false := by simp
      clear hca hcb hx h1 h2 hwr x1 x2
      go_wp2_with fail
      go_quiet (fail)
      all_goals (try go_wp2_with fail)
      go_roundw
      case rel => exact ⟨k + 1, q + nq, by go_num, by omega, by rw [HW.out]; exact World.drewN_drewN _ _ _⟩
      case measure => simp [intOf]; omega
    · obtain rfl : k = n := by omega
      clear hwr
      go_wp2_with fail
      go_ret
      exact ⟨rfl, q, HW.out⟩
end Go.Proofs.Ytmkpakhpjgocjaa.So

/- The draws' own base: a source of draws in memory, and the number that it gives: some number below what is asked, and nothing turns but the source itself. -/
namespace Go.Proofs.Ytmkpakhpjgocjaa.Dr
open Go.RowKit

theorem hideD {p : Prop} (h : p) : Hid p := h

/-- the bytes that a source draws from -/
def Row (w : World) (B : Nat) (a : Option Addr) (len : Nat) : Prop :=
  len = 0 ∨ ∃ b off, a = some ⟨b, off, none⟩ ∧ b < B ∧ ∀ i, i < len → ∃ z : Int, w.cell? ⟨b, off + i, none⟩ = some (.int .u8 z) ∧ 0 ≤ z ∧ z ≤ 255

/-- a source at block B -/
def Src (w : World) (B : Nat) (a : Option Addr) (len cap : Nat) : Prop :=
  Row w B a len ∧ ∃ at_ mix size : Int, w.heap[B]? = some (.cells #[.slice a len cap, .int .i64 at_, .int .u64 mix, .int .i64 size] 104 (0, 0)) ∧
    0 ≤ at_ ∧ at_ ≤ len ∧ 0 ≤ mix ∧ mix ≤ 18446744073709551615 ∧ 0 ≤ size ∧ size ≤ 12

theorem wrap64_bd (x : Int) : 0 ≤ IntKind.u64.wrap x ∧ IntKind.u64.wrap x ≤ 18446744073709551615 := by rw [IntKind.wrap_u64]; omega

theorem xor_bd (x y : Int) (h0 : 0 ≤ x) (h1 : x ≤ 18446744073709551615) (h2 : 0 ≤ y) (h3 : y ≤ 18446744073709551615) :
    0 ≤ bits BinOp.xor IntKind.u64 x y ∧ bits BinOp.xor IntKind.u64 x y ≤ 18446744073709551615 := by
  obtain ⟨m, rfl⟩ := Int.eq_ofNat_of_zero_le h0
  obtain ⟨n, rfl⟩ := Int.eq_ofNat_of_zero_le h2
  rw [u64_xor_nat m n (by omega) (by omega)]
  have := Nat.xor_lt_two_pow (n := 64) (x := m) (y := n) (by omega) (by omega)
  omega

theorem sc1 {W : World} {p : Addr} {x : Value} (h : W.cell? p = some x) (v : Value) : (W.setCell p v).cell? p = some v := by
  exact World.cell?_setCell_same W p v h
theorem sc2 {W : World} {p : Addr} {x : Value} (h : W.cell? p = some x) (v v2 : Value) : ((W.setCell p v).setCell p v2).cell? p = some v2 := sc1 (sc1 h v) v2
theorem sc3 {W : World} {p : Addr} {x : Value} (h : W.cell? p = some x) (v v2 v3 : Value) : (((W.setCell p v).setCell p v2).setCell p v3).cell? p = some v3 := sc1 (sc2 h v v2) v3

/-- only block B has turned, and nothing is new -/
def Only (B : Nat) (w w' : World) : Prop := w'.os = w.os ∧ w'.tape = w.tape ∧ w'.output = w.output ∧ w'.heap.size = w.heap.size ∧ ∀ k, k ≠ B → w'.heap[k]? = w.heap[k]?

theorem Only.refl (B : Nat) (w : World) : Only B w w := ⟨rfl, rfl, rfl, rfl, fun _ _ => rfl⟩
theorem Only.drew {B : Nat} {w w' : World} (h : Only B w w') : Only B w w'.drew := h
theorem Only.drewN {B : Nat} (w : World) (n : Nat) : Only B w (w.drewN n) := ⟨rfl, rfl, rfl, rfl, fun _ _ => rfl⟩
theorem Only.set {B : Nat} {w w' : World} (h : Only B w w') (o : Nat) (v : Value) : Only B w (w'.setCell ⟨B, o, none⟩ v) :=
  ⟨h.1, h.2.1, h.2.2.1, by simpa [World.setCell] using h.2.2.2.1, fun k hk => (heap_setCell_other w' ⟨B, o, none⟩ k v hk).trans (h.2.2.2.2 k hk)⟩
theorem Only.trans {B : Nat} {a b c : World} (h : Only B a b) (k : Only B b c) : Only B a c :=
  ⟨k.1.trans h.1, k.2.1.trans h.2.1, k.2.2.1.trans h.2.2.1, k.2.2.2.1.trans h.2.2.2.1, fun i hi => (k.2.2.2.2 i hi).trans (h.2.2.2.2 i hi)⟩
theorem Only.below {B C : Nat} {w0 w w' : World} (hb : Below C w0 w) (h : Only B w w') (hC : C ≤ B) : Below C w0 w' :=
  hb.trans ⟨h.1, h.2.1, h.2.2.1, by rw [h.2.2.2.1]; exact Nat.le_refl _, fun k hk => h.2.2.2.2 k (by omega)⟩
theorem Only.row {B : Nat} {w w' : World} {a : Option Addr} {len : Nat} (h : Only B w w') (hr : Row w B a len) : Row w' B a len := by
  rcases hr with h0 | ⟨b, off, rfl, hb, hc⟩
  · exact .inl h0
  · refine .inr ⟨b, off, rfl, hb, fun i hi => ?_⟩
    obtain ⟨z, hz, h1, h2⟩ := hc i hi
    exact ⟨z, (World.cell?_of_block (w := w) (a := ⟨b, off + i, none⟩) (h.2.2.2.2 b (Nat.ne_of_lt hb))).trans hz, h1, h2⟩

theorem rem_bd (y most : Int) (h0 : 0 ≤ y) (h1 : 1 < most) (h2 : most ≤ 9223372036854775807) : 0 ≤ wrap64 (y.tmod most) ∧ wrap64 (y.tmod most) < most := by
  rw [Int.tmod_eq_emod_of_nonneg h0]
  have a1 := Int.emod_nonneg y (show most ≠ 0 by omega)
  have a2 := Int.emod_lt_of_pos y (show 0 < most by omega)
  simp only [wrap64]
  omega

/-- the source behind a draw: another place, other bits -/
theorem src_set {w w' : World} {B : Nat} {a : Option Addr} {len cap : Nat} {at_ mix size : Int} (hr : Row w B a len) (ho : Only B w w')
    (hb : w'.heap[B]? = some (.cells #[.slice a len cap, .int .i64 at_, .int .u64 mix, .int .i64 size] 104 (0, 0)))
    (h1 : 0 ≤ at_) (h2 : at_ ≤ len) (h3 : 0 ≤ mix ∧ mix ≤ 18446744073709551615) (h4 : 0 ≤ size) (h5 : size ≤ 12) : Src w' B a len cap :=
  ⟨ho.row hr, at_, mix, size, hb, h1, h2, h3.1, h3.2, h4, h5⟩

theorem blk_set {W : World} {B : Nat} {x0 x1 x2 x3 : Value} {T : TypeId} (h : W.heap[B]? = some (.cells #[x0, x1, x2, x3] T (0, 0))) (v : Value) :
    (W.setCell ⟨B, 2, none⟩ v).heap[B]? = some (.cells #[x0, x1, v, x3] T (0, 0)) := by
  rw [heap_setCell_same W B 2 _ T v h]; rfl
theorem blk_set1 {W : World} {B : Nat} {x0 x1 x2 x3 : Value} {T : TypeId} (h : W.heap[B]? = some (.cells #[x0, x1, x2, x3] T (0, 0))) (v : Value) :
    (W.setCell ⟨B, 1, none⟩ v).heap[B]? = some (.cells #[x0, v, x2, x3] T (0, 0)) := by
  rw [heap_setCell_same W B 1 _ T v h]; rfl

theorem step1 (m : Int) (h : 0 ≤ m ∧ m ≤ 18446744073709551615) (y : Int) : 0 ≤ bits BinOp.xor IntKind.u64 m (IntKind.u64.wrap y) ∧ bits BinOp.xor IntKind.u64 m (IntKind.u64.wrap y) ≤ 18446744073709551615 :=
  xor_bd m _ h.1 h.2 (wrap64_bd y).1 (wrap64_bd y).2
theorem step2 (m : Int) (h : 0 ≤ m ∧ m ≤ 18446744073709551615) : 0 ≤ bits BinOp.xor IntKind.u64 m (m / 128) ∧ bits BinOp.xor IntKind.u64 m (m / 128) ≤ 18446744073709551615 :=
  xor_bd m _ h.1 h.2 (by omega) (by omega)

set_option maxRecDepth 100000 in
set_option maxHeartbeats 2000000 in
theorem n_past (B : Nat) (a : Option Addr) (len cap : Nat) (most at_ mix size : Int) (w : World) (hm : 1 < most) (hm2 : most ≤ 9223372036854775807) (hr : Row w B a len)
    (hb : w.heap[B]? = some (.cells #[.slice a len cap, .int .i64 at_, .int .u64 mix, .int .i64 size] 104 (0, 0)))
    (h0 : 0 ≤ at_) (h1 : ¬ at_ < len) (h1' : at_ ≤ len) (h2 : 0 ≤ mix) (h3 : mix ≤ 18446744073709551615) (h4 : 0 ≤ size) (h5 : size ≤ 12) :
    Calls Try.prog 71 #[.pointer (some ⟨B, 0, none⟩), .int .i64 most] w fun e w' => ∃ r, e = .returned (.int .i64 r) ∧ 0 ≤ r ∧ r < most ∧ Src w' B a len cap ∧ Only B w w' := by
  have c0 : w.cell? ⟨B, 0, none⟩ = some (.slice a len cap) := by rw [cell_of_row w B 0 _ _ _ hb]; rfl
  have c1 : w.cell? ⟨B, 1, none⟩ = some (.int .i64 at_) := by rw [cell_of_row w B 1 _ _ _ hb]; rfl
  have c2 : w.cell? ⟨B, 2, none⟩ = some (.int .u64 mix) := by rw [cell_of_row w B 2 _ _ _ hb]; rfl
  have f := fun o => frozen_of_row w B o _ _ hb
  have HB := hideD hb
  have HR := hideD hr
  clear hb hr
  have s1 := fun n => sc1 (W := w.drewN n) (p := ⟨B, 2, none⟩) (x := .int .u64 mix) (by simpa using c2)
  have s2 := fun n => sc2 (W := w.drewN n) (p := ⟨B, 2, none⟩) (x := .int .u64 mix) (by simpa using c2)
  have s3 := fun n => sc3 (W := w.drewN n) (p := ⟨B, 2, none⟩) (x := .int .u64 mix) (by simpa using c2)
  go_enter Try.func71, Try.ntmps71
  go_wp2
  go_quiet (fail)
  go_wp2
  go_region
  go_wp2
  go_region
  go_wp2
  go_region
  go_wp2
  go_ret
  have k1 := step1 mix ⟨h2, h3⟩ (mix * 8192)
  have k2 := step2 _ k1
  have k3 := step1 _ k2 (bits BinOp.xor IntKind.u64 (bits BinOp.xor IntKind.u64 mix (IntKind.u64.wrap (mix * 8192))) (bits BinOp.xor IntKind.u64 mix (IntKind.u64.wrap (mix * 8192)) / 128) * 131072)
  exact ⟨_, rfl, (rem_bd _ most (wrap64_bd _).1 hm hm2).1, (rem_bd _ most (wrap64_bd _).1 hm hm2).2,
    src_set HR.out ((((Only.drewN w _).set 2 _).set 2 _).set 2 _).drew.drew (blk_set (blk_set (blk_set (W := w.drewN _) HB.out _) _) _) h0 h1' k3 h4 h5, ((((Only.drewN w _).set 2 _).set 2 _).set 2 _).drew.drew⟩
end Go.Proofs.Ytmkpakhpjgocjaa.Dr
