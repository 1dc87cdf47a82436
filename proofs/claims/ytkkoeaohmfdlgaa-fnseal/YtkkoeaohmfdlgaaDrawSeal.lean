/- The drawn texts and numbers of the law on seals: some text, some number; nothing that was there turns. -/
import Derived.Test.YtkkoeaohmfdlgaaDrawMore
import Derived.Test.YtkkoeaohmfdlgaaCrcSpecs
namespace Go.Proofs.Ytkkoeaohmfdlgaa.Dr
open Go.RowKit
open Go.Proofs.Ytkkoeaohmfdlgaa.Nu (bv own_string)

/-- what a walk is told of a slice of bytes that came in -/
def IsRow (k : IntKind) (w : World) (a : Option Addr) (len cap : Nat) (zs : List Int) : Prop :=
  (a = none ∧ len = 0 ∧ cap = 0 ∧ zs = []) ∨
  ∃ x, a = some x ∧ len ≤ cap ∧ cap ≤ maxLen ∧ zs.length = cap ∧ (∀ i, i < zs.length → w.cell? (x.add i) = some (.int k (zs.getD i 0))) ∧ ∀ n ∈ zs, (Lit.int k n).wf = true

theorem row_of {w : World} {a : Option Addr} {len cap : Nat} {zs : List Int} (h : IsRow .u8 w a len cap zs) : Row w w.heap.size a len := by
  rcases h with ⟨_, rfl, _⟩ | ⟨x, rfl, hlc, _, hz, hc, hw⟩
  · exact .inl rfl
  · rcases Nat.eq_zero_or_pos len with h0 | h0
    · exact .inl h0
    · obtain ⟨b, off, spot⟩ := x
      have hc0 := hc 0 (by omega)
      have hspot : spot = none := by simpa [Addr.add] using World.cell?_spot hc0
      subst hspot
      have e : ∀ i, (⟨b, off, none⟩ : Addr).add i = ⟨b, off + i, none⟩ := fun i => by unfold Addr.add; split <;> simp_all
      have hlt := World.block_lt_of_cell? w _ hc0
      rw [e 0] at hlt
      refine .inr ⟨b, off, rfl, hlt, fun i hi => ⟨zs.getD i 0, by rw [← e i]; exact hc i (by omega), ?_⟩⟩
      have hi' : i < zs.length := by omega
      have hm : zs.getD i 0 ∈ zs := by rw [List.getD_eq_getElem?_getD, List.getElem?_eq_getElem hi']; exact List.getElem_mem hi'
      have := hw _ hm
      simpa [Lit.wf, IntKind.min, IntKind.max, IntKind.signed, IntKind.bits] using this

theorem Row.below {w w' : World} {B : Nat} {a : Option Addr} {len : Nat} (h : Row w B a len) (hb : Below B w w') : Row w' B a len := by
  rcases h with h0 | ⟨b, off, rfl, hlt, hc⟩
  · exact .inl h0
  · refine .inr ⟨b, off, rfl, hlt, fun i hi => ?_⟩
    obtain ⟨z, hz, z1, z2⟩ := hc i hi
    exact ⟨z, (hb.cell (p := ⟨b, off + i, none⟩) hlt).trans hz, z1, z2⟩
theorem Row.mono {w : World} {B C : Nat} {a : Option Addr} {len : Nat} (h : Row w B a len) (hBC : B ≤ C) : Row w C a len := by
  rcases h with h0 | ⟨b, off, rfl, hlt, hc⟩
  · exact .inl h0
  · exact .inr ⟨b, off, rfl, Nat.lt_of_lt_of_le hlt hBC, hc⟩

def edges : List Int := [0, 1, -1, 2, 1000, 1001, 2147483648, 2147483647, -2147483648, 4611686018427387904, 9223372036854775807, -9223372036854775808, 1000000, 1000001]

theorem edges_bd (j : Nat) (h : j < 14) : -9223372036854775808 ≤ edges.getD j 0 ∧ edges.getD j 0 ≤ 9223372036854775807 := by
  have : ∀ j : Fin 14, -9223372036854775808 ≤ edges.getD j.val 0 ∧ edges.getD j.val 0 ≤ 9223372036854775807 := by decide
  exact this ⟨j, h⟩

set_option maxRecDepth 100000 in
set_option maxHeartbeats 2000000 in
theorem edge_any (B : Nat) (a : Option Addr) (len cap : Nat) (w : World) (hl : len ≤ 1048576) (hs : Src w B a len cap) :
    Calls Try.prog 22 #[.pointer (some ⟨B, 0, none⟩)] w fun e w' => ∃ v : Int, e = .returned (.int .i64 v) ∧ -9223372036854775808 ≤ v ∧ v ≤ 9223372036854775807 ∧ Aft B w w' := by
  have hB := hs.lt
  have HS := hideD hs
  clear hs
  go_enter Try.func22, Try.ntmps22
  go_wp2_with fail
  refine (n_any B a len cap 14 _ hl (by omega) (HS.out.below ((Below.refl _ _).alloc (Nat.le_refl _) _))).mono ?_
  rintro e w1 ⟨r, rfl, r0, r1, hs1, ho1⟩
  obtain ⟨j, rfl⟩ := Int.eq_ofNat_of_zero_le r0
  have hj : j < 14 := by omega
  have hcell : w1.cell? ⟨w.heap.size, j, none⟩ = some (.int .i64 (edges.getD j 0)) := by
    refine (World.cell?_of_block (w := w.alloc _) (a := ⟨w.heap.size, j, none⟩) (ho1.2.2.2.2 w.heap.size (by omega))).trans ?_
    rw [cell_of_row _ _ j _ _ _ (heap_alloc_new w _)]
    show ((edges.map (Value.int .i64)).toArray)[j]? = _
    have hj' : j < edges.length := hj
    rw [List.getElem?_toArray, List.getElem?_map, List.getElem?_eq_getElem hj', List.getD_eq_getElem?_getD, List.getElem?_eq_getElem hj']
    rfl
  have HA := hideD ((aft_below (B := B) ((Below.refl w.heap.size w).alloc (Nat.le_refl _) _)).trans ho1.aft)
  have hbd := edges_bd j hj
  have g1 : (j : Int) < 14 := by omega
  generalize edges.getD j 0 = v at hcell hbd
  clear hs1 ho1 r1
  go_wp2
  go_ret
  exact ⟨v, rfl, hbd.1, hbd.2, HA.out⟩

theorem zeros_map (n : Nat) : (List.replicate n (0 : UInt8)).map bv = (madeCells (Value.int .u8 0).cells n).toList := by
  rw [List.map_replicate]
  exact (toList_madeCells_one (.int .u8 0) n).symm

def zeroS (n : Nat) : ByteArray := ⟨(List.replicate n (0 : UInt8)).toArray⟩
theorem zeroS_size (n : Nat) : (zeroS n).size = n := by simp [zeroS, ByteArray.size]
theorem zero_string {P : Program} {w : World} {base e src dst : TypeId} {v : Value} (n : Nat) (h : w.ownsRow base e 1 v n (madeCells (Value.int .u8 0).cells n).toList)
    (hs : P.underlying src = some (.slice e)) (he : P.underlying e = some (.int .u8)) (hd : P.underlying dst = some .string) : (convert src dst v).run P w = .ok (.string (zeroS n)) w :=
  own_string (List.replicate n (0 : UInt8)) (by rw [zeros_map, List.length_replicate]; exact h) hs he hd

set_option maxRecDepth 100000 in
set_option maxHeartbeats 2000000 in
theorem drawSeal_any (a : Option Addr) (len cap : Nat) (w : World) (hl : len ≤ 1048576) (hr : Row w w.heap.size a len) :
    Calls Try.prog 4 #[.slice a len cap] w fun e w' => ∃ t : ByteArray, t.size ≤ 30000 ∧ e = .returned (.string t) ∧ Below w.heap.size w w' := by
  obtain ⟨i0, hi, hz0, hz1, hz2⟩ := info_parts Try.infoD5
  have HR := hideD hr
  clear hr
  go_enter Try.func4, Try.ntmps4
  go_wp2_with fail
  refine (source_any a len cap _ hl HR.out).mono ?_
  rintro e w1 ⟨rfl, hs1, hb1, hz⟩
  have HB1 := hideD hb1
  clear hb1
  go_wp2_with fail
  refine (one_any w.heap.size a len cap 30 _ hl (by omega) hs1).mono ?_
  rintro e w2 ⟨c, rfl, hs2, ho2⟩
  have HB2 := hideD (ho2.below HB1.out (Nat.le_refl _))
  have HSZ := hideD ho2.2.2.2.1
  clear ho2 hs1
  cases c
  · go_wp2_with fail
    refine (n_any w.heap.size a len cap 20 _ hl (by omega) hs2).mono ?_
    rintro e w3 ⟨r, rfl, r0, r1, hs3, ho3⟩
    obtain ⟨m, rfl⟩ := Int.eq_ofNat_of_zero_le r0
    have HB3 := hideD (ho3.below HB2.out (Nat.le_refl _))
    have hz3 : w.heap.size ≤ w3.heap.size := HB3.out.size
    clear ho3 hs2
    go_wp2_with fail
    refine (bytes_any w.heap.size a len cap m _ hl (by omega) hs3).mono ?_
    rintro e w4 ⟨l, hl4, rfl, hs4, ha4⟩
    have HB4 := hideD (ha4.below HB3.out (Nat.le_refl _) hz3)
    clear ha4 hs4 hs3
    go_wp2
    go_ret
    exact ⟨⟨l.toArray⟩, by show l.toArray.size ≤ 30000; simp; omega, rfl, HB4.out⟩
  · go_wp2_with fail
    refine (n_any w.heap.size a len cap 3 _ hl (by omega) hs2).mono ?_
    rintro e w3 ⟨r, rfl, r0, r1, hs3, ho3⟩
    obtain ⟨m, rfl⟩ := Int.eq_ofNat_of_zero_le r0
    have hm : m ≤ 3 := by omega
    have HB3 := hideD (ho3.below HB2.out (Nat.le_refl _))
    have hz3 : w.heap.size ≤ w3.heap.size := HB3.out.size
    clear ho3 hs2 hs3
    go_wp2_with (at_make; refine wpList_make_full _ rfl (.tmp 10) (.tmp 10) 22 rfl w.heap.size 5 i0 (.int .u8 0) 1 Try.underlying22 hi hz0 hz1 .i64 .i64 _ _ (19995 + m) rfl rfl (by omega) (by omega) (by rw [hz2]; omega) (by unfold maxLen; omega) hz3 ?_; intro w4 hown4 hgrow4; have hb4 := HB3.out.grown hgrow4 hz3 (by simp); have hconv := zero_string (P := Try.prog) (src := 22) (dst := 9) (19995 + m) (by simpa using hown4) Try.underlying22 Try.underlying5 Try.underlying9; clear hown4 hgrow4)
    go_ret
    exact ⟨zeroS (19995 + m), by rw [zeroS_size]; omega, rfl, by assumption⟩
end Go.Proofs.Ytkkoeaohmfdlgaa.Dr
