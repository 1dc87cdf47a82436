/- Bytes that came in, as a source of draws sees them; and a text of zeros. -/
import Derived.Test.YtghghkfhcpldhaaDoorDrawMore
namespace Go.Proofs.YtghghkfhcpldhaaDoor.Dr
open Go.RowKit
open Go.Proofs.YtghghkfhcpldhaaDoor.Nu (bv own_string)

/-- what a walk is told of a slice of bytes that came in -/
def IsRow (k : IntKind) (w : World) (a : Option Addr) (len cap : Nat) (zs : List Int) : Prop :=
  (a = none ∧ len = 0 ∧ cap = 0 ∧ zs = []) ∨
  ∃ x, a = some x ∧ len ≤ cap ∧ cap ≤ maxLen ∧ zs.length = cap ∧ (∀ i, i < zs.length → w.cell? (x.add i) = some (.int k (zs.getD i 0))) ∧ ∀ n ∈ zs, (Lit.int k n).wf = true

theorem row_of {w : World} {a : Option Addr} {len cap : Nat} {zs : List Int} (h : IsRow .u8 w a len cap zs) : Row w w.heap.size a len := by
  rcases h with ⟨_, rfl, _⟩ | ⟨x, rfl, hlc, _, hz, hc, hw⟩
  · exact .inl rfl
  · rcases Nat.eq_zero_or_pos len with h0 | h0
    · exact .inl h0
    · obtain ⟨b, off, spot⟩ := x
      have hc0 := hc 0 (by omega)
      have hspot : spot = none := by simpa [Addr.add] using World.cell?_spot hc0
      subst hspot
      have e : ∀ i, (⟨b, off, none⟩ : Addr).add i = ⟨b, off + i, none⟩ := fun i => by unfold Addr.add; split <;> simp_all
      have hlt := World.block_lt_of_cell? w _ hc0
      rw [e 0] at hlt
      refine .inr ⟨b, off, rfl, hlt, fun i hi => ⟨zs.getD i 0, by rw [← e i]; exact hc i (by omega), ?_⟩⟩
      have hi' : i < zs.length := by omega
      have hm : zs.getD i 0 ∈ zs := by rw [List.getD_eq_getElem?_getD, List.getElem?_eq_getElem hi']; exact List.getElem_mem hi'
      have := hw _ hm
      simpa [Lit.wf, IntKind.min, IntKind.max, IntKind.signed, IntKind.bits] using this

theorem Row.below {w w' : World} {B : Nat} {a : Option Addr} {len : Nat} (h : Row w B a len) (hb : Below B w w') : Row w' B a len := by
  rcases h with h0 | ⟨b, off, rfl, hlt, hc⟩
  · exact .inl h0
  · refine .inr ⟨b, off, rfl, hlt, fun i hi => ?_⟩
    obtain ⟨z, hz, z1, z2⟩ := hc i hi
    exact ⟨z, (hb.cell (p := ⟨b, off + i, none⟩) hlt).trans hz, z1, z2⟩
theorem Row.mono {w : World} {B C : Nat} {a : Option Addr} {len : Nat} (h : Row w B a len) (hBC : B ≤ C) : Row w C a len := by
  rcases h with h0 | ⟨b, off, rfl, hlt, hc⟩
  · exact .inl h0
  · exact .inr ⟨b, off, rfl, Nat.lt_of_lt_of_le hlt hBC, hc⟩

theorem zeros_map (n : Nat) : (List.replicate n (0 : UInt8)).map bv = (madeCells (Value.int .u8 0).cells n).toList := by
  rw [List.map_replicate]
  exact (toList_madeCells_one (.int .u8 0) n).symm

def zeroS (n : Nat) : ByteArray := ⟨(List.replicate n (0 : UInt8)).toArray⟩
theorem zeroS_size (n : Nat) : (zeroS n).size = n := by simp [zeroS, ByteArray.size]
theorem zero_string {P : Program} {w : World} {base e src dst : TypeId} {v : Value} (n : Nat) (h : w.ownsRow base e 1 v n (madeCells (Value.int .u8 0).cells n).toList)
    (hs : P.underlying src = some (.slice e)) (he : P.underlying e = some (.int .u8)) (hd : P.underlying dst = some .string) : (convert src dst v).run P w = .ok (.string (zeroS n)) w :=
  own_string (List.replicate n (0 : UInt8)) (by rw [zeros_map, List.length_replicate]; exact h) hs he hd
end Go.Proofs.YtghghkfhcpldhaaDoor.Dr
