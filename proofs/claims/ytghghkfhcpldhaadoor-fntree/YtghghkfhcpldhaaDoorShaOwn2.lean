/- A piece of a row of bytes as a text; a row of bytes that the call owns as a text; the digest's bytes, four by four. -/
import Derived.Test.YtghghkfhcpldhaaDoorShaOwn
import Derived.Test.YtghghkfhcpldhaaDoorShaAllB
namespace Go.Proofs.YtghghkfhcpldhaaDoor.Sh
open Go.RowKit

theorem OwnB.piece {P : Program} {w : World} {base g cap L : Nat} {f : Nat → Nat} (h : OwnB w base (.slice (some ⟨g, 0, none⟩) L cap) L f) (off m c : Nat) (hm : off + m ≤ L) (hf : ∀ j, f j < 256) {src dst e : TypeId}
    (hs : P.underlying src = some (.slice e)) (he : P.underlying e = some (.int .u8)) (hd : P.underlying dst = some .string) :
    (convert src dst (.slice (some ⟨g, off, none⟩) m c)).run P w = .ok (.string (strF m (fun j => f (off + j)))) w := by
  obtain ⟨g', cap', e1, _, _, _, _, hcl, _⟩ := h
  simp at e1
  obtain ⟨rfl, rfl⟩ := e1
  have hl : ((List.range m).map fun j => UInt8.ofNat (f (off + j))).length = m := by simp
  have := run_convert_bytes_back (P := P) w src dst e ⟨g, off, none⟩ c ((List.range m).map fun j => UInt8.ofNat (f (off + j))) hs he hd (by
    intro j hj
    rw [hl] at hj
    have hadd : (⟨g, off, none⟩ : Addr).add j = ⟨g, off + j, none⟩ := by unfold Addr.add; split <;> simp_all
    rw [hadd, hcl (off + j) (by omega)]
    have h3 := hf (off + j)
    simp
    omega)
  rw [hl] at this
  exact this

theorem own_str {P : Program} {w : World} {base e : Nat} {v : Value} {n : Nat} {f : Nat → Nat} (h : w.ownsRow base e 1 v n (rowF .u8 n (fun j => (f j : Nat))).toList) (hf : ∀ j, f j < 256) {src dst : TypeId}
    (hs : P.underlying src = some (.slice e)) (he : P.underlying e = some (.int .u8)) (hd : P.underlying dst = some .string) :
    (convert src dst v).run P w = .ok (.string (strF n f)) w := by
  have hl : ((List.range n).map fun j => UInt8.ofNat (f j)).length = n := by simp
  have hm : ((List.range n).map fun j => UInt8.ofNat (f j)).map Nu.bv = (rowF .u8 n (fun j => (f j : Nat))).toList := by
    simp only [rowF, List.map_map]
    apply List.map_congr_left
    intro j _
    have := hf j
    simp [Nu.bv]
    omega
  have := Nu.own_string (P := P) (src := src) (dst := dst) ((List.range n).map fun j => UInt8.ofNat (f j)) (by rw [hl, hm]; exact h) hs he hd
  exact this

theorem outF_at (s : Nat → Int) (j r : Nat) (hr : r < 4) : ((outF s (4 * j + r) : Nat) : Int) = s j / 2 ^ (24 - 8 * r) % 256 := by
  rw [← outF_cast]
  have h1 : (4 * j + r) / 4 = j := by omega
  have h2 : (4 * j + r) % 4 = r := by omega
  rw [h1, h2]
theorem out_four (s : Nat → Int) (j : Nat) (x0 x1 x2 x3 : Int) (h0 : x0 = s j / 16777216 % 256) (h1 : x1 = s j / 65536 % 256) (h2 : x2 = s j / 256 % 256) (h3 : x3 = s j % 256) :
    (rowF .u8 (4 * j) (fun q => (outF s q : Nat))).toList ++ [.int .u8 x0, .int .u8 x1, .int .u8 x2, .int .u8 x3] = (rowF .u8 (4 * (j + 1)) (fun q => (outF s q : Nat))).toList := by
  have e0 : x0 = ((outF s (4 * j) : Nat) : Int) := by rw [h0]; exact (outF_at s j 0 (by decide)).symm
  have e1 : x1 = ((outF s (4 * j + 1) : Nat) : Int) := by rw [h1]; exact (outF_at s j 1 (by decide)).symm
  have e2 : x2 = ((outF s (4 * j + 2) : Nat) : Int) := by rw [h2]; exact (outF_at s j 2 (by decide)).symm
  have e3 : x3 = ((outF s (4 * j + 3) : Nat) : Int) := by
    rw [h3, outF_at s j 3 (by decide)]
    simp
  rw [e0, e1, e2, e3, show 4 * (j + 1) = 4 * j + 1 + 1 + 1 + 1 by omega, ← rowF_snoc, ← rowF_snoc, ← rowF_snoc, ← rowF_snoc]
  simp
theorem four_new (W : World) (a b c d : Value) (t : TypeId) : ∀ (j : Nat) (u : Value), [a, b, c, d][j]? = some u → (W.alloc (.cells #[a, b, c, d] t)).cell? ((⟨W.heap.size, 0, none⟩ : Addr).add j) = some u := by
  intro j u hj
  match j, hj with
  | 0, hj => simp at hj; subst hj; simp [Addr.add]
  | 1, hj => simp at hj; subst hj; simp [Addr.add]
  | 2, hj => simp at hj; subst hj; simp [Addr.add]
  | 3, hj => simp at hj; subst hj; simp [Addr.add]
end Go.Proofs.YtghghkfhcpldhaaDoor.Sh
