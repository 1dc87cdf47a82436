/- Plain mathematics of SHA-256: a text filled up to whole blocks. -/
import Derived.Test.YtghghkfhcpldhaaDoorShaBytes
namespace Go.Proofs.YtghghkfhcpldhaaDoor.Sh

/-- how many blocks -/
def chunks (m : Nat) : Nat := (m + 72) / 64
/-- the filled text, its last k bytes of the length written -/
def padK (t : ByteArray) (k j : Nat) : Nat :=
  if j < t.size then bt t j else if j = t.size then 128 else if chunks t.size * 64 ≤ j + k then t.size * 8 / 2 ^ (8 * (chunks t.size * 64 - 1 - j)) % 256 else 0
def pad (t : ByteArray) (j : Nat) : Nat := padK t 8 j

theorem padK_lt (t : ByteArray) (k j : Nat) : padK t k j < 256 := by
  unfold padK
  have := bt_lt t j
  split
  · exact this
  · split
    · decide
    · split
      · exact Nat.mod_lt _ (by decide)
      · decide
theorem pad_lt (t : ByteArray) (j : Nat) : pad t j < 256 := padK_lt t 8 j
theorem chunks_room (m : Nat) : m + 9 ≤ chunks m * 64 := by unfold chunks; omega
theorem chunks_tight (m : Nat) : chunks m * 64 ≤ m + 72 := by unfold chunks; omega

theorem pad_start (t : ByteArray) (j : Nat) : j < chunks t.size * 64 → upd (fun j => if j < t.size then ((bt t j : Nat) : Int) else 0) t.size 128 j = ((padK t 0 j : Nat) : Int) := by
  intro hj
  unfold upd padK
  by_cases e : j = t.size
  · subst e; simp
  · by_cases h : j < t.size
    · simp [e, h]
    · have : ¬ chunks t.size * 64 ≤ j := by omega
      simp [e, h, this]
theorem pad_next (t : ByteArray) (k : Nat) (hk : k < 8) (v : Int) (hv : v = ((t.size * 8 / 2 ^ (8 * k) % 256 : Nat) : Int)) (j : Nat) (hj : j < chunks t.size * 64) :
    upd (fun j => ((padK t k j : Nat) : Int)) (chunks t.size * 64 - 1 - k) v j = ((padK t (k + 1) j : Nat) : Int) := by
  subst hv
  have hr := chunks_room t.size
  unfold upd padK
  by_cases e : j = chunks t.size * 64 - 1 - k
  · have h1 : ¬ j < t.size := by omega
    have h2 : ¬ j = t.size := by omega
    have h3 : chunks t.size * 64 ≤ j + (k + 1) := by omega
    have h4 : chunks t.size * 64 - 1 - j = k := by omega
    rw [if_pos e, if_neg h1, if_neg h2, if_pos h3, h4]
  · rw [if_neg e]
    have : (chunks t.size * 64 ≤ j + (k + 1)) = (chunks t.size * 64 ≤ j + k) := propext ⟨fun h => by omega, fun h => by omega⟩
    simp only [this]
end Go.Proofs.YtghghkfhcpldhaaDoor.Sh
