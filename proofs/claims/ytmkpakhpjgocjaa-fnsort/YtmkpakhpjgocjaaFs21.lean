/- Texts put together: DrawPick, DrawText5. -/
import Derived.Test.YtmkpakhpjgocjaaFs20
import Derived.Test.YtmkpakhpjgocjaaFs13
/- One text of a list, drawn. -/
namespace Go.Proofs.Ytmkpakhpjgocjaa.Dr
open Go.RowKit
open Go.Proofs.Ytmkpakhpjgocjaa.St (IsS)

set_option maxRecDepth 100000 in
set_option maxHeartbeats 2000000 in
theorem pick_any (B g c : Nat) (a : Option Addr) (len cap : Nat) (t : TypeId) (l : List ByteArray) (w : World) (hl : len ≤ 1048576) (hs : Src w B a len cap) (hx : IsS w g t l) (hg : g ≠ B) (h0 : 0 < l.length) (hm : l.length ≤ 100) :
    Calls Try.prog 135 #[.pointer (some ⟨B, 0, none⟩), .slice (some ⟨g, 0, none⟩) l.length c] w fun e w' => ∃ s, s ∈ l ∧ e = .returned (.string s) ∧ Src w' B a len cap ∧ Only B w w' := by
  have HX := hideD hx
  have HM := hideD (fun (j : Nat) (hj : j < l.length) => List.getElem_mem hj)
  clear hx
  obtain ⟨n, hln⟩ : ∃ n, n = l.length := ⟨_, rfl⟩
  have HLN := hideD hln
  rw [← hln] at h0 hm ⊢
  clear hln
  go_enter Try.func135, Try.ntmps135
  go_wp2_with fail
  refine (n_any B a len cap n _ hl (by omega) hs).mono ?_
  rintro e w2 ⟨r, rfl, q0, q1, hs2, ho2⟩
  obtain ⟨i, rfl⟩ := Int.eq_ofNat_of_zero_le q0
  have hin : i < n := by omega
  have hil : i < l.length := by rw [← HLN.out]; exact hin
  have hce : w2.cell? ⟨g, i, none⟩ = some (.string l[i]) := by
    have h1 : IsS w2 g t l := by
      unfold IsS
      rw [ho2.2.2.2.2 g hg]
      exact HX.out
    exact h1.cell hil
  have HMI := hideD (HM.out i hil)
  generalize l[i] = s at hce HMI
  have HS2 := hideD hs2
  have HO2 := hideD ho2
  clear hs2 ho2 q0 q1 hs
  go_wp2_with fail
  go_ret
  exact ⟨s, HMI.out, rfl, HS2.out, HO2.out⟩
end Go.Proofs.Ytmkpakhpjgocjaa.Dr

/- The drawn texts of the laws on sorted blocks; weak on purpose: some short text. -/
namespace Go.Proofs.Ytmkpakhpjgocjaa.Dr
open Go.RowKit
open Go.Proofs.Ytmkpakhpjgocjaa.St (IsS)

def six5 : List ByteArray := [⟨#[]⟩, ⟨#[98, 97, 110, 97, 110, 97]⟩, ⟨#[97, 98, 97, 98]⟩, ⟨#[97, 97, 97, 97, 97, 97, 97, 97, 97, 97, 97, 97, 97, 97, 97, 97]⟩, ⟨#[97, 98, 114, 97, 99, 97, 100, 97, 98, 114, 97, 32, 97, 98, 114, 97, 99, 97, 100, 97, 98, 114, 97]⟩, ⟨#[97, 98]⟩]
def five5 : List ByteArray := [⟨#[97]⟩, ⟨#[98]⟩, ⟨#[97, 98]⟩, ⟨#[116, 104, 101, 32]⟩, ⟨#[97, 97, 97, 97]⟩]
theorem six5_is (W : World) (t : TypeId) : IsS (W.alloc (.cells #[.string ⟨#[]⟩, .string ⟨#[98, 97, 110, 97, 110, 97]⟩, .string ⟨#[97, 98, 97, 98]⟩, .string ⟨#[97, 97, 97, 97, 97, 97, 97, 97, 97, 97, 97, 97, 97, 97, 97, 97]⟩, .string ⟨#[97, 98, 114, 97, 99, 97, 100, 97, 98, 114, 97, 32, 97, 98, 114, 97, 99, 97, 100, 97, 98, 114, 97]⟩, .string ⟨#[97, 98]⟩] t)) W.heap.size t six5 := heap_alloc_last W _
theorem five5_is (W : World) (t : TypeId) : IsS (W.alloc (.cells #[.string ⟨#[97]⟩, .string ⟨#[98]⟩, .string ⟨#[97, 98]⟩, .string ⟨#[116, 104, 101, 32]⟩, .string ⟨#[97, 97, 97, 97]⟩] t)) W.heap.size t five5 := heap_alloc_last W _
theorem six5_le (s : ByteArray) (h : s ∈ six5) : s.size ≤ 23 := by
  simp only [six5, List.mem_cons, List.not_mem_nil, or_false] at h
  rcases h with rfl | rfl | rfl | rfl | rfl | rfl <;> decide
theorem five5_le (s : ByteArray) (h : s ∈ five5) : s.size ≤ 4 := by
  simp only [five5, List.mem_cons, List.not_mem_nil, or_false] at h
  rcases h with rfl | rfl | rfl | rfl | rfl <;> decide

set_option maxRecDepth 100000 in
set_option maxHeartbeats 4000000 in
theorem text5_any (B : Nat) (a : Option Addr) (len cap : Nat) (w : World) (hl : len ≤ 1048576) (hs : Src w B a len cap) :
    Calls Try.prog 101 #[.pointer (some ⟨B, 0, none⟩)] w fun e w' => ∃ s : ByteArray, s.size ≤ 32 ∧ e = .returned (.string s) ∧ Src w' B a len cap ∧ Aft B w w' := by
  have hB := hs.lt
  have HS := hideD hs
  clear hs
  go_enter Try.func101, Try.ntmps101
  go_wp2_with fail
  refine (n_any B a len cap 5 _ hl (by omega) HS.out).mono ?_
  rintro e w1 ⟨r, rfl, q0, q1, hs1, ho1⟩
  have HS1 := hideD hs1
  have HO1 := hideD ho1
  clear hs1 ho1
  by_cases h0 : r = 0
  · subst h0
    go_wp2_with fail
    refine (n_any B a len cap 12 _ hl (by omega) HS1.out).mono ?_
    rintro e w2 ⟨r2, rfl, p0, p1, hs2, ho2⟩
    obtain ⟨m, rfl⟩ := Int.eq_ofNat_of_zero_le p0
    have HB2 := hideD (bytes_any B a len cap m w2 hl (by omega) hs2)
    have HA2 := hideD ((HO1.out.trans ho2).aft)
    have hm32 : m ≤ 32 := by omega
    clear hs2 ho2 p0 p1
    go_wp2_with fail
    refine HB2.out.mono ?_
    rintro e w3 ⟨l, hlen, rfl, hs3, ha3⟩
    have HX : Hid (∃ s : ByteArray, s.size ≤ 32 ∧ Ending.returned (.string ⟨l.toArray⟩) = .returned (.string s) ∧ Src w3 B a len cap ∧ Aft B w w3) := ⟨⟨l.toArray⟩, by rw [show (⟨l.toArray⟩ : ByteArray).size = l.length from by simp [ByteArray.size], hlen]; exact hm32, rfl, hs3, HA2.out.trans ha3⟩
    clear hs3 ha3 hlen
    go_wp2_with fail
    go_ret
    exact HX.out
  · by_cases h1 : r = 1
    · subst h1
      have HP := hideD (fun W (h : Src W B a len cap) => pick_any B W.heap.size 6 a len cap 9 six5 (W.alloc (.cells #[.string ⟨#[]⟩, .string ⟨#[98, 97, 110, 97, 110, 97]⟩, .string ⟨#[97, 98, 97, 98]⟩, .string ⟨#[97, 97, 97, 97, 97, 97, 97, 97, 97, 97, 97, 97, 97, 97, 97, 97]⟩, .string ⟨#[97, 98, 114, 97, 99, 97, 100, 97, 98, 114, 97, 32, 97, 98, 114, 97, 99, 97, 100, 97, 98, 114, 97]⟩, .string ⟨#[97, 98]⟩] 9)) hl (h.below ((Below.refl _ _).alloc (Nat.le_refl _) _)) (six5_is W _) (by have := h.lt; omega) (by decide) (by decide))
      go_wp2_with fail
      refine (HP.out w1 HS1.out).mono ?_
      rintro e w2 ⟨s, hm, rfl, hs2, ho2⟩
      have HX : Hid (∃ s' : ByteArray, s'.size ≤ 32 ∧ Ending.returned (.string s) = .returned (.string s') ∧ Src w2 B a len cap ∧ Aft B w w2) := ⟨s, Nat.le_trans (six5_le s hm) (by decide), rfl, hs2, (HO1.out.aft.trans (aft_below ((Below.refl _ _).alloc (Nat.le_refl _) _))).trans ho2.aft⟩
      clear hs2 ho2 hm
      go_wp2_with fail
      go_ret
      exact HX.out
    · have e0 : (r == 0) = false := beq_eq_false_iff_ne.2 h0
      have e1 : (r == 1) = false := beq_eq_false_iff_ne.2 h1
      have HP := hideD (fun W (h : Src W B a len cap) => pick_any B W.heap.size 5 a len cap 9 five5 (W.alloc (.cells #[.string ⟨#[97]⟩, .string ⟨#[98]⟩, .string ⟨#[97, 98]⟩, .string ⟨#[116, 104, 101, 32]⟩, .string ⟨#[97, 97, 97, 97]⟩] 9)) hl (h.below ((Below.refl _ _).alloc (Nat.le_refl _) _)) (five5_is W _) (by have := h.lt; omega) (by decide) (by decide))
      clear h0 h1
      go_wp2_with fail
      refine (n_any B a len cap 8 _ hl (by omega) HS1.out).mono ?_
      rintro e w2 ⟨r2, rfl, p0, p1, hs2, ho2⟩
      obtain ⟨m, rfl⟩ := Int.eq_ofNat_of_zero_le p0
      have HS2 := hideD hs2
      have HA2 := hideD ((HO1.out.trans ho2).aft)
      have hm7 : m ≤ 7 := by omega
      clear hs2 ho2 p0 p1
      go_wp2_with fail
      go_loopw [4, 3] (fun i u wr => ∃ (k : Nat) (s : ByteArray), i = .int .i64 k ∧ k ≤ 7 ∧ u = .string s ∧ s.size + 4 * k ≤ 28 ∧ Src wr B a len cap ∧ Aft B w wr) (fun i _ _ => (intOf i).toNat)
      case atStart => exact ⟨m, ⟨#[]⟩, rfl, hm7, rfl, by simp [ByteArray.size]; omega, HS2.out, HA2.out⟩
      case round =>
        obtain ⟨k, s, rfl, hk, rfl, hsz, hs3, ha3⟩ := hrel
        have HS3 := hideD hs3
        have HA3 := hideD ha3
        clear hs3 ha3
        by_cases hlt : 0 < k
        · obtain ⟨kp, hkp⟩ : ∃ kp, k = kp + 1 := ⟨k - 1, by omega⟩
          have ek : (k : Int) - 1 = (kp : Int) := by omega
          have HK := hideD hkp
          have hkz : (0 : Int) < (k : Int) := by omega
          clear hkp
          go_wp2_with fail
          refine (HP.out wr HS3.out).mono ?_
          rintro e w4 ⟨s4, hm4, rfl, hs4, ho4⟩
          have HS4 := hideD hs4
          have HA4 := hideD ((HA3.out.trans (aft_below ((Below.refl _ _).alloc (Nat.le_refl _) _))).trans ho4.aft)
          have HL4 : Hid ((s ++ s4).size + 4 * kp ≤ 28) := by
            unfold Hid
            rw [ByteArray.size_append]
            have := five5_le s4 hm4
            have := HK.out
            omega
          have hs4z := five5_le s4 hm4
          clear hs4 ho4 hm4
          go_wp2_with fail
          go_roundw
          case rel => exact ⟨kp, s ++ s4, by go_num, by have := HK.out; omega, rfl, HL4.out, HS4.out, HA4.out⟩
          case measure => have := HK.out; simp [intOf]; omega
        · obtain rfl : k = 0 := by omega
          have HX : Hid (∃ s' : ByteArray, s'.size ≤ 32 ∧ Ending.returned (.string s) = .returned (.string s') ∧ Src wr B a len cap ∧ Aft B w wr) := ⟨s, by omega, rfl, HS3.out, HA3.out⟩
          go_wp2_with fail
          go_ret
          exact HX.out
end Go.Proofs.Ytmkpakhpjgocjaa.Dr
