/- Texts put together: DrawText5, DrawSort, FrontPlain. -/
import Derived.Test.YtmkpakhpjgocjaaCz17
import Derived.Test.YtmkpakhpjgocjaaCz16
import Derived.Test.YtmkpakhpjgocjaaShaBytes
import Derived.Test.YtmkpakhpjgocjaaCz4
import Derived.Test.YtmkpakhpjgocjaaShaRow
/- The drawn texts of the laws on sorted blocks; weak on purpose: some short text. -/
namespace Go.Proofs.Ytmkpakhpjgocjaa.Dr
open Go.RowKit
open Go.Proofs.Ytmkpakhpjgocjaa.St (IsS)

def six5 : List ByteArray := [⟨#[]⟩, ⟨#[98, 97, 110, 97, 110, 97]⟩, ⟨#[97, 98, 97, 98]⟩, ⟨#[97, 97, 97, 97, 97, 97, 97, 97, 97, 97, 97, 97, 97, 97, 97, 97]⟩, ⟨#[97, 98, 114, 97, 99, 97, 100, 97, 98, 114, 97, 32, 97, 98, 114, 97, 99, 97, 100, 97, 98, 114, 97]⟩, ⟨#[97, 98]⟩]
def five5 : List ByteArray := [⟨#[97]⟩, ⟨#[98]⟩, ⟨#[97, 98]⟩, ⟨#[116, 104, 101, 32]⟩, ⟨#[97, 97, 97, 97]⟩]
theorem six5_is (W : World) (t : TypeId) : IsS (W.alloc (.cells #[.string ⟨#[]⟩, .string ⟨#[98, 97, 110, 97, 110, 97]⟩, .string ⟨#[97, 98, 97, 98]⟩, .string ⟨#[97, 97, 97, 97, 97, 97, 97, 97, 97, 97, 97, 97, 97, 97, 97, 97]⟩, .string ⟨#[97, 98, 114, 97, 99, 97, 100, 97, 98, 114, 97, 32, 97, 98, 114, 97, 99, 97, 100, 97, 98, 114, 97]⟩, .string ⟨#[97, 98]⟩] t)) W.heap.size t six5 := heap_alloc_last W _
theorem five5_is (W : World) (t : TypeId) : IsS (W.alloc (.cells #[.string ⟨#[97]⟩, .string ⟨#[98]⟩, .string ⟨#[97, 98]⟩, .string ⟨#[116, 104, 101, 32]⟩, .string ⟨#[97, 97, 97, 97]⟩] t)) W.heap.size t five5 := heap_alloc_last W _
theorem six5_le (s : ByteArray) (h : s ∈ six5) : s.size ≤ 23 := by
  simp only [six5, List.mem_cons, List.not_mem_nil, or_false] at h
  rcases h with rfl | rfl | rfl | rfl | rfl | rfl <;> decide
theorem five5_le (s : ByteArray) (h : s ∈ five5) : s.size ≤ 4 := by
  simp only [five5, List.mem_cons, List.not_mem_nil, or_false] at h
  rcases h with rfl | rfl | rfl | rfl | rfl <;> decide

set_option maxRecDepth 100000 in
set_option maxHeartbeats 4000000 in
theorem text5_any (B : Nat) (a : Option Addr) (len cap : Nat) (w : World) (hl : len ≤ 1048576) (hs : Src w B a len cap) :
    Calls Try.prog 101 #[.pointer (some ⟨B, 0, none⟩)] w fun e w' => ∃ s : ByteArray, s.size ≤ 32 ∧ e = .returned (.string s) ∧ Src w' B a len cap ∧ Aft B w w' := by
  have hB := hs.lt
  have HS := hideD hs
  clear hs
  go_enter Try.func101, Try.ntmps101
  go_wp2_with fail
  refine (n_any B a len cap 5 _ hl (by omega) HS.out).mono ?_
  rintro e w1 ⟨r, rfl, q0, q1, hs1, ho1⟩
  have HS1 := hideD hs1
  have HO1 := hideD ho1
  clear hs1 ho1
  by_cases h0 : r = 0
  · subst h0
    go_wp2_with fail
    refine (n_any B a len cap 12 _ hl (by omega) HS1.out).mono ?_
    rintro e w2 ⟨r2, rfl, p0, p1, hs2, ho2⟩
    obtain ⟨m, rfl⟩ := Int.eq_ofNat_of_zero_le p0
    have HB2 := hideD (bytes_any B a len cap m w2 hl (by omega) hs2)
    have HA2 := hideD ((HO1.out.trans ho2).aft)
    have hm32 : m ≤ 32 := by omega
    clear hs2 ho2 p0 p1
    go_wp2_with fail
    refine HB2.out.mono ?_
    rintro e w3 ⟨l, hlen, rfl, hs3, ha3⟩
    have HX : Hid (∃ s : ByteArray, s.size ≤ 32 ∧ Ending.returned (.string ⟨l.toArray⟩) = .returned (.string s) ∧ Src w3 B a len cap ∧ Aft B w w3) := ⟨⟨l.toArray⟩, by rw [show (⟨l.toArray⟩ : ByteArray).size = l.length from by simp [ByteArray.size], hlen]; exact hm32, rfl, hs3, HA2.out.trans ha3⟩
    clear hs3 ha3 hlen
    go_wp2_with fail
    go_ret
    exact HX.out
  · by_cases h1 : r = 1
    · subst h1
      have HP := hideD (fun W (h : Src W B a len cap) => pick_any B W.heap.size 6 a len cap 9 six5 (W.alloc (.cells #[.string ⟨#[]⟩, .string ⟨#[98, 97, 110, 97, 110, 97]⟩, .string ⟨#[97, 98, 97, 98]⟩, .string ⟨#[97, 97, 97, 97, 97, 97, 97, 97, 97, 97, 97, 97, 97, 97, 97, 97]⟩, .string ⟨#[97, 98, 114, 97, 99, 97, 100, 97, 98, 114, 97, 32, 97, 98, 114, 97, 99, 97, 100, 97, 98, 114, 97]⟩, .string ⟨#[97, 98]⟩] 9)) hl (h.below ((Below.refl _ _).alloc (Nat.le_refl _) _)) (six5_is W _) (by have := h.lt; omega) (by decide) (by decide))
      go_wp2_with fail
      refine (HP.out w1 HS1.out).mono ?_
      rintro e w2 ⟨s, hm, rfl, hs2, ho2⟩
      have HX : Hid (∃ s' : ByteArray, s'.size ≤ 32 ∧ Ending.returned (.string s) = .returned (.string s') ∧ Src w2 B a len cap ∧ Aft B w w2) := ⟨s, Nat.le_trans (six5_le s hm) (by decide), rfl, hs2, (HO1.out.aft.trans (aft_below ((Below.refl _ _).alloc (Nat.le_refl _) _))).trans ho2.aft⟩
      clear hs2 ho2 hm
      go_wp2_with fail
      go_ret
      exact HX.out
    · have e0 : (r == 0) = false := beq_eq_false_iff_ne.2 h0
      have e1 : (r == 1) = false := beq_eq_false_iff_ne.2 h1
      have HP := hideD (fun W (h : Src W B a len cap) => pick_any B W.heap.size 5 a len cap 9 five5 (W.alloc (.cells #[.string ⟨#[97]⟩, .string ⟨#[98]⟩, .string ⟨#[97, 98]⟩, .string ⟨#[116, 104, 101, 32]⟩, .string ⟨#[97, 97, 97, 97]⟩] 9)) hl (h.below ((Below.refl _ _).alloc (Nat.le_refl _) _)) (five5_is W _) (by have := h.lt; omega) (by decide) (by decide))
      clear h0 h1
      go_wp2_with fail
      refine (n_any B a len cap 8 _ hl (by omega) HS1.out).mono ?_
      rintro e w2 ⟨r2, rfl, p0, p1, hs2, ho2⟩
      obtain ⟨m, rfl⟩ := Int.eq_ofNat_of_zero_le p0
      have HS2 := hideD hs2
      have HA2 := hideD ((HO1.out.trans ho2).aft)
      have hm7 : m ≤ 7 := by omega
      clear hs2 ho2 p0 p1
      go_wp2_with fail
      go_loopw [4, 3] (fun i u wr => ∃ (k : Nat) (s : ByteArray), i = .int .i64 k ∧ k ≤ 7 ∧ u = .string s ∧ s.size + 4 * k ≤ 28 ∧ Src wr B a len cap ∧ Aft B w wr) (fun i _ _ => (intOf i).toNat)
      case atStart => exact ⟨m, ⟨#[]⟩, rfl, hm7, rfl, by simp [ByteArray.size]; omega, HS2.out, HA2.out⟩
      case round =>
        obtain ⟨k, s, rfl, hk, rfl, hsz, hs3, ha3⟩ := hrel
        have HS3 := hideD hs3
        have HA3 := hideD ha3
        clear hs3 ha3
        by_cases hlt : 0 < k
        · obtain ⟨kp, hkp⟩ : ∃ kp, k = kp + 1 := ⟨k - 1, by omega⟩
          have ek : (k : Int) - 1 = (kp : Int) := by omega
          have HK := hideD hkp
          have hkz : (0 : Int) < (k : Int) := by omega
          clear hkp
          go_wp2_with fail
          refine (HP.out wr HS3.out).mono ?_
          rintro e w4 ⟨s4, hm4, rfl, hs4, ho4⟩
          have HS4 := hideD hs4
          have HA4 := hideD ((HA3.out.trans (aft_below ((Below.refl _ _).alloc (Nat.le_refl _) _))).trans ho4.aft)
          have HL4 : Hid ((s ++ s4).size + 4 * kp ≤ 28) := by
            unfold Hid
            rw [ByteArray.size_append]
            have := five5_le s4 hm4
            have := HK.out
            omega
          have hs4z := five5_le s4 hm4
          clear hs4 ho4 hm4
          go_wp2_with fail
          go_roundw
          case rel => exact ⟨kp, s ++ s4, by go_num, by have := HK.out; omega, rfl, HL4.out, HS4.out, HA4.out⟩
          case measure => have := HK.out; simp [intOf]; omega
        · obtain rfl : k = 0 := by omega
          have HX : Hid (∃ s' : ByteArray, s'.size ≤ 32 ∧ Ending.returned (.string s) = .returned (.string s') ∧ Src wr B a len cap ∧ Aft B w wr) := ⟨s, by omega, rfl, HS3.out, HA3.out⟩
          go_wp2_with fail
          go_ret
          exact HX.out
end Go.Proofs.Ytmkpakhpjgocjaa.Dr

/- The drawn texts of the law on sorted blocks: what is drawn for Bwt and for FrontOf. -/
namespace Go.Proofs.Ytmkpakhpjgocjaa.Dr
open Go.RowKit
open Go.Proofs.Ytmkpakhpjgocjaa.Sh (made_row strF strF_size)

set_option maxRecDepth 100000 in
set_option maxHeartbeats 2000000 in
theorem some5_any (B : Nat) (a : Option Addr) (len cap : Nat) (w : World) (hl : len ≤ 1048576) (hs : Src w B a len cap) :
    Calls Try.prog 97 #[.pointer (some ⟨B, 0, none⟩)] w fun e w' => ∃ s : ByteArray, s.size ≤ 50 ∧ e = .returned (.string s) ∧ Src w' B a len cap ∧ Aft B w w' := by
  obtain ⟨i0, hi0, hz0, hz1, hz2⟩ := info_parts Try.infoD5
  have HS := hideD hs
  clear hs
  go_enter Try.func97, Try.ntmps97
  go_wp2_with fail
  refine (one_any B a len cap 15 _ hl (by omega) HS.out).mono ?_
  rintro e w1 ⟨r, rfl, hs1, ho1⟩
  have HS1 := hideD hs1
  have HO1 := hideD ho1
  clear hs1 ho1
  cases r with
  | true =>
    go_wp2_with fail
    refine (n_any B a len cap 3 _ hl (by omega) HS1.out).mono ?_
    rintro e w2 ⟨r2, rfl, p0, p1, hs2, ho2⟩
    obtain ⟨m, rfl⟩ := Int.eq_ofNat_of_zero_le p0
    obtain ⟨n, hn⟩ : ∃ n : Nat, n = 47 + m := ⟨_, rfl⟩
    have en : 47 + (m : Int) = (n : Int) := by omega
    have hn50 : n ≤ 50 := by omega
    have HS2 := hideD hs2
    have HA2 := hideD (HO1.out.trans ho2).aft
    clear hs2 ho2 p0 p1 hn
    go_wp2_with (at_make; refine wpList_make_full _ rfl (.tmp 7) (.tmp 7) 22 rfl w2.heap.size 5 i0 (.int .u8 0) 1 Try.underlying22 hi0 hz0 hz1 .i64 .i64 _ _ n rfl rfl (by simp) (by simp) (by rw [hz2]; omega) (by unfold maxLen; omega) (Nat.le_refl _) ?_; intro w3 hown3 hgrow3; have hT3 := made_row hown3; have hb3 := (Below.refl w2.heap.size w2).grown hgrow3 (Nat.le_refl _) (by simp); have hcv := hT3.str (f := fun _ => 0) (P := Try.prog) (src := 22) (dst := 9) n n (Nat.le_refl _) (fun j _ => by decide) Try.underlying22 Try.underlying5 Try.underlying9; have HS3 := hideD (HS2.out.below hb3); have HA3 := hideD (HA2.out.trans (aft_below hb3)); clear hown3 hgrow3 hT3 hb3)
    go_ret
    exact ⟨_, by rw [strF_size]; exact hn50, rfl, HS3.out, HA3.out⟩
  | false =>
    go_wp2_with fail
    refine (text5_any B a len cap _ hl HS1.out).mono ?_
    rintro e w2 ⟨s, hs, rfl, hs2, ha2⟩
    have HX : Hid (∃ s' : ByteArray, s'.size ≤ 50 ∧ Ending.returned (.string s) = .returned (.string s') ∧ Src w2 B a len cap ∧ Aft B w w2) := ⟨s, by omega, rfl, hs2, HO1.out.aft.trans ha2⟩
    clear hs2 ha2
    go_wp2_with fail
    go_ret
    exact HX.out

set_option maxHeartbeats 1000000 in
theorem drawBwt_any (a : Option Addr) (len cap : Nat) (w : World) (hl : len ≤ 1048576) (hr : Row w w.heap.size a len) :
    Calls Try.prog 33 #[.slice a len cap] w fun e w' => ∃ s : ByteArray, s.size ≤ 50 ∧ e = .returned (.string s) ∧ Below w.heap.size w w' := by
  have HR := hideD hr
  clear hr
  go_enter Try.func33, Try.ntmps33
  go_wp2_with fail
  refine (source_any a len cap _ hl HR.out).mono ?_
  rintro e w1 ⟨rfl, hs1, hb1, hz⟩
  have HS1 := hideD hs1
  have HB1 := hideD hb1
  have z1 := hb1.size
  clear hs1 hb1 hz
  go_wp2_with fail
  refine (some5_any w.heap.size a len cap _ hl HS1.out).mono ?_
  rintro e w2 ⟨s, hs, rfl, hs2, ha2⟩
  have HB2 := hideD (ha2.below HB1.out (Nat.le_refl _) z1)
  clear hs2 ha2
  go_wp2_with fail
  go_ret
  exact ⟨s, hs, rfl, HB2.out⟩
set_option maxHeartbeats 1000000 in
theorem drawFrontOf_any (a : Option Addr) (len cap : Nat) (w : World) (hl : len ≤ 1048576) (hr : Row w w.heap.size a len) :
    Calls Try.prog 37 #[.slice a len cap] w fun e w' => ∃ s : ByteArray, s.size ≤ 32 ∧ e = .returned (.string s) ∧ Below w.heap.size w w' := by
  have HR := hideD hr
  clear hr
  go_enter Try.func37, Try.ntmps37
  go_wp2_with fail
  refine (source_any a len cap _ hl HR.out).mono ?_
  rintro e w1 ⟨rfl, hs1, hb1, hz⟩
  have HS1 := hideD hs1
  have HB1 := hideD hb1
  have z1 := hb1.size
  clear hs1 hb1 hz
  go_wp2_with fail
  refine (text5_any w.heap.size a len cap _ hl HS1.out).mono ?_
  rintro e w2 ⟨s, hs, rfl, hs2, ha2⟩
  have HB2 := hideD (ha2.below HB1.out (Nat.le_refl _) z1)
  clear hs2 ha2
  go_wp2_with fail
  go_ret
  exact ⟨s, hs, rfl, HB2.out⟩
end Go.Proofs.Ytmkpakhpjgocjaa.Dr

/- Plain mathematics of the row of all bytes: a byte is brought to its front, and looked for. -/
namespace Go.Proofs.Ytmkpakhpjgocjaa.Fr
open Go.RowKit
open Go.Proofs.Ytmkpakhpjgocjaa.Sh (upd)
open Go.Proofs.Ytmkpakhpjgocjaa.Ze (numsR hideZ)

/-- what is at a place comes to the front -/
def front (f : Nat → Int) (k : Nat) : Nat → Int := fun j => if j = 0 then f k else if j ≤ k then f (j - 1) else f j
/-- the row as it is at first -/
def row0 : Nat → Int := fun j => (j : Int)
/-- where a byte is, first of all -/
def look (f : Nat → Int) (c : Int) : Nat := (List.range 256).findIdx fun k => f k == c
/-- every byte is in the row; nothing else is -/
def Full (f : Nat → Int) : Prop := (∀ c : Nat, c < 256 → ∃ k, k < 256 ∧ f k = c) ∧ ∀ k, k < 256 → 0 ≤ f k ∧ f k < 256
theorem full0 : Full row0 := ⟨fun c h => ⟨c, h, rfl⟩, fun k h => by unfold row0; omega⟩
theorem front_zero (f : Nat → Int) (k : Nat) : front f k 0 = f k := if_pos rfl
theorem front_low (f : Nat → Int) (k j : Nat) (h0 : j ≠ 0) (h : j ≤ k) : front f k j = f (j - 1) := by
  unfold front
  rw [if_neg h0, if_pos h]
theorem front_high (f : Nat → Int) (k j : Nat) (h : k < j) : front f k j = f j := by
  unfold front
  rw [if_neg (by omega), if_neg (by omega)]
theorem Full.front {f : Nat → Int} (h : Full f) (k : Nat) (hk : k < 256) : Full (front f k) := by
  refine ⟨fun c hc => ?_, fun j hj => ?_⟩
  · obtain ⟨i, hi, e⟩ := h.1 c hc
    rcases Nat.lt_trichotomy i k with hl | hl | hl
    · exact ⟨i + 1, by omega, by rw [front_low f k (i + 1) (by omega) (by omega)]; exact e⟩
    · exact ⟨0, by omega, by rw [front_zero, ← hl]; exact e⟩
    · exact ⟨i, hi, by rw [front_high f k i hl]; exact e⟩
  · by_cases h0 : j = 0
    · subst h0; rw [front_zero]; exact h.2 k hk
    · by_cases h1 : j ≤ k
      · rw [front_low f k j h0 h1]; exact h.2 (j - 1) (by omega)
      · rw [front_high f k j (by omega)]; exact h.2 j hj
theorem look_of {f : Nat → Int} {c : Int} {k : Nat} (hk : k < 256) (h : f k = c) (hn : ∀ i, i < k → f i ≠ c) : look f c = k := by
  unfold look
  rw [List.findIdx_eq (by simpa using hk)]
  refine ⟨by simpa using h, fun j hj => by
    simpa using hn j hj⟩
theorem find_get (N : Nat) (p : Nat → Bool) (h : (List.range N).findIdx p < (List.range N).length) : p ((List.range N).findIdx p) = true := by
  have h1 := List.findIdx_getElem (xs := List.range N) (p := p) (w := h)
  have h2 : (List.range N)[(List.range N).findIdx p] = (List.range N).findIdx p := List.getElem_range h
  rw [h2] at h1
  exact h1
theorem look_some {f : Nat → Int} (hf : Full f) {c : Nat} (hc : c < 256) : look f c < 256 ∧ f (look f c) = c ∧ ∀ i, i < look f c → f i ≠ c := by
  obtain ⟨k, hk, e⟩ := hf.1 c hc
  have hlt : look f c < (List.range 256).length := by
    unfold look
    rw [List.findIdx_lt_length]
    exact ⟨k, by simpa using hk, by simpa using e⟩
  have h1 : look f c < 256 := by simpa using hlt
  refine ⟨h1, ?_, fun i hi => ?_⟩
  · exact beq_iff_eq.1 (find_get 256 (fun k => f k == (c : Int)) hlt)
  · have h2 : i < (List.range 256).findIdx fun k => f k == (c : Int) := hi
    have := List.not_of_lt_findIdx h2
    simpa using this

/-- the places told of the first bytes, and the row behind them -/
def fstep (s : List Int × (Nat → Int)) (c : UInt8) : List Int × (Nat → Int) := (s.1 ++ [(look s.2 c.toNat : Int)], front s.2 (look s.2 c.toNat))
def fst' (l : List UInt8) : List Int × (Nat → Int) := l.foldl fstep ([], row0)
theorem takeB {α : Type} {l : List α} {k : Nat} (h : k < l.length) : l.take (k + 1) = l.take k ++ [l[k]] := List.take_succ_eq_append_getElem h
theorem fst_more {l : List UInt8} {k : Nat} (h : k < l.length) : fst' (l.take (k + 1)) = ((fst' (l.take k)).1 ++ [(look (fst' (l.take k)).2 l[k].toNat : Int)], front (fst' (l.take k)).2 (look (fst' (l.take k)).2 l[k].toNat)) := by
  unfold fst'
  rw [takeB h, List.foldl_append]
  rfl
theorem fst_full (l : List UInt8) : ∀ k, k ≤ l.length → Full (fst' (l.take k)).2 ∧ (fst' (l.take k)).1.length = k := by
  intro k
  induction k with
  | zero => intro _; exact ⟨full0, rfl⟩
  | succ k ih =>
    intro hk
    obtain ⟨h1, h2⟩ := ih (by omega)
    rw [fst_more hk]
    refine ⟨h1.front _ (look_some h1 (c := l[k].toNat) (UInt8.toNat_lt _)).1, ?_⟩
    simp [h2]
/-- FrontOf -/
def frontR (l : List UInt8) : List Int := if l.length ≤ 400 then (fst' l).1 else []
theorem frontR_yes {l : List UInt8} (h : l.length ≤ 400) : frontR l = (fst' l).1 := if_pos h
theorem frontR_no {l : List UInt8} (h : 400 < l.length) : frontR l = [] := if_neg (by omega)
theorem frontR_len (l : List UInt8) : (frontR l).length ≤ 400 := by
  by_cases h : l.length ≤ 400
  · rw [frontR_yes h]
    have := (fst_full l l.length (Nat.le_refl _)).2
    rw [List.take_length] at this
    omega
  · rw [frontR_no (by omega)]
    exact Nat.zero_le _

/-- the bytes told by the first places, and the row behind them -/
def kstep (s : List UInt8 × (Nat → Int)) (n : Int) : List UInt8 × (Nat → Int) := (s.1 ++ [UInt8.ofNat (s.2 n.toNat).toNat], front s.2 n.toNat)
def kst (l : List Int) : List UInt8 × (Nat → Int) := l.foldl kstep ([], row0)
theorem kst_more {l : List Int} {k : Nat} (h : k < l.length) : kst (l.take (k + 1)) = ((kst (l.take k)).1 ++ [UInt8.ofNat ((kst (l.take k)).2 l[k].toNat).toNat], front (kst (l.take k)).2 l[k].toNat) := by
  unfold kst
  rw [takeB h, List.foldl_append]
  rfl
theorem kst_full (l : List Int) (hl : ∀ x ∈ l, 0 ≤ x ∧ x ≤ 255) : ∀ k, k ≤ l.length → Full (kst (l.take k)).2 ∧ (kst (l.take k)).1.length = k := by
  intro k
  induction k with
  | zero => intro _; exact ⟨full0, rfl⟩
  | succ k ih =>
    intro hk
    obtain ⟨h1, h2⟩ := ih (by omega)
    have := hl _ (List.getElem_mem (l := l) (n := k) hk)
    rw [kst_more hk]
    refine ⟨h1.front _ (by omega), ?_⟩
    simp [h2]
/-- FrontBack -/
def fbackR (l : List Int) : List UInt8 := if numsR l 255 = true then (kst l).1 else []
theorem fbackR_yes {l : List Int} (h : numsR l 255 = true) : fbackR l = (kst l).1 := if_pos h
theorem fbackR_no {l : List Int} (h : numsR l 255 = false) : fbackR l = [] := if_neg (by rw [h]; decide)

/-- what is told comes back -/
theorem kst_fst (l : List UInt8) : ∀ k, k ≤ l.length → kst (fst' (l.take k)).1 = (l.take k, (fst' (l.take k)).2) := by
  intro k
  induction k with
  | zero => intro _; rfl
  | succ k ih =>
    intro hk
    have hf := (fst_full l k (by omega)).1
    obtain ⟨h1, h2, _⟩ := look_some hf (c := l[k].toNat) (UInt8.toNat_lt _)
    rw [fst_more hk]
    simp only
    rw [kst, List.foldl_append]
    have e := ih (by omega)
    unfold kst at e
    rw [e]
    simp only [List.foldl_cons, List.foldl_nil, kstep]
    rw [takeB hk]
    congr 1
    · congr 1
      rw [Int.toNat_natCast, h2]
      simp
theorem front_back (l : List UInt8) (h : l.length ≤ 400) : fbackR (frontR l) = l := by
  have h0 := fst_full l l.length (Nat.le_refl _)
  have hk := kst_fst l l.length (Nat.le_refl _)
  rw [List.take_length] at h0 hk
  rw [frontR_yes h, fbackR_yes, hk]
  have hall : ∀ k, k ≤ l.length → ∀ x ∈ (fst' (l.take k)).1, 0 ≤ x ∧ x ≤ 255 := by
    intro k
    induction k with
    | zero => intro _ x hx; cases hx
    | succ k ih =>
      intro hk x hx
      have hf := (fst_full l k (by omega)).1
      obtain ⟨h1, _, _⟩ := look_some hf (c := l[k].toNat) (UInt8.toNat_lt _)
      rw [fst_more hk] at hx
      rcases List.mem_append.1 hx with hx | hx
      · exact ih (by omega) x hx
      · rw [List.mem_singleton.1 hx]
        omega
  have := hall l.length (Nat.le_refl _)
  rw [List.take_length] at this
  unfold numsR
  rw [decide_eq_true (by omega), Ze.upTo_of this]
  rfl
end Go.Proofs.Ytmkpakhpjgocjaa.Fr
