/- Texts put together: SealMath, UnAns, GetSpec, DrawBase. -/
import Derived.Test.YtjdlgpnhkfdehaaGreatDoorBu34
import Derived.Test.YtjdlgpnhkfdehaaGreatDoorBu18
import Derived.WalkKit
import Derived.WalkSpells
import Derived.WalkLawsBesides
import Derived.Test.YtjdlgpnhkfdehaaGreatDoorChecked
import Derived.BigRegion
import Derived.Deep.QuietTactic
import Derived.BigQuiet
import Derived.Laws.BitsAllLaws
/- Plain mathematics of seals: the register's steps lose nothing, so that a text with one byte turned has another CRC; and a CRC goes on from text to text. -/
namespace Go.Proofs.YtjdlgpnhkfdehaaGreatDoor.Se
def sealL (l : List UInt8) : List UInt8 := l ++ fourL (Cr.fin (Cr.crcL (Cr.fin 0) l))
theorem unseal_back (t : ByteArray) (ht : t.size ≤ 7996) : unsealV (sealV t) = outV t 0 0 := by
  have hs : sealV t = t ++ fourS (crcOf t) := by unfold sealV; rw [if_pos ht]
  have hz : (sealV t).size = t.size + 4 := by rw [hs]; simp [ByteArray.size_append, fourS_size]
  have hx : (sealV t).extract 0 ((sealV t).size - 4) = t := by
    rw [hz, hs, Nat.add_sub_cancel]
    exact ByteArray.extract_append_eq_left rfl
  unfold unsealV
  rw [if_neg (by omega), if_neg (by omega), hx, if_pos rfl]
end Go.Proofs.YtjdlgpnhkfdehaaGreatDoor.Se


/- Plain mathematics of BlockUnpack: what it answers, whatever text it is given. -/
namespace Go.Proofs.YtjdlgpnhkfdehaaGreatDoor.Up
open Go.Proofs.YtjdlgpnhkfdehaaGreatDoor.Pk
open Go.Proofs.YtjdlgpnhkfdehaaGreatDoor.Se (sealV unsealV outV unseal_back unsealV_yes unsealV_no)
open Go.Proofs.YtjdlgpnhkfdehaaGreatDoor.Sh (bt)
theorem unseal_case (s : ByteArray) : (∃ t, unsealV s = outV t 0 0 ∧ sealV t = s ∧ t.size ≤ 7996 ∧ 4 ≤ s.size) ∨ ∃ c : Int, ¬ c = 0 ∧ unsealV s = outV ⟨#[]⟩ 0 c := by
  by_cases h1 : 8000 < s.size
  · refine .inr ⟨2, by decide, ?_⟩
    unfold unsealV
    rw [if_pos h1]
  · by_cases h2 : s.size < 4
    · refine .inr ⟨4, by decide, ?_⟩
      unfold unsealV
      rw [if_neg h1, if_pos h2]
    · by_cases h : sealV (s.extract 0 (s.size - 4)) = s
      · refine .inl ⟨_, unsealV_yes s _ h1 h2 rfl h, h, ?_, by omega⟩
        rw [ByteArray.size_extract]
        omega
      · exact .inr ⟨5, by decide, unsealV_no s _ h1 h2 rfl h⟩
noncomputable def ansT (t : ByteArray) : Value := open Classical in if h : ∃ b : ByteArray, b.size ≤ 48 ∧ innerV b = t then outV (Classical.choose h) 0 0 else outV ⟨#[]⟩ 0 3
noncomputable def ansU (s : ByteArray) : Value := open Classical in if h : ∃ t, unsealV s = outV t 0 0 then ansT (Classical.choose h) else unsealV s
theorem ansU_yes {s t : ByteArray} (h : unsealV s = outV t 0 0) : ansU s = ansT t := by
  have hx : ∃ t, unsealV s = outV t 0 0 := ⟨t, h⟩
  unfold ansU
  rw [dif_pos hx]
  have e := h.symm.trans (Classical.choose_spec hx)
  generalize Classical.choose hx = c at e ⊢
  unfold outV at e
  simp at e
  rw [e]
theorem ansU_no {s : ByteArray} {c : Int} (h0 : ¬ c = 0) (h : unsealV s = outV ⟨#[]⟩ 0 c) : ansU s = outV ⟨#[]⟩ 0 c := by
  have hx : ¬ ∃ t, unsealV s = outV t 0 0 := by
    rintro ⟨t, ht⟩
    rw [h] at ht
    unfold outV at ht
    simp at ht
    exact h0 ht.2
  unfold ansU
  rw [dif_neg hx, h]
theorem inner_size {b : ByteArray} (h : b.size ≤ 48) : (innerV b).size ≤ 49 := by
  unfold innerV
  split
  · omega
  · rw [plainV_size]; omega
theorem pack_inner {s t b : ByteArray} (h : sealV t = s) (ht : t.size ≤ 7996) (h4 : 4 ≤ s.size) : packB b = s ↔ b.size ≤ 48 ∧ innerV b = t := by
  unfold packB
  by_cases hb : 48 < b.size
  · rw [if_pos hb]
    constructor
    · intro e
      rw [← e] at h4
      exact absurd h4 (by decide)
    · intro e
      omega
  · rw [if_neg hb]
    have hi := inner_size (b := b) (by omega)
    constructor
    · intro e
      refine ⟨by omega, ?_⟩
      have h1 := unseal_back (innerV b) (by omega)
      have h2 := unseal_back t ht
      rw [e, ← h] at h1
      rw [h1] at h2
      unfold outV at h2
      simp at h2
      exact h2
    · intro e
      rw [e.2, h]
theorem ansT_read {s t r : ByteArray} (h : sealV t = s) (ht : t.size ≤ 7996) (h4 : 4 ≤ s.size) (hr : ∀ b : ByteArray, b.size ≤ 48 → innerV b = t → r = b) : (packB r = s → ansT t = outV r 0 0) ∧ (¬ packB r = s → ansT t = outV ⟨#[]⟩ 0 3) := by
  refine ⟨fun e => ?_, fun e => ?_⟩
  · have hx : ∃ b : ByteArray, b.size ≤ 48 ∧ innerV b = t := ⟨r, (pack_inner h ht h4).1 e⟩
    unfold ansT
    rw [dif_pos hx]
    have := Classical.choose_spec hx
    rw [← hr _ this.1 this.2]
  · unfold ansT
    rw [dif_neg]
    rintro ⟨b, h1, h2⟩
    refine e ?_
    rw [hr b h1 h2]
    exact (pack_inner h ht h4).2 ⟨h1, h2⟩
theorem ansT_none {t : ByteArray} (hr : ∀ b : ByteArray, b.size ≤ 48 → ¬ innerV b = t) : ansT t = outV ⟨#[]⟩ 0 3 := by
  unfold ansT
  rw [dif_neg]
  rintro ⟨b, h1, h2⟩
  exact hr b h1 h2
theorem inner_case {t b : ByteArray} (h : b.size ≤ 48) (ht : innerV b = t) : (Good t b ∧ 0 < t.size ∧ bt t 0 = 1) ∨ (t = plainV b ∧ 0 < t.size ∧ bt t 0 = 0 ∧ t.extract 1 t.size = b) := by
  unfold innerV at ht
  split at ht
  · rename_i hc
    refine .inl ⟨⟨h, ht.symm, hc⟩, ?_, ?_⟩
    · rw [← ht]
      show 0 < (shortL b).toArray.size
      rw [List.size_toArray]
      unfold shortL
      simp
    · rw [← ht]
      rfl
  · refine .inr ⟨ht.symm, ?_, ?_, ?_⟩
    · rw [← ht, plainV_size]; omega
    · rw [← ht]
      rfl
    · rw [← ht]
      refine Bi.ext_list ?_
      rw [ByteArray.data_extract, Array.toList_extract, List.extract_eq_take_drop, plainV_size]
      show (List.drop 1 (0 :: b.data.toList)).take _ = _
      rw [List.drop_one, List.tail_cons, List.take_of_length_le]
      rw [Array.length_toList]
      show b.size ≤ _
      omega
end Go.Proofs.YtjdlgpnhkfdehaaGreatDoor.Up


/- The walk of spec.GetNum: it answers Gn.getV of its text and place, and writes nothing that was there. -/
namespace Go.Proofs.YtjdlgpnhkfdehaaGreatDoor.Gn
open Go.RowKit
set_option maxRecDepth 100000 in
set_option maxHeartbeats 1000000 in
theorem get_in (s : ByteArray) (a : Nat) (w : World) (hs : s.size ≤ 8000) (ha : a < s.size) :
    Calls Tryz.prog 84 #[.string s, .int .i64 a] w fun e w' => e = .returned (resV (numR s a)) ∧ Below w.heap.size w w' := by
  go_enter Tryz.func84, Tryz.ntmps84
  go_wp2
  go_loop [5, 6, 7, 8] (fun u i _ _ => ∃ k v : Nat, k ≤ 9 ∧ i = .int .i64 k ∧ u = .int .u64 v ∧ v < 2 ^ (7 * k) ∧ numR s a = run s (10 - k) k (a + k) v) (fun _ i _ _ => 10 - (intOf i).toNat)
  case atStart => exact ⟨0, 0, by omega, rfl, rfl, by decide, rfl⟩
  case round =>
    obtain ⟨k, v, hk, rfl, rfl, hv, hr⟩ := hrel
    have HV := hide hv
    have HR := hide hr
    have HK := hide hk
    have hvb : v ≤ 9223372036854775807 := by have := pow_le k hk; omega
    clear hv hr
    obtain ⟨f, hf⟩ : ∃ f, 10 - k = f + 1 := ⟨9 - k, by omega⟩
    have HF := hide hf
    clear hf
    by_cases hp : a + k < s.size
    · have hb : s[a + k].toNat < 256 := s[a + k].toNat_lt
      by_cases h9 : k = 9 ∧ 1 < s[a + k].toNat
      · have hk9 : ((k : Int) == 9) = true := beq_iff_eq.2 (by omega)
        have hc1 : (1 : Int) < s[a + k].toNat := by omega
        have HE : Hid (numR s a = (0, 0, 3)) := HR.out.trans (by rw [HF.out]; exact run_nine s f k (a + k) v hp h9.1 h9.2)
        have HH := hide h9
        clear h9
        go_wp2
        refine bodyPost_ret (v := outN 0 0 3) (by simp [results, outN, Tryz.results84, go_sem]) rfl ⟨by rw [HE.out]; rfl, (Below.refl _ _).alloc (Nat.le_refl _) _⟩
      · obtain ⟨x, hx⟩ : ∃ x, x = v + s[a + k].toNat % 128 * 2 ^ (7 * k) := ⟨_, rfl⟩
        obtain ⟨hm1, hm2⟩ := next_small v s[a + k].toNat k HV.out hk h9
        have hw := wrap_next v s[a + k].toNat k hm1 hm2
        rw [← hx] at hw hm2
        have HX := hide hx
        clear hx hm1
        have H9 := hide h9
        clear h9
        by_cases hc : s[a + k].toNat < 128
        · by_cases hz : s[a + k].toNat = 0 ∧ 0 < k
          · have HE : Hid (numR s a = (0, 0, 3)) := HR.out.trans (by rw [HF.out]; exact run_zero s f k (a + k) v hp hz.1 hz.2)
            have hcz : ((s[a + k].toNat : Int) == 0) = true := beq_iff_eq.2 (by omega)
            have hcd : decide ((1 : Int) < s[a + k].toNat) = false := decide_eq_false (by omega)
            have hk0 : (0 : Int) < k := by omega
            have HZ := hide hz
            clear hz
            by_cases e9 : k = 9
            · have hk9 : ((k : Int) == 9) = true := beq_iff_eq.2 (by omega)
              have H99 := hide e9
              clear e9
              go_wp2
              refine bodyPost_ret (v := outN 0 0 3) (by simp [results, outN, Tryz.results84, go_sem]) rfl ⟨by rw [HE.out]; rfl, (Below.refl _ _).alloc (Nat.le_refl _) _⟩
            · have hk9 : ((k : Int) == 9) = false := beq_eq_false_iff_ne.2 (by omega)
              go_wp2
              refine bodyPost_ret (v := outN 0 0 3) (by simp [results, outN, Tryz.results84, go_sem]) rfl ⟨by rw [HE.out]; rfl, (Below.refl _ _).alloc (Nat.le_refl _) _⟩
          · have HE : Hid (numR s a = (x, a + k + 1, 0)) := HR.out.trans (by rw [HF.out, HX.out]; exact run_last s f k (a + k) v hp H9.out hc hz)
            have HZ := hide hz
            clear hz
            by_cases cz : s[a + k].toNat = 0
            · have hk0 : k = 0 := by have := HZ.out; omega
              have hcz : ((s[a + k].toNat : Int) == 0) = true := beq_iff_eq.2 (by omega)
              have hnk : ¬ 0 < k := by omega
              have hkd : decide (0 < k) = false := decide_eq_false hnk
              have hk9 : ((k : Int) == 9) = false := beq_eq_false_iff_ne.2 (by omega)
              have HC := hide cz
              have HK0 := hide hk0
              clear cz hk0
              by_cases hodd : x % 2 = 1
              · have ho : (((x : Int) % 2) == 1) = true := by rw [beq_iff_eq]; omega
                have HO := hide (unz_odd' x hodd)
                clear hodd
                go_wp2
                refine bodyPost_ret (v := outN (-((x : Int) / 2) - 1) ((a : Int) + k + 1) 0) (by simp [results, outN, Tryz.results84, go_sem]) rfl ⟨by rw [HE.out, HO.out]; simp [resV], (Below.refl _ _).alloc (Nat.le_refl _) _⟩
              · have ho : (((x : Int) % 2) == 1) = false := by rw [beq_eq_false_iff_ne]; omega
                have HO := hide (unz_even' x hodd)
                clear hodd
                go_wp2
                refine bodyPost_ret (v := outN ((x : Int) / 2) ((a : Int) + k + 1) 0) (by simp [results, outN, Tryz.results84, go_sem]) rfl ⟨by rw [HE.out, HO.out]; simp [resV], (Below.refl _ _).alloc (Nat.le_refl _) _⟩
            · have hcz : ((s[a + k].toNat : Int) == 0) = false := beq_eq_false_iff_ne.2 (by omega)
              by_cases e9 : k = 9
              · have hk9 : ((k : Int) == 9) = true := beq_iff_eq.2 (by omega)
                have hcd : decide ((1 : Int) < s[a + k].toNat) = false := decide_eq_false (by have := H9.out; omega)
                have H99 := hide e9
                clear e9
                by_cases hodd : x % 2 = 1
                · have ho : (((x : Int) % 2) == 1) = true := by rw [beq_iff_eq]; omega
                  have HO := hide (unz_odd' x hodd)
                  clear hodd
                  go_wp2
                  refine bodyPost_ret (v := outN (-((x : Int) / 2) - 1) ((a : Int) + k + 1) 0) (by simp [results, outN, Tryz.results84, go_sem]) rfl ⟨by rw [HE.out, HO.out]; simp [resV], (Below.refl _ _).alloc (Nat.le_refl _) _⟩
                · have ho : (((x : Int) % 2) == 1) = false := by rw [beq_eq_false_iff_ne]; omega
                  have HO := hide (unz_even' x hodd)
                  clear hodd
                  go_wp2
                  refine bodyPost_ret (v := outN ((x : Int) / 2) ((a : Int) + k + 1) 0) (by simp [results, outN, Tryz.results84, go_sem]) rfl ⟨by rw [HE.out, HO.out]; simp [resV], (Below.refl _ _).alloc (Nat.le_refl _) _⟩
              · have hk9 : ((k : Int) == 9) = false := beq_eq_false_iff_ne.2 (by omega)
                by_cases hodd : x % 2 = 1
                · have ho : (((x : Int) % 2) == 1) = true := by rw [beq_iff_eq]; omega
                  have HO := hide (unz_odd' x hodd)
                  clear hodd
                  go_wp2
                  refine bodyPost_ret (v := outN (-((x : Int) / 2) - 1) ((a : Int) + k + 1) 0) (by simp [results, outN, Tryz.results84, go_sem]) rfl ⟨by rw [HE.out, HO.out]; simp [resV], (Below.refl _ _).alloc (Nat.le_refl _) _⟩
                · have ho : (((x : Int) % 2) == 1) = false := by rw [beq_eq_false_iff_ne]; omega
                  have HO := hide (unz_even' x hodd)
                  clear hodd
                  go_wp2
                  refine bodyPost_ret (v := outN ((x : Int) / 2) ((a : Int) + k + 1) 0) (by simp [results, outN, Tryz.results84, go_sem]) rfl ⟨by rw [HE.out, HO.out]; simp [resV], (Below.refl _ _).alloc (Nat.le_refl _) _⟩
        · have hn9 : ¬ k = 9 := by have := H9.out; omega
          have hk9 : ((k : Int) == 9) = false := beq_eq_false_iff_ne.2 (by omega)
          have HE : Hid (numR s a = run s f (k + 1) (a + k + 1) x) := HR.out.trans (by rw [HF.out, HX.out]; exact run_more s f k (a + k) v hp hn9 (by omega))
          go_wp2
          go_round
          case rel => exact ⟨k + 1, x, by omega, by go_num, rfl, by rw [HX.out]; exact next_lt _ _ _ HV.out, by rw [HE.out, show 10 - (k + 1) = f from by have := HF.out; omega]; rfl⟩
          case measure => simp [intOf]; omega
    · have HE : Hid (numR s a = (0, 0, 4)) := HR.out.trans (by rw [HF.out]; exact run_end s f k (a + k) v (by omega))
      go_wp2
      refine bodyPost_ret (v := outN 0 0 4) (by simp [results, outN, Tryz.results84, go_sem]) rfl ⟨by rw [HE.out]; rfl, (Below.refl _ _).alloc (Nat.le_refl _) _⟩
set_option maxRecDepth 100000 in
theorem get_spec (s : ByteArray) (a : Int) (w : World) (hs : s.size ≤ maxLen) :
    Calls Tryz.prog 84 #[.string s, .int .i64 a] w fun e w' => e = .returned (getV s a) ∧ Below w.heap.size w w' := by
  unfold maxLen at hs
  by_cases h1 : 8000 < s.size
  · have HE : Hid (getV s a = outN 0 0 2) := by unfold Hid getV; rw [if_pos h1]
    go_enter Tryz.func84, Tryz.ntmps84
    go_wp2
    refine bodyPost_ret (v := outN 0 0 2) (by simp [results, outN, Tryz.results84, go_sem]) rfl ⟨by rw [HE.out], (Below.refl _ _).alloc (Nat.le_refl _) _⟩
  · by_cases h2 : a < 0
    · have HE : Hid (getV s a = outN 0 0 1) := by unfold Hid getV; rw [if_neg h1, if_pos h2]
      go_enter Tryz.func84, Tryz.ntmps84
      go_wp2
      refine bodyPost_ret (v := outN 0 0 1) (by simp [results, outN, Tryz.results84, go_sem]) rfl ⟨by rw [HE.out], (Below.refl _ _).alloc (Nat.le_refl _) _⟩
    · obtain ⟨n, rfl⟩ := Int.eq_ofNat_of_zero_le (show 0 ≤ a from by omega)
      have e0 : getV s (n : Int) = resV (numR s n) := by unfold getV; rw [if_neg h1, if_neg h2, Int.toNat_natCast]
      by_cases h3 : n < s.size
      · rw [e0]
        exact get_in s n w (by omega) h3
      · have HE : Hid (getV s (n : Int) = outN 0 0 4) := e0.trans (by unfold numR; rw [run_end s 9 0 n 0 (by omega)]; rfl)
        clear e0
        go_enter Tryz.func84, Tryz.ntmps84
        go_wp2
        refine wp_loop_rounds 1 ?_
        rw [rounds_succ]
        go_wp2
        refine bodyPost_ret (v := outN 0 0 4) (by simp [results, outN, Tryz.results84, go_sem]) rfl ⟨by rw [HE.out], (Below.refl _ _).alloc (Nat.le_refl _) _⟩
end Go.Proofs.YtjdlgpnhkfdehaaGreatDoor.Gn


/- The draws' own base: a source of draws in memory, and the number that it gives: some number below what is asked, and nothing turns but the source itself. -/
namespace Go.Proofs.YtjdlgpnhkfdehaaGreatDoor.Dr
open Go.RowKit
def Row (w : World) (B : Nat) (a : Option Addr) (len : Nat) : Prop :=
  len = 0 ∨ ∃ b off, a = some ⟨b, off, none⟩ ∧ b < B ∧ ∀ i, i < len → ∃ z : Int, w.cell? ⟨b, off + i, none⟩ = some (.int .u8 z) ∧ 0 ≤ z ∧ z ≤ 255
def Src (w : World) (B : Nat) (a : Option Addr) (len cap : Nat) : Prop :=
  Row w B a len ∧ ∃ at_ mix size : Int, w.heap[B]? = some (.cells #[.slice a len cap, .int .i64 at_, .int .u64 mix, .int .i64 size] 109 (0, 0)) ∧
    0 ≤ at_ ∧ at_ ≤ len ∧ 0 ≤ mix ∧ mix ≤ 18446744073709551615 ∧ 0 ≤ size ∧ size ≤ 12
def Only (B : Nat) (w w' : World) : Prop := w'.os = w.os ∧ w'.tape = w.tape ∧ w'.output = w.output ∧ w'.heap.size = w.heap.size ∧ ∀ k, k ≠ B → w'.heap[k]? = w.heap[k]?
theorem Only.refl (B : Nat) (w : World) : Only B w w := ⟨rfl, rfl, rfl, rfl, fun _ _ => rfl⟩
theorem Only.drew {B : Nat} {w w' : World} (h : Only B w w') : Only B w w'.drew := h
theorem Only.drewN {B : Nat} (w : World) (n : Nat) : Only B w (w.drewN n) := ⟨rfl, rfl, rfl, rfl, fun _ _ => rfl⟩
theorem Only.set {B : Nat} {w w' : World} (h : Only B w w') (o : Nat) (v : Value) : Only B w (w'.setCell ⟨B, o, none⟩ v) :=
  ⟨h.1, h.2.1, h.2.2.1, by simpa [World.setCell] using h.2.2.2.1, fun k hk => (heap_setCell_other w' ⟨B, o, none⟩ k v hk).trans (h.2.2.2.2 k hk)⟩
theorem Only.trans {B : Nat} {a b c : World} (h : Only B a b) (k : Only B b c) : Only B a c :=
  ⟨k.1.trans h.1, k.2.1.trans h.2.1, k.2.2.1.trans h.2.2.1, k.2.2.2.1.trans h.2.2.2.1, fun i hi => (k.2.2.2.2 i hi).trans (h.2.2.2.2 i hi)⟩
theorem Only.below {B C : Nat} {w0 w w' : World} (hb : Below C w0 w) (h : Only B w w') (hC : C ≤ B) : Below C w0 w' :=
  hb.trans ⟨h.1, h.2.1, h.2.2.1, by rw [h.2.2.2.1]; exact Nat.le_refl _, fun k hk => h.2.2.2.2 k (by omega)⟩
end Go.Proofs.YtjdlgpnhkfdehaaGreatDoor.Dr

