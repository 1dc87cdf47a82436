/- Texts put together: BlkPlain, CutWalks, BlkImpl. -/
import Derived.WalkKit
import Derived.Test.YtmkpakhpjgocjaaGreatPz2
import Derived.Test.YtmkpakhpjgocjaaGreatPz15
/- Plain mathematics of Blocks: the pieces of a file, one behind the other. -/
namespace Go.Proofs.YtmkpakhpjgocjaaGreat.Bk

/-- the first n pieces of k bytes -/
def blks (s : ByteArray) (k : Nat) : Nat → List ByteArray
  | 0 => []
  | n + 1 => blks s k n ++ [s.extract (n * k) (min (n * k + k) s.size)]
def cnt (p k : Nat) : Nat := (p + k - 1) / k
def fineB (p : Nat) (size : Int) : Bool := decide (p ≤ 1000 ∧ 1 ≤ size ∧ size ≤ 48 ∧ (p : Int) ≤ size * 64)
def blocksR (s : ByteArray) (size : Int) : List ByteArray := if fineB s.size size = true then blks s size.toNat (cnt s.size size.toNat) else []
theorem blks_length (s : ByteArray) (k : Nat) : ∀ n, (blks s k n).length = n
  | 0 => rfl
  | n + 1 => by
    rw [blks, List.length_append, blks_length s k n]
    rfl
theorem cnt_lt {p k j : Nat} (hk : 0 < k) : j < cnt p k ↔ j * k < p := by
  unfold cnt
  rw [Nat.lt_div_iff_mul_lt hk]
  omega
theorem cnt_le {p k : Nat} (hk : 0 < k) : cnt p k ≤ 64 ↔ p ≤ k * 64 := by
  have h := cnt_lt (p := p) (j := 64) hk
  rw [Nat.mul_comm] at h
  omega
theorem cnt_done {p k j : Nat} (hk : 0 < k) (hj : j ≤ cnt p k) (h : ¬ j * k < p) : j = cnt p k := by
  have := cnt_lt (p := p) (j := j) hk
  omega
theorem blocksR_length (s : ByteArray) (size : Int) : (blocksR s size).length ≤ 64 := by
  unfold blocksR
  split
  · rename_i h
    have h := of_decide_eq_true h
    rw [blks_length, cnt_le (by omega)]
    omega
  · exact Nat.zero_le _
theorem next_le {p k j : Nat} (hk : 0 < k) (h : j * k < p) : j + 1 ≤ cnt p k := (cnt_lt hk).2 h
/-- what is left of a file behind j pieces -/
def rest (s : ByteArray) (k j : Nat) : ByteArray := s.extract (j * k) s.size
theorem rest_size (s : ByteArray) (k j : Nat) : (rest s k j).size = s.size - j * k := by
  unfold rest
  rw [ByteArray.size_extract]
  omega
theorem empty_ext {a b : ByteArray} (ha : a.size = 0) (hb : b.size = 0) : a = b :=
  ByteArray.ext (by rw [Array.eq_empty_of_size_eq_zero (show a.data.size = 0 from ha), Array.eq_empty_of_size_eq_zero (show b.data.size = 0 from hb)])
theorem rest_next (s : ByteArray) (k j : Nat) (h : j * k < s.size) : (rest s k j).extract (min k (s.size - j * k)) (s.size - j * k) = rest s k (j + 1) := by
  have hm : (j + 1) * k = j * k + k := by rw [Nat.add_mul, Nat.one_mul]
  by_cases hk : k ≤ s.size - j * k
  · unfold rest
    rw [ByteArray.extract_extract, hm]
    congr 1 <;> omega
  · refine empty_ext ?_ ?_
    · rw [ByteArray.size_extract, rest_size]
      omega
    · rw [rest_size, hm]
      omega
theorem rest_head (s : ByteArray) (k j : Nat) (h : j * k < s.size) : (rest s k j).extract 0 (min k (s.size - j * k)) = s.extract (j * k) (min (j * k + k) s.size) := by
  unfold rest
  rw [ByteArray.extract_extract]
  congr 1 <;> omega
end Go.Proofs.YtmkpakhpjgocjaaGreat.Bk

/- The walk of impl.cutText: it answers the piece of the text from a place to a place, and writes nothing that was there. -/
namespace Go.Proofs.YtmkpakhpjgocjaaGreat.Nu
open Go.RowKit

set_option maxRecDepth 100000 in
set_option maxHeartbeats 1000000 in
theorem cut_any (s : ByteArray) (i j : Nat) (w : World) (hs : s.size ≤ 1048576) (hij : i ≤ j) (hj : j ≤ s.size) :
    Calls Tryz.prog 18 #[.string s, .int .i64 i, .int .i64 j] w fun e w' => e = .returned (.string (s.extract i j)) ∧ Below w.heap.size w w' := by
  obtain ⟨i0, hi, hz0, hz1, hz2⟩ := info_parts Tryz.infoJ5
  go_enter Tryz.func18, Tryz.ntmps18
  go_wp2_with (at_make; refine wpList_make_full _ rfl (.tmp 10) (.tmp 10) 33 rfl w.heap.size 5 i0 (.int .u8 0) 1 Tryz.underlying33 hi hz0 hz1 .i64 .i64 _ _ (j - i) rfl rfl (by omega) (by omega) (by rw [hz2]; omega) (by unfold maxLen; omega) (Nat.le_refl _) ?_; intro w1 hown1 hgrow1; obtain ⟨cur, hblk, hlen⟩ := made_block hown1; have hbel1 := (Below.refl w.heap.size w).grown hgrow1 (Nat.le_refl _) (by simp); obtain ⟨w2, c1, c2, hb2⟩ := cut_facts (P := Tryz.prog) (ty := 3) (sT := 9) (a := s.extract i j) Tryz.underlying33 Tryz.underlying5 Tryz.underlying9 Tryz.sizeJ5 hblk hlen (by simp; omega) hbel1; clear hown1 hgrow1 hblk hlen hbel1)
  go_ret
  exact ⟨rfl, by assumption⟩
end Go.Proofs.YtmkpakhpjgocjaaGreat.Nu

/- The walk of impl.Blocks. -/
namespace Go.Proofs.YtmkpakhpjgocjaaGreat.Bk
open Go.RowKit
open Go.Proofs.YtmkpakhpjgocjaaGreat.St (OwnS one_newS one_cellS app_one)
open Go.Proofs.YtmkpakhpjgocjaaGreat.Nu (cut_any)

theorem hideK {p : Prop} (h : p) : Hid p := h

set_option maxRecDepth 100000 in
set_option maxHeartbeats 1000000 in
theorem blocks_impl (s : ByteArray) (size : Int) (w : World) (hs : s.size ≤ 1048576) :
    Calls Tryz.prog 11 #[.string s, .int .i64 size] w fun e w' => ∃ v, e = .returned v ∧ OwnS w' w.heap.size v (blocksR s size) ∧ Below w.heap.size w w' := by
  obtain ⟨i0, hif, hz0, hz1, hz2⟩ := info_parts St.Tryz.infoS9
  by_cases h1 : 1000 < s.size
  · have HR : Hid (blocksR s size = []) := if_neg (by unfold fineB; simp; omega)
    have h1' : (1000 : Int) < (s.size : Int) := by omega
    go_enter Tryz.func11, Tryz.ntmps11
    go_wp2_with fail
    go_ret
    exact ⟨_, rfl, by rw [HR.out]; exact OwnS.nil _ _, Below.refl _ _⟩
  have h1' : decide ((1000 : Int) < (s.size : Int)) = false := by simp; omega
  by_cases h2 : size < 1
  · have HR : Hid (blocksR s size = []) := if_neg (by unfold fineB; simp; omega)
    go_enter Tryz.func11, Tryz.ntmps11
    go_wp2_with fail
    go_ret
    exact ⟨_, rfl, by rw [HR.out]; exact OwnS.nil _ _, Below.refl _ _⟩
  have h2' : decide (size < 1) = false := by simp; omega
  by_cases h3 : 48 < size
  · have HR : Hid (blocksR s size = []) := if_neg (by unfold fineB; simp; omega)
    go_enter Tryz.func11, Tryz.ntmps11
    go_wp2_with fail
    go_ret
    exact ⟨_, rfl, by rw [HR.out]; exact OwnS.nil _ _, Below.refl _ _⟩
  have h3' : decide (48 < size) = false := by simp; omega
  obtain ⟨k, rfl⟩ : ∃ k : Nat, size = k := ⟨size.toNat, by omega⟩
  have hk : 0 < k := by omega
  have hk48 : k ≤ 48 := by omega
  have hmul : wrap64 ((k : Int) * 64) = (k : Int) * 64 := by simp only [wrap64]; omega
  by_cases h4 : (k : Int) * 64 < (s.size : Int)
  · have HR : Hid (blocksR s (k : Int) = []) := if_neg (by unfold fineB; simp; omega)
    have h4' : decide (wrap64 ((k : Int) * 64) < (s.size : Int)) = true := by rw [hmul]; exact decide_eq_true h4
    have h4'' : wrap64 ((k : Int) * 64) < (s.size : Int) := by rw [hmul]; exact h4
    clear hmul
    go_enter Tryz.func11, Tryz.ntmps11
    go_wp2_with fail
    go_ret
    exact ⟨_, rfl, by rw [HR.out]; exact OwnS.nil _ _, Below.refl _ _⟩
  have h4' : decide ((k : Int) * 64 < (s.size : Int)) = false := decide_eq_false h4
  have HR : Hid (blocksR s (k : Int) = blks s k (cnt s.size k)) := if_pos (by unfold fineB; simp; omega)
  have HC64 := hideK ((cnt_le (p := s.size) hk).2 (by omega))
  have HCD := hideK (fun j => cnt_done (p := s.size) (j := j) hk)
  have HNX := hideK (fun j => next_le (p := s.size) (j := j) hk)
  have HCUT := hideK (fun (i j : Nat) (W : World) (h1 : i ≤ j) (h2 : j ≤ s.size) => cut_any s i j W hs h1 h2)
  have hs1 : s.size ≤ 1000 := by omega
  rw [HR.out]
  clear h1 h2 h3 h4 HR hmul
  go_enter Tryz.func11, Tryz.ntmps11
  go_wp2_with fail
  go_loopw [7, 6] (fun iv tv wr => ∃ j : Nat, iv = .int .i64 (j * k : Nat) ∧ j ≤ cnt s.size k ∧ OwnS wr w.heap.size tv (blks s k j) ∧ Below w.heap.size w wr) (fun iv _ _ => s.size - (intOf iv).toNat)
  case atStart => exact ⟨0, by simp, Nat.zero_le _, OwnS.nil _ _, Below.refl _ _⟩
  case round =>
    obtain ⟨j, rfl, hj, ho, hb⟩ := hrel
    have O := hideK ho
    have B := hideK hb
    have hz := hb.size
    have HL := hideK (blks_length s k j)
    have hj64 : j ≤ 64 := Nat.le_trans hj HC64.out
    have HNXT : Hid (blks s k (j + 1) = blks s k j ++ [s.extract (j * k) (min (j * k + k) s.size)]) := rfl
    have HMU : Hid ((j + 1) * k = j * k + k) := by unfold Hid; rw [Nat.add_mul, Nat.one_mul]
    have HN1 := hideK (HNX.out j)
    have HC1 := hideK (HCD.out j hj)
    clear ho hb
    generalize hp : j * k = p at HNXT HMU HN1 HC1 ⊢
    have HP := hideK hp
    clear hp
    by_cases hlt : p < s.size
    · have hlt' : (p : Int) < (s.size : Int) := by omega
      by_cases hpk : p + k ≤ s.size
      · have hpk' : (p : Int) + k ≤ (s.size : Int) := by omega
        have HX : Hid (min (p + k) s.size = p + k) := by unfold Hid; omega
        rw [HX.out] at HNXT
        have HC : Hid (∀ W, Calls Tryz.prog 18 #[.string s, .int .i64 p, .int .i64 ((p : Int) + k)] W fun e w' => e = .returned (.string (s.extract p (p + k))) ∧ Below W.heap.size W w') := fun W => by
          have := HCUT.out p (p + k) W (by omega) (by omega)
          simpa using this
        generalize s.extract p (p + k) = x at HC HNXT
        clear HX
        go_wp2_with fail
        refine (HC.out wr).mono ?_
        rintro e w2 ⟨rfl, hb2⟩
        have O2 := hideK (O.out.below hb2)
        have B2 := hideK (B.out.trans (hb2.mono hz))
        have hz2' := B2.out.size
        clear hb2
        go_wp2_with (at_builtin; refine wpList_append_own _ rfl (.tmp 31) (.tmp 40) 22 rfl w.heap.size 9 i0 (.string ⟨#[]⟩) 1 16 Tryz.underlying22 hif hz0 hz1 hz2 rfl (by decide) _ _ _ rfl (World.ownsRow.alloc O2.out _) ⟨w2.heap.size, 0, none⟩ 1 1 [.string x] rfl rfl (one_newS w2 _ _) (one_cellS _) (by rw [HL.out]; unfold maxLen; omega) (by rw [HL.out]; omega) (by simp; omega) ?_)
        intro v3 w3 hown hgrow _
        have O3 : Hid (OwnS w3 w.heap.size v3 (blks s k (j + 1))) := by
          rw [HNXT.out]
          exact OwnS.snoc hown
        have B3 := hideK (app_one B2.out hz2' (Nat.le_refl _) O2.out hgrow)
        clear hown hgrow O2
        go_wp2_with fail
        go_roundw
        case rel => exact ⟨j + 1, by rw [HMU.out]; go_num, HN1.out hlt, O3.out, B3.out⟩
        case measure => simp [intOf]; omega
      · have hpk' : decide ((p : Int) + k ≤ (s.size : Int)) = false := by simp; omega
        have hpk'' : (s.size : Int) < (p : Int) + k := by omega
        have HX : Hid (min (p + k) s.size = s.size) := by unfold Hid; omega
        rw [HX.out] at HNXT
        have HC : Hid (∀ W, Calls Tryz.prog 18 #[.string s, .int .i64 p, .int .i64 ((s.size : Int))] W fun e w' => e = .returned (.string (s.extract p (s.size))) ∧ Below W.heap.size W w') := fun W => by
          have := HCUT.out p (s.size) W (by omega) (by omega)
          simpa using this
        generalize s.extract p (s.size) = x at HC HNXT
        clear HX
        go_wp2_with fail
        refine (HC.out wr).mono ?_
        rintro e w2 ⟨rfl, hb2⟩
        have O2 := hideK (O.out.below hb2)
        have B2 := hideK (B.out.trans (hb2.mono hz))
        have hz2' := B2.out.size
        clear hb2
        go_wp2_with (at_builtin; refine wpList_append_own _ rfl (.tmp 31) (.tmp 40) 22 rfl w.heap.size 9 i0 (.string ⟨#[]⟩) 1 16 Tryz.underlying22 hif hz0 hz1 hz2 rfl (by decide) _ _ _ rfl (World.ownsRow.alloc O2.out _) ⟨w2.heap.size, 0, none⟩ 1 1 [.string x] rfl rfl (one_newS w2 _ _) (one_cellS _) (by rw [HL.out]; unfold maxLen; omega) (by rw [HL.out]; omega) (by simp; omega) ?_)
        intro v3 w3 hown hgrow _
        have O3 : Hid (OwnS w3 w.heap.size v3 (blks s k (j + 1))) := by
          rw [HNXT.out]
          exact OwnS.snoc hown
        have B3 := hideK (app_one B2.out hz2' (Nat.le_refl _) O2.out hgrow)
        clear hown hgrow O2
        go_wp2_with fail
        go_roundw
        case rel => exact ⟨j + 1, by rw [HMU.out]; go_num, HN1.out hlt, O3.out, B3.out⟩
        case measure => simp [intOf]; omega
    · obtain rfl := HC1.out hlt
      have hlt' : decide ((p : Int) < (s.size : Int)) = false := by simp; omega
      go_wp2_with fail
      go_ret
      exact ⟨_, rfl, O.out, B.out⟩
end Go.Proofs.YtmkpakhpjgocjaaGreat.Bk
