/- The laws' marks: the text of a mark, marks written into a row of texts, marks found again. -/
import Derived.Test.YtfbojjhmjcdemaaGreatDoorStrEq
import Derived.Test.YtfbojjhmjcdemaaGreatDoorStrO
import Derived.Deep.RegionWith
namespace Go.Proofs.YtfbojjhmjcdemaaGreatDoor.St
open Go.RowKit

/-- the digits of a number ahead of a text -/
def dg (k : Nat) (o : ByteArray) : ByteArray := if _h : k = 0 then o else dg (k / 10) (⟨#[UInt8.ofNat (48 + k % 10)]⟩ ++ o)
termination_by k
decreasing_by omega
theorem dg_zero (o : ByteArray) : dg 0 o = o := by rw [dg, dif_pos rfl]
theorem dg_more (k : Nat) (o : ByteArray) (h : k ≠ 0) : dg k o = dg (k / 10) (⟨#[UInt8.ofNat (48 + k % 10)]⟩ ++ o) := by rw [dg, dif_neg h]
def markT (k : Nat) : ByteArray := ⟨#[109]⟩ ++ dg k ⟨#[]⟩

theorem one_str (W : World) (y : Nat) (h : y < 256) : (convert 35 9 (.slice (some ⟨W.heap.size, 0, none⟩) 1 1)).run Tryz.prog (W.alloc (.cells #[.int .u8 (y : Int)] 5)) = .ok (.string ⟨#[UInt8.ofNat y]⟩) (W.alloc (.cells #[.int .u8 (y : Int)] 5)) := by
  refine run_convert_bytes_back (P := Tryz.prog) (W.alloc (.cells #[.int .u8 (y : Int)] 5)) 35 9 5 ⟨W.heap.size, 0, none⟩ 1 [UInt8.ofNat y] Tryz.underlying35 Tryz.underlying5 Tryz.underlying9 ?_
  intro j hj
  match j, hj with
  | 0, _ =>
    simp [Addr.add]
    omega

set_option maxRecDepth 100000 in
set_option maxHeartbeats 1000000 in
theorem markT_any (k : Nat) (w : World) (h0 : 0 < k) (hk : k ≤ 1099511627776) :
    Calls Tryz.prog 10 #[.int .i64 k] w fun e w' => e = .returned (.string (markT k)) ∧ Below w.heap.size w w' := by
  go_enter Tryz.func10, Tryz.ntmps10
  go_wp2_with fail
  go_loopw [0, 3] (fun kv ov wr => ∃ (j : Nat) (o : ByteArray), kv = .int .i64 j ∧ ov = .string o ∧ dg j o = dg k ⟨#[]⟩ ∧ o.size + j ≤ k ∧ Below w.heap.size w wr) (fun kv _ _ => (intOf kv).toNat)
  case atStart => exact ⟨k, ⟨#[]⟩, rfl, rfl, rfl, by simp [ByteArray.size], Below.refl _ _⟩
  case round =>
    obtain ⟨j, o, rfl, rfl, hd, hsz, hbel⟩ := hrel
    have HD := hideT hd
    have HB := hideT hbel
    have hsz' := hbel.size
    clear hd hbel
    by_cases hj : j = 0
    · subst hj
      have HE : Hid ((⟨#[109]⟩ : ByteArray) ++ o = markT k) := by
        unfold Hid markT
        rw [← HD.out, dg_zero]
      go_wp2_with fail
      go_ret
      exact ⟨Nu.ret_strJ HE.out, HB.out⟩
    · have g0 : 0 < (j : Int) := by omega
      have hy : 48 + j % 10 < 256 := by omega
      have e1 : IntKind.u8.wrap (48 + (j : Int) % 10) = ((48 + j % 10 : Nat) : Int) := by
        simp [IntKind.wrap, IntKind.bits, IntKind.signed]
        omega
      have hconv := one_str wr (48 + j % 10) hy
      rw [show ((48 + j % 10 : Nat) : Int) = 48 + (j : Int) % 10 by omega] at hconv
      have hm := dg_more j o hj
      generalize UInt8.ofNat (48 + j % 10) = y at hconv hm
      have HM := hideT hm
      have hs1 : (⟨#[y]⟩ : ByteArray).size = 1 := rfl
      clear hm
      go_wp2_with fail
      go_roundw
      case rel =>
        refine ⟨j / 10, _, by go_num, rfl, by rw [← HM.out]; exact HD.out, ?_, HB.out.alloc hsz' _⟩
        rw [ByteArray.size_append, hs1]
        omega
      case measure => simp [intOf]; omega

def marks (k n : Nat) : List ByteArray := (List.range n).map fun j => markT (k + j)
theorem marks_length (k n : Nat) : (marks k n).length = n := by simp [marks]
theorem marks_get (k n j : Nat) (h : j < (marks k n).length) : (marks k n)[j] = markT (k + j) := by simp [marks]
/-- a row of texts, the first i marked -/
def mmid (l : List ByteArray) (k i : Nat) : List ByteArray := marks k i ++ l.drop i
theorem mmid_length (l : List ByteArray) (k i : Nat) (h : i ≤ l.length) : (mmid l k i).length = l.length := by simp [mmid, marks_length]; omega
theorem mmid_zero (l : List ByteArray) (k : Nat) : mmid l k 0 = l := by simp [mmid, marks]
theorem mmid_all (l : List ByteArray) (k : Nat) : mmid l k l.length = marks k l.length := by simp [mmid]
theorem mmid_next (l : List ByteArray) (k i : Nat) (h : i < l.length) : (mmid l k i).set i (markT (k + i)) = mmid l k (i + 1) := by
  unfold mmid
  rw [List.set_append, if_neg (by rw [marks_length]; omega), marks_length, Nat.sub_self]
  have : marks k (i + 1) = marks k i ++ [markT (k + i)] := by simp [marks, List.range_succ]
  rw [this, List.append_assoc]
  congr 1
  rw [List.drop_eq_getElem_cons h]
  rfl

set_option maxRecDepth 100000 in
set_option maxHeartbeats 1000000 in
theorem mark_any (g t c : Nat) (l : List ByteArray) (w : World) (h : IsO w g t l) (hn : l.length ≤ 1048576) :
    Calls Tryz.prog 7 #[.slice (some ⟨g, 0, none⟩) l.length c, .int .i64 1] w fun e w' => e = .returned (.int .i64 (1 + l.length)) ∧ IsO w' g t (marks 1 l.length) ∧ Aft g w w' := by
  have HS := hideT h
  have hgl := h.lt
  clear h
  obtain ⟨n, hln⟩ : ∃ n, n = l.length := ⟨_, rfl⟩
  have HLN := hideT hln
  rw [← hln] at hn ⊢
  clear hln
  go_enter Tryz.func7, Tryz.ntmps7
  go_wp2_with fail
  go_loopw [5, 1] (fun i kv wr => ∃ k : Nat, i = .int .i64 k ∧ kv = .int .i64 (1 + k) ∧ k ≤ n ∧ IsO wr g t (mmid l 1 k) ∧ Aft g w wr) (fun i _ _ => n - (intOf i).toNat)
  case atStart => exact ⟨0, rfl, rfl, by omega, by rw [mmid_zero]; exact HS.out, Aft.refl _ _⟩
  case round =>
    obtain ⟨k, rfl, rfl, hk, h1, ha⟩ := hrel
    have G1 := hideT h1
    have GA := hideT ha
    by_cases hlt : k < n
    · have hkl : k < l.length := by rw [← HLN.out]; exact hlt
      have HM := hideT (mmid_next l 1 k hkl)
      have HL := hideT (mmid_length l 1 k (by omega))
      have HT := hideT (markT_any (1 + k) wr (by omega) (by omega))
      clear h1 ha
      go_wp2_with fail
      refine HT.out.mono ?_
      rintro e w1 ⟨rfl, hb1⟩
      have I1 := hideT (G1.out.below hb1 G1.out.lt)
      have A1 := hideT (GA.out.more hb1)
      have cf := I1.out.frozen k
      obtain ⟨v0, ce⟩ : ∃ v, w1.cell? ⟨g, k, none⟩ = some (.string v) := ⟨_, I1.out.cell (j := k) (by rw [HL.out]; exact hkl)⟩
      clear hb1
      go_wp2_with fail
      go_roundw
      case rel => exact ⟨k + 1, by go_num, by go_num, by omega, by rw [← HM.out]; exact I1.out.set k _, A1.out.set k _⟩
      case measure => simp [intOf]; omega
    · have HE : Hid (mmid l 1 k = marks 1 n) := by
        unfold Hid
        rw [show k = l.length by have := HLN.out; omega, HLN.out]
        exact mmid_all l 1
      obtain ⟨k', hk'⟩ : ∃ k' : Nat, k' = k := ⟨_, rfl⟩
      have HKN : Hid ((1 : Int) + k = 1 + n) := by
        unfold Hid
        omega
      clear h1 ha
      go_wp2_with fail
      go_ret
      exact ⟨by rw [← HKN.out]; rfl, by rw [← HE.out]; exact G1.out, GA.out⟩
end Go.Proofs.YtfbojjhmjcdemaaGreatDoor.St
