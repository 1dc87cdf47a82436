/- The walks of flatten and treesOf. -/
import Derived.Test.YtmkpakhpjgocjaaHuTake
import Derived.Test.YtmkpakhpjgocjaaWholeWalks
namespace Go.Proofs.Ytmkpakhpjgocjaa.Hf
open Go.RowKit
open Go.Proofs.Ytmkpakhpjgocjaa.In (IsI irow Ints made_ints)

theorem flat_next (c : List Nat) (j : Nat) (h : j < c.length) : ((flat c).take j ++ List.replicate (c.length - j) 0).set j (if 0 < c[j] then c[j] / 2 + 1 else 0) = (flat c).take (j + 1) ++ List.replicate (c.length - (j + 1)) 0 := by
  have hf : (flat c)[j]'(by rw [flat_length]; exact h) = if 0 < c[j] then c[j] / 2 + 1 else 0 := by
    unfold flat
    rw [List.getElem_map]
  rw [← hf]
  apply List.ext_getElem?
  intro i
  have hl : ((flat c).take j).length = j := by rw [List.length_take, flat_length]; omega
  have hl' : ((flat c).take (j + 1)).length = j + 1 := by rw [List.length_take, flat_length]; omega
  rw [List.getElem?_set]
  by_cases e : j = i
  · subst e
    rw [if_pos rfl, if_pos (by rw [List.length_append, hl, List.length_replicate]; omega), List.getElem?_append_left (by omega), List.getElem?_take_of_lt (by omega), List.getElem?_eq_getElem]
  · rw [if_neg e]
    by_cases hi : i < j
    · rw [List.getElem?_append_left (by omega), List.getElem?_append_left (by omega), List.getElem?_take_of_lt hi, List.getElem?_take_of_lt (by omega)]
    · rw [List.getElem?_append_right (by omega), List.getElem?_append_right (by omega), hl, hl', List.getElem?_replicate, List.getElem?_replicate]
      have : (i - j < c.length - j) = (i - (j + 1) < c.length - (j + 1)) := propext ⟨fun h => by omega, fun h => by omega⟩
      simp only [this]
def midF (c : List Nat) (j : Nat) : List Nat := (flat c).take j ++ List.replicate (c.length - j) 0
theorem midF_length (c : List Nat) (j : Nat) (h : j ≤ c.length) : (midF c j).length = c.length := by
  unfold midF
  rw [List.length_append, List.length_take, flat_length, List.length_replicate]
  omega
theorem midF_yes (c : List Nat) (j : Nat) (h : j < c.length) (h0 : 0 < c[j]) : (midF c j).set j (c[j] / 2 + 1) = midF c (j + 1) := by
  have := flat_next c j h
  rw [if_pos h0] at this
  exact this
theorem midF_no (c : List Nat) (j : Nat) (h : j < c.length) (h0 : ¬ 0 < c[j]) : midF c j = midF c (j + 1) := by
  have := flat_next c j h
  rw [if_neg h0] at this
  unfold midF
  rw [← this]
  apply List.ext_getElem?
  intro i
  rw [List.getElem?_set]
  by_cases e : j = i
  · subst e
    have hl : ((flat c).take j).length = j := by rw [List.length_take, flat_length]; omega
    rw [if_pos rfl, if_pos (by rw [List.length_append, hl, List.length_replicate]; omega), List.getElem?_append_right (by omega), hl, Nat.sub_self, List.getElem?_replicate, if_pos (by omega)]
  · rw [if_neg e]
theorem midF_zero (c : List Nat) : up (midF c 0) = List.replicate c.length 0 := by
  unfold midF up
  rw [List.take_zero, List.nil_append, Nat.sub_zero, List.map_replicate]
  rfl
theorem midF_all (c : List Nat) : midF c c.length = flat c := by
  unfold midF
  rw [Nat.sub_self, List.replicate_zero, List.append_nil, List.take_of_length_le (by rw [flat_length]; exact Nat.le_refl _)]
theorem up_get {c : List Nat} {W : World} {b off : Nat} (hc : ∀ j (h : j < (up c).length), W.cell? ⟨b, off + j, none⟩ = some (.int .i64 (up c)[j])) (j : Nat) (h : j < c.length) : W.cell? ⟨b, off + j, none⟩ = some (.int .i64 (c[j] : Nat)) := by
  rw [hc j (by rw [up_length]; exact h), up_at c j h, List.getD_eq_getElem?_getD, List.getElem?_eq_getElem h]
  rfl

set_option maxRecDepth 100000 in
set_option maxHeartbeats 1000000 in
theorem flat_any (a : Option Addr) (cap n : Nat) (c : List Nat) (w : World) (h : Ints w w.heap.size a (up c)) (hn : c.length = n) (h257 : n ≤ 257) (hm : ∀ x ∈ c, x ≤ 10000) :
    Calls Try.prog 68 #[.slice a n cap] w fun e w' => e = .returned (.slice (some ⟨w.heap.size, 0, none⟩) n n) ∧ IsI w' w.heap.size 2 (up (flat c)) ∧ Below w.heap.size w w' := by
  obtain ⟨i0, hi, hz0, hz1, hz2⟩ := info_parts In.Try.infoI2
  have HN := hideH hn
  have HS := hideH h
  have HM := hideH hm
  clear hn h hm
  go_enter Try.func68, Try.ntmps68
  go_wp2_with (at_make; refine wpList_make_full _ rfl (.tmp 7) (.tmp 7) 23 rfl w.heap.size 2 i0 (.int .i64 0) 1 Try.underlying23 hi hz0 hz1 .i64 .i64 _ _ n rfl rfl (by omega) (by omega) (by rw [hz2]; omega) (by unfold maxLen; omega) (Nat.le_refl _) ?_; intro w1 hown hgrow; have HI1 := hideH (made_ints hown); have HB1 := hideH ((Below.refl w.heap.size w).grown hgrow (Nat.le_refl _) (by simp)); clear hown hgrow)
  go_loopw [11, 4, 5] (fun iv _ _ wr => ∃ j : Nat, iv = .int .i64 j ∧ j ≤ n ∧ IsI wr w.heap.size 2 (up (midF c j)) ∧ Below w.heap.size w wr) (fun iv _ _ _ => n - (intOf iv).toNat)
  case atStart => exact ⟨0, rfl, Nat.zero_le _, by rw [midF_zero, HN.out]; exact HI1.out, HB1.out⟩
  case round =>
    obtain ⟨j, rfl, hj, hij, hbw⟩ := hrel
    have HIJ := hideH hij
    have HBW := hideH hbw
    clear hij hbw
    by_cases hlt : j < n
    · have hjc : j < c.length := by rw [HN.out]; exact hlt
      obtain ⟨b, off, rfl, hbz, hcl⟩ := HS.out.some (by rw [up_length]; omega)
      have ci : wr.cell? ⟨b, off + j, none⟩ = some (.int .i64 (c[j] : Nat)) := (HBW.out.cell (p := ⟨b, off + j, none⟩) hbz).trans (up_get hcl j hjc)
      have HY := hideH (midF_yes c j hjc)
      have HNO := hideH (midF_no c j hjc)
      have hcm := HM.out c[j] (List.getElem_mem hjc)
      have HML := hideH (midF_length c j (by omega))
      generalize c[j] = cj at ci HY HNO hcm
      clear hcl hjc
      by_cases h0 : 0 < cj
      · have h0' : (0 : Int) < (cj : Int) := by omega
        have cl : wr.cell? ⟨w.heap.size, j, none⟩ = some (.int .i64 ((midF c j).getD j 0 : Nat)) := by
          have hl : j < (midF c j).length := by rw [HML.out, HN.out]; exact hlt
          rw [HIJ.out.cell (j := j) (by rw [up_length]; exact hl), up_at _ _ hl]
        have zl := HIJ.out.frozen j
        have hq : (cj : Int).tdiv 2 = ((cj / 2 : Nat) : Int) := by rw [Int.tdiv_eq_ediv_of_nonneg (by omega)]; rfl
        generalize (midF c j).getD j 0 = old at cl
        go_wp2_with fail
        go_roundw
        case rel =>
          refine ⟨j + 1, by go_num, by omega, ?_, HBW.out.setCell (by simp) _⟩
          rw [← HY.out h0, ← up_set]
          exact HIJ.out.set j _
        case measure => simp [intOf]; omega
      · have h0' : cj = 0 := by omega
        subst h0'
        go_wp2_with fail
        go_roundw
        case rel => exact ⟨j + 1, by go_num, by omega, by rw [← HNO.out h0]; exact HIJ.out, HBW.out⟩
        case measure => simp [intOf]; omega
    · obtain rfl : j = n := by omega
      have HE : Hid (IsI wr w.heap.size 2 (up (flat c))) := by
        have := HIJ.out
        rw [← HN.out, midF_all] at this
        exact this
      go_wp2_with fail
      go_ret
      exact ⟨rfl, HE.out, HBW.out⟩
end Go.Proofs.Ytmkpakhpjgocjaa.Hf
