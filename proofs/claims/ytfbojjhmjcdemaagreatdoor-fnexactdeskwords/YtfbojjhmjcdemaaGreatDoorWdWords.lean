/- The words with which a line of a desk may begin, told by the program and by the specification. -/
import Derived.Test.YtfbojjhmjcdemaaGreatDoorStrIn
import Derived.Deep.Cut
import Derived.RegionTactic
import Derived.Laws.EntriesVeiled
namespace Go.Proofs.YtfbojjhmjcdemaaGreatDoor.Wd
open Go.RowKit
open Go.Proofs.YtfbojjhmjcdemaaGreatDoor.St (OwnS one_newS one_cellS app_one)

theorem hideW {p : Prop} (h : p) : Hid p := h
/-- the words, rising -/
def wordsL : List ByteArray := [⟨#[97, 100, 100]⟩, ⟨#[99, 114, 97, 115, 104]⟩, ⟨#[102, 105, 108, 101]⟩, ⟨#[111, 117, 116]⟩, ⟨#[112, 97, 99, 107]⟩, ⟨#[115, 111, 114, 116]⟩, ⟨#[115, 119, 97, 114, 109]⟩, ⟨#[115, 121, 110, 99]⟩, ⟨#[119, 114, 111, 110, 103]⟩]
theorem wordsL_len : wordsL.length = 9 := rfl
theorem own_nine (W : World) (base g : Nat) (hg : W.heap[g]? = some (.cells (wordsL.map Value.string).toArray 9 (0, 0))) (hb : base ≤ g) : OwnS W base (.slice (some ⟨g, 0, none⟩) 9 9) wordsL :=
  ⟨rfl, .inr ⟨g, 9, _, rfl, hb, hg, Nat.le_refl _, by unfold maxLen; omega, rfl, rfl⟩⟩
theorem own_oneW {W : World} {base size n : Nat} {e : TypeId} {v : Value} {xs : List Value} (h : W.ownsRow base e size v n xs) : ∃ a cap, v = .slice a n cap := by
  obtain ⟨_, h⟩ := h
  rcases h with ⟨h, h0⟩ | ⟨g, cap, cur, hv, _⟩
  · exact ⟨none, 0, by rw [h, h0]⟩
  · exact ⟨_, cap, hv⟩

set_option maxRecDepth 100000 in
theorem words_spec (w : World) : Calls Tryz.prog 4 #[] w fun e w' => ∃ v, e = .returned v ∧ OwnS w' w.heap.size v wordsL ∧ Below w.heap.size w w' := by
  have B0 := hideW (p := Below w.heap.size w (w.alloc (.cells (wordsL.map Value.string).toArray 9))) ((Below.refl _ _).alloc (Nat.le_refl _) _)
  have O0 := hideW (own_nine (w.alloc (.cells (wordsL.map Value.string).toArray 9)) w.heap.size w.heap.size (heap_alloc_new w _) (Nat.le_refl _))
  go_enter Tryz.func4, Tryz.ntmps4
  go_wp2_with fail
  go_ret
  exact ⟨_, rfl, O0.out, B0.out⟩

/-- the cells of the program's table -/
def tabC : Array Value := #[.string ⟨#[97, 100, 100]⟩, .string ⟨#[78]⟩, .func (.func 11) #[] #[], .string ⟨#[99, 114, 97, 115, 104]⟩, .string ⟨#[78]⟩, .func (.func 12) #[] #[], .string ⟨#[102, 105, 108, 101]⟩, .string ⟨#[78, 84]⟩, .func (.func 13) #[] #[], .string ⟨#[111, 117, 116]⟩, .string ⟨#[]⟩, .func (.func 14) #[] #[], .string ⟨#[112, 97, 99, 107]⟩, .string ⟨#[84]⟩, .func (.func 15) #[] #[], .string ⟨#[115, 111, 114, 116]⟩, .string ⟨#[84]⟩, .func (.func 16) #[] #[], .string ⟨#[115, 119, 97, 114, 109]⟩, .string ⟨#[78]⟩, .func (.func 17) #[] #[], .string ⟨#[115, 121, 110, 99]⟩, .string ⟨#[]⟩, .func (.func 18) #[] #[], .string ⟨#[119, 114, 111, 110, 103]⟩, .string ⟨#[78]⟩, .func (.func 19) #[] #[]]

set_option maxRecDepth 100000 in
theorem table_any (w : World) : Calls Tryz.prog 9 #[] w fun e w' => e = .returned (.slice (some ⟨w.heap.size, 0, none⟩) 9 9) ∧ w' = w.alloc (.cells tabC 31) := by
  go_enter Tryz.func9, Tryz.ntmps9
  go_wp2_with fail
  go_ret
  exact ⟨rfl, rfl⟩
theorem tab_at (j : Nat) (h : j < 9) : ∃ (s : ByteArray) (f : Nat), tabC[j * 3]? = some (.string (wordsL[j]'h)) ∧ tabC[j * 3 + 1]? = some (.string s) ∧ tabC[j * 3 + 2]? = some (.func (.func f) #[] #[]) := by
  have hj : j = 0 ∨ j = 1 ∨ j = 2 ∨ j = 3 ∨ j = 4 ∨ j = 5 ∨ j = 6 ∨ j = 7 ∨ j = 8 := by omega
  rcases hj with rfl | rfl | rfl | rfl | rfl | rfl | rfl | rfl | rfl <;> exact ⟨_, _, rfl, rfl, rfl⟩
theorem cell_tab {W : World} {g k : Nat} {v : Value} (h : W.heap[g]? = some (.cells tabC 31 (0, 0))) (hk : tabC[k]? = some v) : W.cell? ⟨g, k, none⟩ = some v := by
  have := cell_of_row W g k _ _ _ h
  rw [this]
  exact hk
theorem take_next (j : Nat) (h : j < 9) : wordsL.take (j + 1) = wordsL.take j ++ [wordsL[j]'h] := by
  rw [List.take_add_one, List.getElem?_eq_getElem h]
  rfl

set_option maxRecDepth 100000 in
set_option maxHeartbeats 4000000 in
theorem words_impl (w : World) : Calls Tryz.prog 5 #[] w fun e w' => ∃ v, e = .returned v ∧ OwnS w' w.heap.size v wordsL ∧ Below w.heap.size w w' := by
  obtain ⟨i0, hif, hz0', hz1, hz2⟩ := info_parts St.Tryz.infoS9
  have HT := hideW table_any
  have B1 : Hid (Below w.heap.size w (w.alloc (.cells tabC 31))) := (Below.refl _ _).alloc (Nat.le_refl _) _
  have X1 : Hid ((w.alloc (.cells tabC 31)).heap[w.heap.size]? = some (.cells tabC 31 (0, 0))) := heap_alloc_new w _
  go_enter Tryz.func5, Tryz.ntmps5
  go_wp2_with fail
  refine (HT.out w).mono ?_
  rintro e w1 ⟨rfl, hw1⟩
  rw [← hw1] at B1 X1
  have hlt1 : w.heap.size < w1.heap.size := (Array.getElem?_eq_some_iff.1 X1.out).1

  clear hw1 HT
  go_wp2_with fail
  go_loopw [6, 1, 3] (fun jv tv _ wr => ∃ (j : Nat) (aa : Option Addr) (cc : Nat), jv = .int .i64 j ∧ tv = .slice aa j cc ∧ j ≤ 9 ∧ OwnS wr w1.heap.size (.slice aa j cc) (wordsL.take j) ∧ Below w1.heap.size w1 wr) (fun jv _ _ _ => 9 - (intOf jv).toNat)
  case atStart => exact ⟨0, none, 0, rfl, rfl, Nat.zero_le _, OwnS.nil _ _, Below.refl _ _⟩
  case round =>
    obtain ⟨j, aa, cc, rfl, rfl, hj, ho, hbw⟩ := hrel
    have O := hideW ho
    have BW := hideW hbw
    have hzr := hbw.size
    clear ho hbw
    have HLJ : Hid ((wordsL.take j).length = j) := by show (wordsL.take j).length = j; rw [List.length_take, wordsL_len]; omega
    by_cases hlt : j < 9
    · have hlt' : (j : Int) < 9 := by omega
      obtain ⟨s2, f2, h0, h1, h2⟩ := tab_at j hlt
      have HX : wr.heap[w.heap.size]? = some (.cells tabC 31 (0, 0)) := (BW.out.block w.heap.size hlt1).trans X1.out
      have c0 := cell_tab HX h0
      have c1 := cell_tab HX h1
      have c2 := cell_tab HX h2
      have HNX := hideW (take_next j hlt)
      generalize wordsL[j]'hlt = q at c0 h0 HNX
      clear HX h0 h1 h2
      have OW3 : Hid (wr.ownsRow w1.heap.size 9 1 (.slice aa j cc) j ((wordsL.take j).map Value.string)) := by
        have := O.out
        unfold OwnS at this
        rw [HLJ.out] at this
        exact this
      have B3 : Hid (Below w1.heap.size w1 (wr.alloc (.cells #[.string q, .string s2, .func (.func f2) #[] #[]] 31))) := BW.out.alloc hzr _
      have OW4 := hideW (World.ownsRow.alloc OW3.out (.cells #[.string q, .string s2, .func (.func f2) #[] #[]] 31))
      have d0 : (wr.alloc (.cells #[.string q, .string s2, .func (.func f2) #[] #[]] 31)).cell? ⟨wr.heap.size, 0, none⟩ = some (.string q) := cell_of_row _ _ 0 _ _ _ (heap_alloc_new wr _)
      go_upto_region 5 with fail
      generalize wr.alloc _ = w3 at B3 OW4 d0 ⊢
      generalize wr.heap.size = gx at d0 ⊢
      have hz3 := B3.out.size
      clear c0 c1 c2
      go_wp2_with (at_builtin; refine wpList_append_own _ rfl (.tmp 10) (.tmp 13) 22 rfl w1.heap.size 9 i0 (.string ⟨#[]⟩) 1 16 Tryz.underlying22 hif hz0' hz1 hz2 rfl (by decide) _ _ _ rfl (World.ownsRow.alloc OW4.out _) ⟨w3.heap.size, 0, none⟩ 1 1 [.string q] rfl rfl (one_newS w3 _ _) (one_cellS _) (by unfold maxLen; omega) (by omega) (by simp; omega) ?_)
      intro v' w4 hown hgrow _
      obtain ⟨aa', cc', hv'⟩ := own_oneW hown
      subst hv'
      have O4 : Hid (OwnS w4 w1.heap.size (.slice aa' (j + 1) cc') (wordsL.take (j + 1))) := by
        rw [HNX.out]
        exact OwnS.snoc (by rw [HLJ.out, List.map_take]; exact hown)
      have B4 := hideW (app_one B3.out hz3 (Nat.le_refl _) OW4.out hgrow)
      clear hown hgrow
      go_wp2_with fail
      go_roundw
      case rel => exact ⟨j + 1, aa', cc', by go_num, rfl, by omega, O4.out, B4.out⟩
      case measure => simp [intOf]; omega
    · obtain rfl : j = 9 := by omega
      have O9 : Hid (OwnS wr w1.heap.size (.slice aa 9 cc) wordsL) := O.out
      clear O
      go_wp2_with fail
      go_ret
      exact ⟨_, rfl, O9.out.mono (by omega), B1.out.trans (BW.out.mono B1.out.size)⟩
end Go.Proofs.YtfbojjhmjcdemaaGreatDoor.Wd
