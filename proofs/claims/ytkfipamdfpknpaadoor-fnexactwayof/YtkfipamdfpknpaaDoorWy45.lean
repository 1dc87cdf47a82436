/- Texts put together: StrIn, StrRow. -/
import Derived.Test.YtkfipamdfpknpaaDoorWy33
import Derived.Test.YtkfipamdfpknpaaDoorWy44
import Derived.Test.YtkfipamdfpknpaaDoorWy14
/- Rows of texts between two marks of memory: what the laws' helpers do with them. -/
namespace Go.Proofs.YtkfipamdfpknpaaDoor.St
open Go.RowKit
def OwnIn (w : World) (lo hi : Nat) (v : Value) (l : List ByteArray) : Prop :=
 (v = .slice none 0 0 ∧ l = []) ∨ ∃ g cap, v = .slice (some ⟨g, 0, none⟩) l.length cap ∧ lo ≤ g ∧ g < hi ∧ IsO w g 9 l
theorem OwnS.inn {w : World} {base : Nat} {v : Value} {l : List ByteArray} (h : OwnS w base v l) : OwnIn w base w.heap.size v l := by
 rcases h.split with h | ⟨g, cap, hv, hg, _, ho⟩
 ·exact .inl h
 ·exact .inr ⟨g, cap, hv, hg, ho.lt, ho⟩
theorem IsS.inn {w : World} {g : Nat} {l : List ByteArray} (h : IsS w g 9 l) (cap : Nat) : OwnIn w g (g + 1) (.slice (some ⟨g, 0, none⟩) l.length cap) l :=
 .inr ⟨g, cap, rfl, Nat.le_refl _, Nat.lt_succ_self _, h.own⟩
theorem OwnIn.below {w w' : World} {lo hi B : Nat} {v : Value} {l : List ByteArray} (h : OwnIn w lo hi v l) (b : Below B w w') (hB : hi ≤ B) : OwnIn w' lo hi v l := by
 rcases h with h | ⟨g, cap, hv, hg, hh, ho⟩
 ·exact .inl h
 ·exact .inr ⟨g, cap, hv, hg, hh, ho.below b (by omega)⟩
theorem OwnIn.aft {w w' : World} {lo hi g : Nat} {v : Value} {l : List ByteArray} (h : OwnIn w lo hi v l) (ha : Aft g w w') (hg : g < lo ∨ hi ≤ g) (hh : hi ≤ w.heap.size) : OwnIn w' lo hi v l := by
 rcases h with h | ⟨g', cap, hv, hg', hh', ho⟩
 ·exact .inl h
 ·exact .inr ⟨g', cap, hv, hg', hh', ho.of_heap (ha.2.2.2.2 g' (by omega) (by omega))⟩
theorem OwnIn.strs {w : World} {lo hi : Nat} {v : Value} {l : List ByteArray} (h : OwnIn w lo hi v l) : ∃ a cap, v = .slice a l.length cap ∧ Strs w hi a l := by
 rcases h with ⟨rfl, rfl⟩ | ⟨g, cap, rfl, _, hh, ho⟩
 ·exact ⟨none, 0, rfl, .inl rfl⟩
 ·exact ⟨_, cap, rfl, ho.strs hh⟩
theorem eq_in {w : World} {lo hi lo' hi' : Nat} {u v : Value} {l : List ByteArray} (hu : OwnIn w lo hi u l) (hv : OwnIn w lo' hi' v l) (hn : l.length ≤ 1048576) :
  Calls Tryd.prog 15 #[u, v] w fun e w' => e = .returned (.bool true) ∧ Below w.heap.size w w' := by
 obtain ⟨a, cap, rfl, ha⟩ := hu.strs
 obtain ⟨b, cap', rfl, hb⟩ := hv.strs
 exact eq_any a b cap cap' l w (max hi hi') (ha.mono (Nat.le_max_left _ _)) (hb.mono (Nat.le_max_right _ _)) hn
def Marked (w : World) (lo hi : Nat) (v : Value) (n : Nat) : Prop := OwnIn w lo hi v (marks 1 n)
theorem mark_in {w : World} {lo hi : Nat} {v : Value} {l : List ByteArray} (h : OwnIn w lo hi v l) (hn : l.length ≤ 1048576) :
  Calls Tryd.prog 18 #[v, .int .i64 1] w fun e w' => e = .returned (.int .i64 (1 + l.length)) ∧ OwnIn w' lo hi v (marks 1 l.length) ∧ ∃ g, (g = lo ∨ (lo ≤ g ∧ g < hi)) ∧ Aft g w w' := by
 rcases h with ⟨rfl, rfl⟩ | ⟨g, cap, rfl, hg, hh, ho⟩
 ·refine (mark_none none 0 w).mono ?_
  rintro e w' ⟨rfl, rfl⟩
  exact ⟨rfl, .inl ⟨rfl, rfl⟩, lo, .inl rfl, Aft.refl _ _⟩
 ·refine (mark_any g 9 cap l w ho hn).mono ?_
  rintro e w' ⟨rfl, hi', ha⟩
  exact ⟨rfl, .inr ⟨g, cap, by rw [marks_length], hg, hh, hi'⟩, g, .inr ⟨hg, hh⟩, ha⟩
theorem held_in {w : World} {lo hi n : Nat} {v : Value} (h : OwnIn w lo hi v (marks 1 n)) (hn : n ≤ 1048576) :
  Calls Tryd.prog 19 #[v, .int .i64 1] w fun e w' => e = .returned (.int .i64 (1 + n)) ∧ Below w.heap.size w w' := by
 rcases h with ⟨rfl, h0⟩ | ⟨g, cap, rfl, hg, hh, ho⟩
 ·have : n = 0 := by rw [← marks_length 1 n, h0]; rfl
  subst this
  refine (held_none none 0 w).mono ?_
  rintro e w' ⟨rfl, rfl⟩
  exact ⟨rfl, Below.refl _ _⟩
 ·rw [marks_length]
  exact held_any g 9 cap n w ho hn
end Go.Proofs.YtkfipamdfpknpaaDoor.St


/- The laws' own copy of a row of texts. -/
namespace Go.Proofs.YtkfipamdfpknpaaDoor.St
open Go.RowKit
set_option maxRecDepth 100000 in
set_option maxHeartbeats 1000000 in
theorem toStr_any (a : Option Addr) (cap : Nat) (l : List ByteArray) (w : World) (h : Strs w w.heap.size a l) (hn : l.length ≤ 1048576) :
    Calls Tryd.prog 13 #[.slice a l.length cap] w fun e w' => e = .returned (.slice (some ⟨w.heap.size, 0, none⟩) l.length l.length) ∧ IsS w' w.heap.size 9 l ∧ Below w.heap.size w w' := by
  obtain ⟨i0, hi, hz0, hz1, hz2⟩ := info_parts Tryd.infoS9
  have HS := hideT h
  clear h
  obtain ⟨n, hln⟩ : ∃ n, n = l.length := ⟨_, rfl⟩
  have HLN := hideT hln
  rw [← hln] at hn ⊢
  clear hln
  go_enter Tryd.func13, Tryd.ntmps13
  go_wp2_with (at_make; refine wpList_make_full _ rfl (.tmp 6) (.tmp 6) 30 rfl w.heap.size 9 i0 (.string ⟨#[]⟩) 1 Tryd.underlying30 hi hz0 hz1 .i64 .i64 _ _ n rfl rfl (by simp) (by simp) (by rw [hz2]; omega) (by unfold maxLen; omega) (Nat.le_refl _) ?_; intro w1 hown1 hgrow1; have HR := hideT (made_strs hown1); have HB := hideT ((Below.refl w.heap.size w).grown hgrow1 (Nat.le_refl _) (by simp)); clear hown1 hgrow1)
  go_loopw [4] (fun i wr => ∃ k : Nat, i = .int .i64 k ∧ k ≤ n ∧ IsS wr w.heap.size 9 (mid l k) ∧ Below w.heap.size w wr) (fun i _ => n - (intOf i).toNat)
  case atStart => exact ⟨0, rfl, by omega, by rw [mid_zero, ← HLN.out]; exact HR.out, HB.out⟩
  case round =>
    obtain ⟨k, rfl, hk, h1, hbel⟩ := hrel
    have G1 := hideT h1
    have GB := hideT hbel
    by_cases hlt : k < n
    · have hkl : k < l.length := by rw [← HLN.out]; exact hlt
      obtain ⟨b, off, rfl, hb, hc⟩ := (HS.out.below hbel).some (by omega)
      have ci := hc k hkl
      have HM := hideT (mid_next l k hkl)
      have cf := h1.frozen k
      have ce : ∃ v, wr.cell? ⟨w.heap.size, k, none⟩ = some (.string v) := ⟨_, h1.cell (j := k) (by rw [mid_length l k (by omega)]; exact hkl)⟩
      obtain ⟨v0, ce⟩ := ce
      obtain ⟨s, hs⟩ : ∃ s, s = l[k] := ⟨_, rfl⟩
      have HSE := hideT hs
      rw [← hs] at ci
      clear h1 hbel hc hs
      go_wp2_with fail
      go_roundw
      case rel => exact ⟨k + 1, by go_num, by omega, by rw [← HM.out, ← HSE.out]; exact G1.out.set k s, GB.out.setCell (Nat.le_refl _) _⟩
      case measure => simp [intOf]; omega
    · have HE : Hid (mid l k = l) := by
        unfold Hid
        rw [show k = l.length by have := HLN.out; omega]
        exact mid_all l
      clear h1 hbel
      go_wp2_with fail
      go_ret
      exact ⟨rfl, by rw [← HE.out]; exact G1.out, GB.out⟩
end Go.Proofs.YtkfipamdfpknpaaDoor.St

