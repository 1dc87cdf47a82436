/- Rows of texts between two marks of memory: what the laws' helpers do with them. -/
import Derived.Test.YtfbojjhmjcdemaaGreatDoorStrOwn
import Derived.Test.YtfbojjhmjcdemaaGreatDoorHeld
namespace Go.Proofs.YtfbojjhmjcdemaaGreatDoor.St
open Go.RowKit

/-- a row of texts in a block from lo on and below hi, or nil -/
def OwnIn (w : World) (lo hi : Nat) (v : Value) (l : List ByteArray) : Prop :=
  (v = .slice none 0 0 ∧ l = []) ∨ ∃ g cap, v = .slice (some ⟨g, 0, none⟩) l.length cap ∧ lo ≤ g ∧ g < hi ∧ IsO w g 9 l
theorem OwnS.inn {w : World} {base : Nat} {v : Value} {l : List ByteArray} (h : OwnS w base v l) : OwnIn w base w.heap.size v l := by
  rcases h.split with h | ⟨g, cap, hv, hg, _, ho⟩
  · exact .inl h
  · exact .inr ⟨g, cap, hv, hg, ho.lt, ho⟩
theorem IsS.inn {w : World} {g : Nat} {l : List ByteArray} (h : IsS w g 9 l) (cap : Nat) : OwnIn w g (g + 1) (.slice (some ⟨g, 0, none⟩) l.length cap) l :=
  .inr ⟨g, cap, rfl, Nat.le_refl _, Nat.lt_succ_self _, h.own⟩
theorem OwnIn.below {w w' : World} {lo hi B : Nat} {v : Value} {l : List ByteArray} (h : OwnIn w lo hi v l) (b : Below B w w') (hB : hi ≤ B) : OwnIn w' lo hi v l := by
  rcases h with h | ⟨g, cap, hv, hg, hh, ho⟩
  · exact .inl h
  · exact .inr ⟨g, cap, hv, hg, hh, ho.below b (by omega)⟩
theorem OwnIn.aft {w w' : World} {lo hi g : Nat} {v : Value} {l : List ByteArray} (h : OwnIn w lo hi v l) (ha : Aft g w w') (hg : g < lo ∨ hi ≤ g) (hh : hi ≤ w.heap.size) : OwnIn w' lo hi v l := by
  rcases h with h | ⟨g', cap, hv, hg', hh', ho⟩
  · exact .inl h
  · exact .inr ⟨g', cap, hv, hg', hh', ho.of_heap (ha.2.2.2.2 g' (by omega) (by omega))⟩
theorem OwnIn.strs {w : World} {lo hi : Nat} {v : Value} {l : List ByteArray} (h : OwnIn w lo hi v l) : ∃ a cap, v = .slice a l.length cap ∧ Strs w hi a l := by
  rcases h with ⟨rfl, rfl⟩ | ⟨g, cap, rfl, _, hh, ho⟩
  · exact ⟨none, 0, rfl, .inl rfl⟩
  · exact ⟨_, cap, rfl, ho.strs hh⟩

theorem eq_in {w : World} {lo hi lo' hi' : Nat} {u v : Value} {l : List ByteArray} (hu : OwnIn w lo hi u l) (hv : OwnIn w lo' hi' v l) (hn : l.length ≤ 1048576) :
    Calls Tryz.prog 6 #[u, v] w fun e w' => e = .returned (.bool true) ∧ Below w.heap.size w w' := by
  obtain ⟨a, cap, rfl, ha⟩ := hu.strs
  obtain ⟨b, cap', rfl, hb⟩ := hv.strs
  exact eq_any a b cap cap' l w (max hi hi') (ha.mono (Nat.le_max_left _ _)) (hb.mono (Nat.le_max_right _ _)) hn

/-- the marks stand in a row of so many texts -/
def Marked (w : World) (lo hi : Nat) (v : Value) (n : Nat) : Prop := OwnIn w lo hi v (marks 1 n)
theorem mark_in {w : World} {lo hi : Nat} {v : Value} {l : List ByteArray} (h : OwnIn w lo hi v l) (hn : l.length ≤ 1048576) :
    Calls Tryz.prog 7 #[v, .int .i64 1] w fun e w' => e = .returned (.int .i64 (1 + l.length)) ∧ OwnIn w' lo hi v (marks 1 l.length) ∧ ∃ g, (g = lo ∨ (lo ≤ g ∧ g < hi)) ∧ Aft g w w' := by
  rcases h with ⟨rfl, rfl⟩ | ⟨g, cap, rfl, hg, hh, ho⟩
  · refine (mark_none none 0 w).mono ?_
    rintro e w' ⟨rfl, rfl⟩
    exact ⟨rfl, .inl ⟨rfl, rfl⟩, lo, .inl rfl, Aft.refl _ _⟩
  · refine (mark_any g 9 cap l w ho hn).mono ?_
    rintro e w' ⟨rfl, hi', ha⟩
    exact ⟨rfl, .inr ⟨g, cap, by rw [marks_length], hg, hh, hi'⟩, g, .inr ⟨hg, hh⟩, ha⟩
theorem held_in {w : World} {lo hi n : Nat} {v : Value} (h : OwnIn w lo hi v (marks 1 n)) (hn : n ≤ 1048576) :
    Calls Tryz.prog 8 #[v, .int .i64 1] w fun e w' => e = .returned (.int .i64 (1 + n)) ∧ Below w.heap.size w w' := by
  rcases h with ⟨rfl, h0⟩ | ⟨g, cap, rfl, hg, hh, ho⟩
  · have : n = 0 := by rw [← marks_length 1 n, h0]; rfl
    subst this
    refine (held_none none 0 w).mono ?_
    rintro e w' ⟨rfl, rfl⟩
    exact ⟨rfl, Below.refl _ _⟩
  · rw [marks_length]
    exact held_any g 9 cap n w ho hn
end Go.Proofs.YtfbojjhmjcdemaaGreatDoor.St
