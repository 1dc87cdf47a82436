/- Texts put together: IntHeld, IntIn, ZeroWalks. -/
import Derived.Test.YtmkpakhpjgocjaaGreatPz4
import Derived.Test.YtmkpakhpjgocjaaGreatPz5
import Derived.Test.YtmkpakhpjgocjaaGreatPz9
import Derived.Test.YtmkpakhpjgocjaaGreatPz24
/- The laws' marks found again; an empty row too. -/
namespace Go.Proofs.YtmkpakhpjgocjaaGreat.In
open Go.RowKit

end Go.Proofs.YtmkpakhpjgocjaaGreat.In

/- Rows of numbers between two marks of memory: what the laws' helpers do with them. -/
namespace Go.Proofs.YtmkpakhpjgocjaaGreat.In
open Go.RowKit
open Go.Proofs.YtmkpakhpjgocjaaGreat.St (Aft)

/-- a row of numbers in a block from lo on and below hi, or nil -/
def OwnIn (w : World) (lo hi : Nat) (v : Value) (l : List Int) : Prop :=
  (v = .slice none 0 0 ∧ l = []) ∨ ∃ g cap, v = .slice (some ⟨g, 0, none⟩) l.length cap ∧ lo ≤ g ∧ g < hi ∧ IsO w g 2 l
theorem OwnI.inn {w : World} {base : Nat} {v : Value} {l : List Int} (h : OwnI w base v l) : OwnIn w base w.heap.size v l := by
  rcases h.split with h | ⟨g, cap, hv, hg, _, ho⟩
  · exact .inl h
  · exact .inr ⟨g, cap, hv, hg, ho.lt, ho⟩
theorem IsI.inn {w : World} {g : Nat} {l : List Int} (h : IsI w g 2 l) (cap : Nat) : OwnIn w g (g + 1) (.slice (some ⟨g, 0, none⟩) l.length cap) l :=
  .inr ⟨g, cap, rfl, Nat.le_refl _, Nat.lt_succ_self _, h.own⟩
theorem OwnIn.below {w w' : World} {lo hi B : Nat} {v : Value} {l : List Int} (h : OwnIn w lo hi v l) (b : Below B w w') (hB : hi ≤ B) : OwnIn w' lo hi v l := by
  rcases h with h | ⟨g, cap, hv, hg, hh, ho⟩
  · exact .inl h
  · exact .inr ⟨g, cap, hv, hg, hh, ho.below b (by omega)⟩
theorem OwnIn.aft {w w' : World} {lo hi g : Nat} {v : Value} {l : List Int} (h : OwnIn w lo hi v l) (ha : Aft g w w') (hg : g < lo ∨ hi ≤ g) (hh : hi ≤ w.heap.size) : OwnIn w' lo hi v l := by
  rcases h with h | ⟨g', cap, hv, hg', hh', ho⟩
  · exact .inl h
  · exact .inr ⟨g', cap, hv, hg', hh', ho.of_heap (ha.2.2.2.2 g' (by omega) (by omega))⟩
theorem OwnIn.ints {w : World} {lo hi : Nat} {v : Value} {l : List Int} (h : OwnIn w lo hi v l) : ∃ a cap, v = .slice a l.length cap ∧ Ints w hi a l := by
  rcases h with ⟨rfl, rfl⟩ | ⟨g, cap, rfl, _, hh, ho⟩
  · exact ⟨none, 0, rfl, .inl rfl⟩
  · exact ⟨_, cap, rfl, ho.ints hh⟩

/-- the marks stand in a row of so many numbers -/
def IntMarked (w : World) (lo hi : Nat) (v : Value) (n : Nat) : Prop := OwnIn w lo hi v (marks 1 n)
end Go.Proofs.YtmkpakhpjgocjaaGreat.In

/- The walks of both ZerosOf. -/
namespace Go.Proofs.YtmkpakhpjgocjaaGreat.Ze
open Go.RowKit
open Go.Proofs.YtmkpakhpjgocjaaGreat.Bi (upTo_impl ret_boolB)
open Go.Proofs.YtmkpakhpjgocjaaGreat.In (Ints OwnI one_newI one_cellI app_one)
open Go.Proofs.YtmkpakhpjgocjaaGreat.In.Tryz (infoI2)

theorem OwnI.alloc {w : World} {base : Nat} {v : Value} {l : List Int} (h : OwnI w base v l) (o : Obj) : OwnI (w.alloc o) base v l :=
  h.below ((Below.refl _ _).alloc (Nat.le_refl _) o)

set_option maxRecDepth 100000 in
set_option maxHeartbeats 1000000 in
theorem putZeros_any (l : List Int) (r base : Nat) (v : Value) (w : World) (ho : OwnI w base v l) (hb : base ≤ w.heap.size) (hs : l.length + r ≤ 1048576) :
    Calls Tryz.prog 51 #[v, .int .i64 r] w fun e w' => ∃ v', e = .returned v' ∧ OwnI w' base v' (l ++ zrun r) ∧ Below base w w' := by
  obtain ⟨i0, hi0, hz0, hz1, hz2⟩ := info_parts infoI2
  have HO := hideZ ho
  obtain ⟨a, cap, rfl, _, _⟩ := ho.ints
  clear ho
  generalize hln : l.length = n at hs HO
  have HLN := hideZ hln
  clear hln
  go_enter Tryz.func51, Tryz.ntmps51
  go_wp2_with fail
  go_loopw [0, 1] (fun u m wr => ∃ (l' : List Int) (r' : Nat), m = .int .i64 r' ∧ OwnI wr base u l' ∧ l' ++ zrun r' = l ++ zrun r ∧ l'.length + r' ≤ 1048576 ∧ Below base w wr) (fun _ m _ => (intOf m).toNat)
  case atStart => exact ⟨l, r, rfl, HO.out, rfl, by have := HLN.out; omega, Below.refl _ _⟩
  case round =>
    obtain ⟨l', r', rfl, hown, he, hs', hbel⟩ := hrel
    have G1 := hideZ hown
    have GB := hideZ hbel
    have HE := hideZ he
    have hz := hbel.size
    have HS := hideZ hs'
    have hs2 : r' ≤ 1048576 := by omega
    clear he hbel hs'
    obtain ⟨a', cap', rfl, _, _⟩ := hown.ints
    clear hown
    by_cases h0 : 0 < r'
    · by_cases h1 : r' % 2 = 1
      · have hq : (r' : Int).tmod 2 = 1 := by rw [Int.tmod_eq_emod_of_nonneg (by omega)]; omega
        have hd : ((r' : Int) - 1).tdiv 2 = (((r' - 1) / 2 : Nat) : Int) := by rw [Int.tdiv_eq_ediv_of_nonneg (by omega)]; omega
        have HZ : Hid (l' ++ ([0] ++ zrun ((r' - 1) / 2)) = l ++ zrun r) := by
          unfold Hid
          rw [← HE.out, zrun_odd h1]
          rfl
        go_wp2_with (at_builtin; refine wpList_append_own _ rfl (.tmp 10) (.tmp 11) 45 rfl base 2 i0 (.int .i64 0) 1 8 Tryz.underlying45 hi0 hz0 hz1 hz2 rfl (by decide) _ _ _ rfl (OwnI.alloc G1.out _) ⟨wr.heap.size, 0, none⟩ 1 1 [.int .i64 0] rfl rfl (one_newI _ _ _) (one_cellI _) (by unfold maxLen; have := HS.out; omega) (by have := HS.out; omega) (by simp; omega) ?_)
        intro v' w5 hown' hgrow _
        have N5 := hideZ (OwnI.snoc hown')
        have b5 := hideZ (app_one GB.out (by omega) (Nat.le_refl _) G1.out hgrow)
        clear hown' hgrow
        go_wp2_with fail
        go_roundw
        case rel => exact ⟨l' ++ [0], (r' - 1) / 2, by go_num, N5.out, by rw [List.append_assoc]; exact HZ.out, by have := HS.out; simp; omega, b5.out⟩
        case measure => simp [intOf]; omega
      · have hq : (r' : Int).tmod 2 = 0 := by rw [Int.tmod_eq_emod_of_nonneg (by omega)]; omega
        have hd : ((r' : Int) - 2).tdiv 2 = (((r' - 2) / 2 : Nat) : Int) := by rw [Int.tdiv_eq_ediv_of_nonneg (by omega)]; omega
        have HZ : Hid (l' ++ ([1] ++ zrun ((r' - 2) / 2)) = l ++ zrun r) := by
          unfold Hid
          rw [← HE.out, zrun_even h0 h1]
          rfl
        go_wp2_with (at_builtin; refine wpList_append_own _ rfl (.tmp 16) (.tmp 17) 45 rfl base 2 i0 (.int .i64 0) 1 8 Tryz.underlying45 hi0 hz0 hz1 hz2 rfl (by decide) _ _ _ rfl (OwnI.alloc G1.out _) ⟨wr.heap.size, 0, none⟩ 1 1 [.int .i64 1] rfl rfl (one_newI _ _ _) (one_cellI _) (by unfold maxLen; have := HS.out; omega) (by have := HS.out; omega) (by simp; omega) ?_)
        intro v' w5 hown' hgrow _
        have N5 := hideZ (OwnI.snoc hown')
        have b5 := hideZ (app_one GB.out (by omega) (Nat.le_refl _) G1.out hgrow)
        clear hown' hgrow
        go_wp2_with fail
        go_roundw
        case rel => exact ⟨l' ++ [1], (r' - 2) / 2, by go_num, N5.out, by rw [List.append_assoc]; exact HZ.out, by have := HS.out; simp; omega, b5.out⟩
        case measure => simp [intOf]; omega
    · obtain rfl : r' = 0 := by omega
      have HZ : Hid (l' = l ++ zrun r) := by
        unfold Hid
        rw [← HE.out, zrun_zero, List.append_nil]
      go_wp2_with fail
      go_ret
      exact ⟨_, rfl, by rw [← HZ.out]; exact G1.out, GB.out⟩
end Go.Proofs.YtmkpakhpjgocjaaGreat.Ze
