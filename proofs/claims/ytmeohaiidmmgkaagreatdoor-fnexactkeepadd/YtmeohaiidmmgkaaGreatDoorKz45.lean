/- Texts put together: StrSzL, Mark, Held, StrIn. -/
import Derived.Test.YtmeohaiidmmgkaaGreatDoorKz44
import Derived.Test.YtmeohaiidmmgkaaGreatDoorKz14
import Derived.Deep.RegionWith
import Derived.BigRegion
import Derived.Test.YtmeohaiidmmgkaaGreatDoorKz15
/- The budget of sizes of a row of texts, where something is spent of it already. -/
namespace Go.Proofs.YtmeohaiidmmgkaaGreatDoor.St
open Go.RowKit
set_option maxRecDepth 100000 in
set_option maxHeartbeats 1000000 in
/-- what is left of a budget: below 0, or each text and their number are within it -/
theorem szL_any (L : Nat) (hL : L ≤ 1048576) (a : Option Addr) (cap : Nat) (l : List ByteArray) (w : World) (h : Strs w w.heap.size a l) (hn : l.length ≤ maxLen) (hs : ∀ s ∈ l, s.size ≤ maxLen) :
  Calls Tryz.prog 13 #[.slice a l.length cap, .int .i64 (L : Nat)] w fun e w' => ∃ r : Int, e = .returned (.int .i64 r) ∧ (0 ≤ r → l.length ≤ 1048576 ∧ ∀ s ∈ l, s.size ≤ 1048576) ∧ w' = w := by
 have HS := hideT h
 have HZ := hideT hs
 clear h hs
 unfold maxLen at hn
 obtain ⟨n, hln⟩ : ∃ n, n = l.length := ⟨_, rfl⟩
 have HLN := hideT hln
 rw [← hln] at hn ⊢
 clear hln
 by_cases hbig : L < n
 ·have g1 : (L : Int) - n < 0 := by omega
  go_enter Tryz.func13, Tryz.ntmps13
  go_wp2_with fail
  go_ret
  exact ⟨-1, rfl, fun h => by omega, rfl⟩
 ·have g1 : ¬ (L : Int) - n < 0 := by omega
  go_enter Tryz.func13, Tryz.ntmps13
  go_wp2_with fail
  go_loopw [5, 1] (fun i v wr => ∃ (k : Nat) (r : Int), i = .int .i64 k ∧ v = .int .i64 r ∧ k ≤ n ∧ 0 ≤ r ∧ r ≤ 1048576 ∧ (∀ j (hj : j < l.length), j < k → l[j].size ≤ 1048576) ∧ wr = w) (fun i _ _ => n - (intOf i).toNat)
  case atStart => exact ⟨0, _, rfl, rfl, by omega, by omega, by omega, fun j hj h0 => by omega, rfl⟩
  case round =>
   obtain ⟨k, r, rfl, rfl, hk, r0, r1, hall, hw⟩ := hrel
   subst hw
   have HA := hideT hall
   clear hall
   by_cases hlt : k < n
   ·have hkl : k < l.length := by rw [← HLN.out]; exact hlt
    obtain ⟨b, off, rfl, hb, hc⟩ := HS.out.some (by omega)
    have ci := hc k hkl
    have hsz := HZ.out l[k] (List.getElem_mem hkl)
    obtain ⟨s, hs⟩ : ∃ s, s = l[k] := ⟨_, rfl⟩
    have HSE := hideT hs
    rw [← hs] at ci hsz
    unfold maxLen at hsz
    clear hc hs
    by_cases hneg : r - s.size < 0
    ·go_wp2_with fail
     go_ret
     exact ⟨-1, rfl, fun h => by omega, rfl⟩
    ·go_wp2_with fail
     go_roundw
     case rel =>
      refine ⟨k + 1, _, by go_num, rfl, by omega, by omega, by omega, fun j hj h0 => ?_, trivial⟩
      by_cases e : j = k
      ·subst e
       rw [← HSE.out]
       omega
      ·exact HA.out j hj (by omega)
     case measure => simp [intOf]; omega
   ·go_wp2_with fail
    go_ret
    refine ⟨r, rfl, fun _ => ⟨by have := HLN.out; omega, fun s hs => ?_⟩, rfl⟩
    obtain ⟨j, hj, rfl⟩ := List.getElem_of_mem hs
    exact HA.out j hj (by have := HLN.out; omega)
end Go.Proofs.YtmeohaiidmmgkaaGreatDoor.St


/- The laws' marks: the text of a mark, marks written into a row of texts, marks found again. -/
namespace Go.Proofs.YtmeohaiidmmgkaaGreatDoor.St
open Go.RowKit
def dg (k : Nat) (o : ByteArray) : ByteArray := if _h : k = 0 then o else dg (k / 10) (⟨#[UInt8.ofNat (48 + k % 10)]⟩ ++ o)
termination_by k
decreasing_by omega
def markT (k : Nat) : ByteArray := ⟨#[109]⟩ ++ dg k ⟨#[]⟩
def marks (k n : Nat) : List ByteArray := (List.range n).map fun j => markT (k + j)
def mmid (l : List ByteArray) (k i : Nat) : List ByteArray := marks k i ++ l.drop i
end Go.Proofs.YtmeohaiidmmgkaaGreatDoor.St


/- The laws' marks found again; an empty row too. -/
namespace Go.Proofs.YtmeohaiidmmgkaaGreatDoor.St
open Go.RowKit
end Go.Proofs.YtmeohaiidmmgkaaGreatDoor.St


/- Rows of texts between two marks of memory: what the laws' helpers do with them. -/
namespace Go.Proofs.YtmeohaiidmmgkaaGreatDoor.St
open Go.RowKit
def OwnIn (w : World) (lo hi : Nat) (v : Value) (l : List ByteArray) : Prop :=
 (v = .slice none 0 0 ∧ l = []) ∨ ∃ g cap, v = .slice (some ⟨g, 0, none⟩) l.length cap ∧ lo ≤ g ∧ g < hi ∧ IsO w g 9 l
theorem OwnIn.below {w w' : World} {lo hi B : Nat} {v : Value} {l : List ByteArray} (h : OwnIn w lo hi v l) (b : Below B w w') (hB : hi ≤ B) : OwnIn w' lo hi v l := by
 rcases h with h | ⟨g, cap, hv, hg, hh, ho⟩
 ·exact .inl h
 ·exact .inr ⟨g, cap, hv, hg, hh, ho.below b (by omega)⟩
theorem OwnIn.strs {w : World} {lo hi : Nat} {v : Value} {l : List ByteArray} (h : OwnIn w lo hi v l) : ∃ a cap, v = .slice a l.length cap ∧ Strs w hi a l := by
 rcases h with ⟨rfl, rfl⟩ | ⟨g, cap, rfl, _, hh, ho⟩
 ·exact ⟨none, 0, rfl, .inl rfl⟩
 ·exact ⟨_, cap, rfl, ho.strs hh⟩
def Marked (w : World) (lo hi : Nat) (v : Value) (n : Nat) : Prop := OwnIn w lo hi v (marks 1 n)
end Go.Proofs.YtmeohaiidmmgkaaGreatDoor.St

