/- Texts put together: WayMath, TreeHalf. -/
import Derived.Test.YtkfipamdfpknpaaDoorWy23
import Derived.Test.YtkfipamdfpknpaaDoorWy22
/- The way from a piece to the root: plain mathematics. -/
namespace Go.Proofs.YtkfipamdfpknpaaDoor.Tr
open Go.Proofs.YtkfipamdfpknpaaDoor.Sh (nodeV leafV)
inductive Stp where
 | leaf (t : ByteArray)
 | node (l r : ByteArray)
def Stp.text : Stp → ByteArray
 | .leaf t => ⟨#[0]⟩ ++ t
 | .node l r => ⟨#[1]⟩ ++ l ++ r
def Stp.dig : Stp → ByteArray
 | .leaf t => leafV t
 | .node l r => nodeV l r
theorem Stp.sha (s : Stp) : s.dig = Sh.sha s.text := by cases s <;> rfl
abbrev WS := ByteArray × List Stp
def wL (s : ByteArray) (x : WS) : WS := (nodeV s x.1, x.2 ++ [.node s x.1])
def wR (x : WS) (s : ByteArray) : WS := (nodeV x.1 s, x.2 ++ [.node x.1 s])
def w0 (t : ByteArray) : WS := (leafV t, [.leaf t])
def Top (x : WS) : Prop := ∃ q s, x.2 = q ++ [s] ∧ s.dig = x.1
theorem top_w0 (t : ByteArray) : Top (w0 t) := ⟨[], .leaf t, rfl, rfl⟩
theorem top_wL (s : ByteArray) (x : WS) : Top (wL s x) := ⟨x.2, .node s x.1, rfl, rfl⟩
theorem top_wR (s : ByteArray) (x : WS) : Top (wR x s) := ⟨x.2, .node x.1 s, rfl, rfl⟩
def wayR (n i : Nat) (p : List ByteArray) (t : ByteArray) : Option WS := gR wL wR n n i p (w0 t)
theorem way_same (n i : Nat) (p : List ByteArray) (t : ByteArray) (h : i < n) : wayR n i p t = gS wL wR i (n - 1) p (w0 t) := g_same wL wR n n i p (w0 t) (Nat.le_refl _) h
theorem gS_fst : ∀ (p : List ByteArray) (a last : Nat) (x : WS), (gS wL wR a last p x).map Prod.fst = climbS a last p x.1
 | [], a, last, x => by
  rw [gS_nil, climbS_nil]
  split <;> rfl
 | s :: p, a, last, x => by
  by_cases h0 : last = 0
  ·subst h0
   rw [gS_zero _ _ _ _ _ (by simp), climbS_zero _ _ _ (by simp)]
   rfl
  ·by_cases h1 : a % 2 = 1
   ·rw [gS_odd _ _ _ _ _ _ _ h0 h1, climbS_odd _ _ _ _ _ h0 h1, gS_fst p]
    rfl
   ·by_cases h2 : a = last
    ·subst h2
     rw [gS_end _ _ _ _ _ _ h0 (by omega), climbS_end _ _ _ _ h0 (by omega), gS_fst p]
     rfl
    ·rw [gS_even _ _ _ _ _ _ _ h0 (by omega) h2, climbS_even _ _ _ _ _ h0 (by omega) h2, gS_fst p]
     rfl
theorem od_le (a : Nat) : od a ≤ a := by
 induction a using Nat.strongRecOn with
 | ind a ih =>
  by_cases h : a % 2 = 0 ∧ 0 < a
  ·rw [od_even a h.1 h.2]
   have := ih (a / 2) (by omega)
   omega
  ·rw [od_odd a h]
   exact Nat.le_refl _
theorem gS_len {α : Type} (FL : ByteArray → α → α) (FR : α → ByteArray → α) : ∀ (p : List ByteArray) (a last : Nat) (x y : α), gS FL FR a last p x = some y → p.length ≤ last
 | [], _, _, _, _, _ => Nat.zero_le _
 | s :: p, a, last, x, y, h => by
  by_cases h0 : last = 0
  ·subst h0
   rw [gS_zero _ _ _ _ _ (by simp)] at h
   cases h
  ·rw [List.length_cons]
   by_cases h1 : a % 2 = 1
   ·rw [gS_odd _ _ _ _ _ _ _ h0 h1] at h
    have := gS_len FL FR p _ _ _ _ h
    omega
   ·by_cases h2 : a = last
    ·subst h2
     rw [gS_end _ _ _ _ _ _ h0 (by omega)] at h
     have := gS_len FL FR p _ _ _ _ h
     have := od_le a
     omega
    ·rw [gS_even _ _ _ _ _ _ _ h0 (by omega) h2] at h
     have := gS_len FL FR p _ _ _ _ h
     omega
theorem gR_one {α : Type} (FL : ByteArray → α → α) (FR : α → ByteArray → α) (f i : Nat) (p : List ByteArray) (x : α) : gR FL FR (f + 1) 1 i p x = if p = [] then some x else none := by
 rw [gR, if_pos (Nat.le_refl _)]
theorem gR_left {α : Type} (FL : ByteArray → α → α) (FR : α → ByteArray → α) (f n i : Nat) (p : List ByteArray) (s : ByteArray) (x : α) (hn : 1 < n) (hi : i < half n) : gR FL FR (f + 1) n i (p ++ [s]) x = (gR FL FR f (half n) i p x).map (fun y => FR y s) := by
 rw [gR, if_neg (by omega)]
 simp [hi]
theorem gR_right {α : Type} (FL : ByteArray → α → α) (FR : α → ByteArray → α) (f n i : Nat) (p : List ByteArray) (s : ByteArray) (x : α) (hn : 1 < n) (hi : ¬ i < half n) : gR FL FR (f + 1) n i (p ++ [s]) x = (gR FL FR f (n - half n) (i - half n) p x).map (fun y => FL s y) := by
 rw [gR, if_neg (by omega)]
 simp [hi]
theorem gR_none {α : Type} (FL : ByteArray → α → α) (FR : α → ByteArray → α) (f n i : Nat) (x : α) (hn : 1 < n) : gR FL FR (f + 1) n i [] x = none := by
 rw [gR, if_neg (by omega)]
 rfl
end Go.Proofs.YtkfipamdfpknpaaDoor.Tr


/- Where a list is cut: spec.l03Half by doubling, impl.firstPart by the number of bits (math/bits.Len64). -/
namespace Go.Proofs.YtkfipamdfpknpaaDoor.Tr
open Go.RowKit
open Go.Proofs.YtkfipamdfpknpaaDoor.St (hideT)
theorem ret_int {a b : Int} (h : a = b) : Ending.returned (.int .i64 a) = .returned (.int .i64 b) := by rw [h]
def len (x : Nat) : Nat := if x = 0 then 0 else Nat.log2 x + 1
end Go.Proofs.YtkfipamdfpknpaaDoor.Tr

