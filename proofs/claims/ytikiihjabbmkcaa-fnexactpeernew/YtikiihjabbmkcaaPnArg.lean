/- A PeerOut without Others and without letters: two of them compared, marked, and found marked. -/
import Derived.Test.YtikiihjabbmkcaaKpArg
namespace Go.Proofs.Ytikiihjabbmkcaa.Pn
open Go.RowKit
open Go.Proofs.Ytikiihjabbmkcaa.Kp
open Go.Proofs.Ytikiihjabbmkcaa.Ls (lowL)

def peV (z b : Int) (r s : ByteArray) (y : Int) : Value := .agg #[.int .i64 z, .int .i64 b, .string r, .string s, .int .i64 y, .slice none 0 0]
def peB (z b : Int) (r s : ByteArray) (y : Int) : Obj := .cells #[.int .i64 z, .int .i64 b, .string r, .string s, .int .i64 y, .slice none 0 0] 30
def poV (z b : Int) (r s : ByteArray) (y c : Int) : Value := .agg #[.int .i64 z, .int .i64 b, .string r, .string s, .int .i64 y, .slice none 0 0, .slice none 0 0, .int .i64 c]
def poB (z b : Int) (r s : ByteArray) (y c : Int) : Obj := .cells #[.int .i64 z, .int .i64 b, .string r, .string s, .int .i64 y, .slice none 0 0, .slice none 0 0, .int .i64 c] 33
theorem cells6 {W : World} {g : Nat} {x0 x1 x2 x3 x4 x5 : Value} {T : TypeId} (h : W.heap[g]? = some (.cells #[x0, x1, x2, x3, x4, x5] T (0, 0))) : W.cell? ⟨g, 0, none⟩ = some x0 ∧ W.cell? ⟨g, 1, none⟩ = some x1 ∧ W.cell? ⟨g, 2, none⟩ = some x2 ∧ W.cell? ⟨g, 3, none⟩ = some x3 ∧ W.cell? ⟨g, 4, none⟩ = some x4 ∧ W.cell? ⟨g, 5, none⟩ = some x5 :=
  ⟨cell_of_row W g 0 _ _ _ h, cell_of_row W g 1 _ _ _ h, cell_of_row W g 2 _ _ _ h, cell_of_row W g 3 _ _ _ h, cell_of_row W g 4 _ _ _ h, cell_of_row W g 5 _ _ _ h⟩
theorem cells8 {W : World} {g : Nat} {x0 x1 x2 x3 x4 x5 x6 x7 : Value} {T : TypeId} (h : W.heap[g]? = some (.cells #[x0, x1, x2, x3, x4, x5, x6, x7] T (0, 0))) : W.cell? ⟨g, 0, none⟩ = some x0 ∧ W.cell? ⟨g, 1, none⟩ = some x1 ∧ W.cell? ⟨g, 2, none⟩ = some x2 ∧ W.cell? ⟨g, 3, none⟩ = some x3 ∧ W.cell? ⟨g, 4, none⟩ = some x4 ∧ W.cell? ⟨g, 5, none⟩ = some x5 ∧ W.cell? ⟨g, 6, none⟩ = some x6 ∧ W.cell? ⟨g, 7, none⟩ = some x7 :=
  ⟨cell_of_row W g 0 _ _ _ h, cell_of_row W g 1 _ _ _ h, cell_of_row W g 2 _ _ _ h, cell_of_row W g 3 _ _ _ h, cell_of_row W g 4 _ _ _ h, cell_of_row W g 5 _ _ _ h, cell_of_row W g 6 _ _ _ h, cell_of_row W g 7 _ _ _ h⟩
theorem setC {W : World} {g : Nat} {cs cs' : Array Value} {T : TypeId} (h : W.heap[g]? = some (.cells cs T (0, 0))) (i : Nat) (a : Value) (hc : cs.setIfInBounds i a = cs') : (W.setCell ⟨g, i, none⟩ a).heap[g]? = some (.cells cs' T (0, 0)) := by
  rw [heap_setCell_same W g i _ T a h, hc]
theorem set8 {W : World} {g : Nat} {x0 x1 x2 x3 x4 x5 x6 x7 : Value} {T : TypeId} (h : W.heap[g]? = some (.cells #[x0, x1, x2, x3, x4, x5, x6, x7] T (0, 0))) (a0 a1 a2 a3 a4 a5 a6 a7 : Value) :
    ((((((((W.setCell ⟨g, 0, none⟩ a0).setCell ⟨g, 1, none⟩ a1).setCell ⟨g, 2, none⟩ a2).setCell ⟨g, 3, none⟩ a3).setCell ⟨g, 4, none⟩ a4).setCell ⟨g, 5, none⟩ a5).setCell ⟨g, 6, none⟩ a6).setCell ⟨g, 7, none⟩ a7).heap[g]? = some (.cells #[a0, a1, a2, a3, a4, a5, a6, a7] T (0, 0)) := by
  have h0 := setC (cs' := #[a0, x1, x2, x3, x4, x5, x6, x7]) h 0 a0 rfl
  have h1 := setC (cs' := #[a0, a1, x2, x3, x4, x5, x6, x7]) h0 1 a1 rfl
  have h2 := setC (cs' := #[a0, a1, a2, x3, x4, x5, x6, x7]) h1 2 a2 rfl
  have h3 := setC (cs' := #[a0, a1, a2, a3, x4, x5, x6, x7]) h2 3 a3 rfl
  have h4 := setC (cs' := #[a0, a1, a2, a3, a4, x5, x6, x7]) h3 4 a4 rfl
  have h5 := setC (cs' := #[a0, a1, a2, a3, a4, a5, x6, x7]) h4 5 a5 rfl
  have h6 := setC (cs' := #[a0, a1, a2, a3, a4, a5, a6, x7]) h5 6 a6 rfl
  have h7 := setC (cs' := #[a0, a1, a2, a3, a4, a5, a6, a7]) h6 7 a7 rfl
  exact h7
theorem set8_low {w0 W : World} {g : Nat} (h : Below w0.heap.size w0 W) (hg : w0.heap.size ≤ g) (a0 a1 a2 a3 a4 a5 a6 a7 : Value) :
    Below w0.heap.size w0 ((((((((W.setCell ⟨g, 0, none⟩ a0).setCell ⟨g, 1, none⟩ a1).setCell ⟨g, 2, none⟩ a2).setCell ⟨g, 3, none⟩ a3).setCell ⟨g, 4, none⟩ a4).setCell ⟨g, 5, none⟩ a5).setCell ⟨g, 6, none⟩ a6).setCell ⟨g, 7, none⟩ a7) :=
  (((((((h.setCell (p := ⟨g, 0, none⟩) hg a0).setCell (p := ⟨g, 1, none⟩) hg a1).setCell (p := ⟨g, 2, none⟩) hg a2).setCell (p := ⟨g, 3, none⟩) hg a3).setCell (p := ⟨g, 4, none⟩) hg a4).setCell (p := ⟨g, 5, none⟩) hg a5).setCell (p := ⟨g, 6, none⟩) hg a6).setCell (p := ⟨g, 7, none⟩) hg a7
/-- the answer is written -/
theorem ans8 {w W : World} {g : Nat} {x0 x1 x2 x3 x4 x5 x6 x7 : Value} {T : TypeId} (h : W.heap[g]? = some (.cells #[x0, x1, x2, x3, x4, x5, x6, x7] T (0, 0))) (hl : Below w.heap.size w W) (hg : w.heap.size ≤ g) (a0 a1 a2 a3 a4 a5 a6 a7 : Value) :
    Below w.heap.size w ((((((((W.setCell ⟨g, 0, none⟩ a0).setCell ⟨g, 1, none⟩ a1).setCell ⟨g, 2, none⟩ a2).setCell ⟨g, 3, none⟩ a3).setCell ⟨g, 4, none⟩ a4).setCell ⟨g, 5, none⟩ a5).setCell ⟨g, 6, none⟩ a6).setCell ⟨g, 7, none⟩ a7) ∧ ((((((((W.setCell ⟨g, 0, none⟩ a0).setCell ⟨g, 1, none⟩ a1).setCell ⟨g, 2, none⟩ a2).setCell ⟨g, 3, none⟩ a3).setCell ⟨g, 4, none⟩ a4).setCell ⟨g, 5, none⟩ a5).setCell ⟨g, 6, none⟩ a6).setCell ⟨g, 7, none⟩ a7).heap[g]? = some (.cells #[a0, a1, a2, a3, a4, a5, a6, a7] T (0, 0)) :=
  ⟨set8_low hl hg _ _ _ _ _ _ _ _, set8 h _ _ _ _ _ _ _ _⟩

theorem eqOtherS_none (a a' : Option Addr) (c c' : Nat) (w : World) :
    Calls Try.prog 25 #[.slice a 0 c, .slice a' 0 c'] w fun e w' => e = .returned (.bool true) ∧ w' = w := by
  go_enter Try.func25, Try.ntmps25
  go_wp2_with fail
  go_loopw [5] (fun i wr => i = .int .i64 0 ∧ wr = w) (fun _ _ => 0)
  case atStart => exact ⟨rfl, rfl⟩
  case round =>
    obtain ⟨rfl, hw⟩ := hrel
    subst hw
    go_wp2_with fail
    go_ret
    exact ⟨rfl, rfl⟩
theorem eqSentS_none (a a' : Option Addr) (c c' : Nat) (w : World) :
    Calls Try.prog 17 #[.slice a 0 c, .slice a' 0 c'] w fun e w' => e = .returned (.bool true) ∧ w' = w := by
  go_enter Try.func17, Try.ntmps17
  go_wp2_with fail
  go_loopw [5] (fun i wr => i = .int .i64 0 ∧ wr = w) (fun _ _ => 0)
  case atStart => exact ⟨rfl, rfl⟩
  case round =>
    obtain ⟨rfl, hw⟩ := hrel
    subst hw
    go_wp2_with fail
    go_ret
    exact ⟨rfl, rfl⟩
theorem markOtherS_none (a : Option Addr) (c : Nat) (w : World) :
    Calls Try.prog 27 #[.slice a 0 c, .int .i64 1] w fun e w' => e = .returned (.int .i64 1) ∧ w' = w := by
  go_enter Try.func27, Try.ntmps27
  go_wp2_with fail
  go_loopw [5, 1] (fun i kv wr => i = .int .i64 0 ∧ kv = .int .i64 1 ∧ wr = w) (fun _ _ _ => 0)
  case atStart => exact ⟨rfl, rfl, rfl⟩
  case round =>
    obtain ⟨rfl, rfl, hw⟩ := hrel
    subst hw
    go_wp2_with fail
    go_ret
    exact ⟨rfl, rfl⟩
theorem markSentS_none (a : Option Addr) (c : Nat) (w : World) :
    Calls Try.prog 19 #[.slice a 0 c, .int .i64 1] w fun e w' => e = .returned (.int .i64 1) ∧ w' = w := by
  go_enter Try.func19, Try.ntmps19
  go_wp2_with fail
  go_loopw [5, 1] (fun i kv wr => i = .int .i64 0 ∧ kv = .int .i64 1 ∧ wr = w) (fun _ _ _ => 0)
  case atStart => exact ⟨rfl, rfl, rfl⟩
  case round =>
    obtain ⟨rfl, rfl, hw⟩ := hrel
    subst hw
    go_wp2_with fail
    go_ret
    exact ⟨rfl, rfl⟩
theorem heldOtherS_none (a : Option Addr) (c : Nat) (w : World) :
    Calls Try.prog 30 #[.slice a 0 c, .int .i64 1] w fun e w' => e = .returned (.int .i64 1) ∧ w' = w := by
  go_enter Try.func30, Try.ntmps30
  go_wp2_with fail
  go_loopw [5, 1] (fun i kv wr => i = .int .i64 0 ∧ kv = .int .i64 1 ∧ wr = w) (fun _ _ _ => 0)
  case atStart => exact ⟨rfl, rfl, rfl⟩
  case round =>
    obtain ⟨rfl, rfl, hw⟩ := hrel
    subst hw
    go_wp2_with fail
    go_ret
    exact ⟨rfl, rfl⟩
theorem heldSentS_none (a : Option Addr) (c : Nat) (w : World) :
    Calls Try.prog 21 #[.slice a 0 c, .int .i64 1] w fun e w' => e = .returned (.int .i64 1) ∧ w' = w := by
  go_enter Try.func21, Try.ntmps21
  go_wp2_with fail
  go_loopw [5, 1] (fun i kv wr => i = .int .i64 0 ∧ kv = .int .i64 1 ∧ wr = w) (fun _ _ _ => 0)
  case atStart => exact ⟨rfl, rfl, rfl⟩
  case round =>
    obtain ⟨rfl, rfl, hw⟩ := hrel
    subst hw
    go_wp2_with fail
    go_ret
    exact ⟨rfl, rfl⟩

set_option maxRecDepth 100000 in
set_option maxHeartbeats 1000000 in
theorem eqPeer_none (z b : Int) (r s : ByteArray) (y : Int) (w : World) :
    Calls Try.prog 16 #[peV z b r s y, peV z b r s y] w fun e w' => e = .returned (.bool true) ∧ Below w.heap.size w w' := by
  have HK := hideK (fun W => eqK_same z b r s y W)
  have C0 := hideK (((Cx.nil w).new (peB z b r s y)).new (peB z b r s y))
  simp only [World.size_alloc] at C0
  unfold peV
  unfold kV at HK
  unfold peB at C0
  go_enter Try.func16, Try.ntmps16
  go_wp2_with fail
  generalize (w.alloc _).alloc _ = W0 at C0 ⊢
  refine (HK.out _).mono ?_
  rintro e w1 ⟨rfl, hb⟩
  have C1 := hideK (C0.out.call hb)
  clear hb C0
  obtain ⟨l0, l1, l2, l3, l4, l5⟩ := cells6 (C1.out.get 0 rfl)
  obtain ⟨k0, k1, k2, k3, k4, k5⟩ := cells6 (C1.out.get 1 rfl)
  go_wp2_with fail
  refine (eqOtherS_none _ _ _ _ _).mono ?_
  rintro e w2 ⟨rfl, hw⟩
  subst hw
  go_wp2_with fail
  go_ret
  exact ⟨rfl, C1.out.low⟩

set_option maxRecDepth 100000 in
set_option maxHeartbeats 1000000 in
theorem eqPO_none (z b : Int) (r s : ByteArray) (y c : Int) (w : World) :
    Calls Try.prog 8 #[poV z b r s y c, poV z b r s y c] w fun e w' => e = .returned (.bool true) ∧ Below w.heap.size w w' := by
  have HK := hideK (fun W => eqPeer_none z b r s y W)
  have h1 : (c != c) = false := by simp
  have C0 := hideK (((Cx.nil w).new (poB z b r s y c)).new (poB z b r s y c))
  simp only [World.size_alloc] at C0
  unfold poV
  unfold peV at HK
  unfold poB at C0
  go_enter Try.func8, Try.ntmps8
  go_wp2_with fail
  generalize (w.alloc _).alloc _ = W0 at C0 ⊢
  refine (HK.out _).mono ?_
  rintro e w1 ⟨rfl, hb⟩
  have C1 := hideK (C0.out.call hb)
  clear hb C0
  obtain ⟨l0, l1, l2, l3, l4, l5, l6, l7⟩ := cells8 (C1.out.get 0 rfl)
  obtain ⟨k0, k1, k2, k3, k4, k5, k6, k7⟩ := cells8 (C1.out.get 1 rfl)
  go_wp2_with fail
  refine (eqSentS_none _ _ _ _ _).mono ?_
  rintro e w2 ⟨rfl, hw⟩
  subst hw
  go_wp2_with fail
  go_ret
  exact ⟨rfl, C1.out.low⟩

set_option maxRecDepth 100000 in
set_option maxHeartbeats 1000000 in
theorem markPeer_none (z b : Int) (r s : ByteArray) (y : Int) (w : World) :
    Calls Try.prog 18 #[peV z b r s y, .int .i64 1] w fun e w' => e = .returned (.int .i64 1) ∧ Below w.heap.size w w' := by
  have C0 := hideK ((Cx.nil w).new (peB z b r s y))
  unfold peV
  unfold peB at C0
  go_enter Try.func18, Try.ntmps18
  go_wp2_with fail
  generalize w.alloc _ = W0 at C0 ⊢
  refine (markOtherS_none _ _ _).mono ?_
  rintro e w1 ⟨rfl, hw⟩
  subst hw
  go_wp2_with fail
  go_ret
  exact ⟨rfl, C0.out.low⟩

set_option maxRecDepth 100000 in
set_option maxHeartbeats 1000000 in
theorem markPO_none (z b : Int) (r s : ByteArray) (y c : Int) (w : World) :
    Calls Try.prog 9 #[poV z b r s y c, .int .i64 1] w fun e w' => e = .returned (.int .i64 1) ∧ Below w.heap.size w w' := by
  have HK := hideK (fun W => markPeer_none z b r s y W)
  have C0 := hideK ((Cx.nil w).new (poB z b r s y c))
  unfold poV
  unfold peV at HK
  unfold poB at C0
  go_enter Try.func9, Try.ntmps9
  go_wp2_with fail
  generalize w.alloc _ = W0 at C0 ⊢
  refine (HK.out _).mono ?_
  rintro e w1 ⟨rfl, hb⟩
  have C1 := hideK (C0.out.call hb)
  clear hb C0
  obtain ⟨l0, l1, l2, l3, l4, l5, l6, l7⟩ := cells8 (C1.out.get 0 rfl)
  go_wp2_with fail
  refine (markSentS_none _ _ _).mono ?_
  rintro e w2 ⟨rfl, hw⟩
  subst hw
  go_wp2_with fail
  go_ret
  exact ⟨rfl, C1.out.low⟩

set_option maxRecDepth 100000 in
set_option maxHeartbeats 1000000 in
theorem heldPeer_none (z b : Int) (r s : ByteArray) (y : Int) (w : World) :
    Calls Try.prog 20 #[peV z b r s y, .int .i64 1] w fun e w' => e = .returned (.int .i64 1) ∧ Below w.heap.size w w' := by
  have C0 := hideK ((Cx.nil w).new (peB z b r s y))
  unfold peV
  unfold peB at C0
  go_enter Try.func20, Try.ntmps20
  go_wp2_with fail
  generalize w.alloc _ = W0 at C0 ⊢
  refine (heldOtherS_none _ _ _).mono ?_
  rintro e w1 ⟨rfl, hw⟩
  subst hw
  go_wp2_with fail
  go_ret
  exact ⟨rfl, C0.out.low⟩

set_option maxRecDepth 100000 in
set_option maxHeartbeats 1000000 in
theorem heldPO_none (z b : Int) (r s : ByteArray) (y c : Int) (w : World) :
    Calls Try.prog 10 #[poV z b r s y c, .int .i64 1] w fun e w' => e = .returned (.int .i64 1) ∧ Below w.heap.size w w' := by
  have HK := hideK (fun W => heldPeer_none z b r s y W)
  have C0 := hideK ((Cx.nil w).new (poB z b r s y c))
  unfold poV
  unfold peV at HK
  unfold poB at C0
  go_enter Try.func10, Try.ntmps10
  go_wp2_with fail
  generalize w.alloc _ = W0 at C0 ⊢
  refine (HK.out _).mono ?_
  rintro e w1 ⟨rfl, hb⟩
  have C1 := hideK (C0.out.call hb)
  clear hb C0
  obtain ⟨l0, l1, l2, l3, l4, l5, l6, l7⟩ := cells8 (C1.out.get 0 rfl)
  go_wp2_with fail
  refine (heldSentS_none _ _ _).mono ?_
  rintro e w2 ⟨rfl, hw⟩
  subst hw
  go_wp2_with fail
  go_ret
  exact ⟨rfl, C1.out.low⟩
end Go.Proofs.Ytikiihjabbmkcaa.Pn
