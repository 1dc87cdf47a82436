/- The laws' helpers on ranges between marks of memory; blocks and rows that are kept. -/
import Derived.Test.YteiicafjjcnioaaDoorRangeLaw
import Derived.Test.YteiicafjjcnioaaDoorAddPlain
namespace Go.Proofs.YteiicafjjcnioaaDoor.St
open Go.RowKit
open Go.Proofs.YteiicafjjcnioaaDoor.Tr (below2 ones rngB rngB_facts addR addOk addOk_facts carry carry_length)

def Blk (W : World) (g : Nat) (x y : Value) (t : TypeId) : Prop := W.heap[g]? = some (.cells #[x, y] t (0, 0))
theorem Blk.lt {W : World} {g : Nat} {x y : Value} {t : TypeId} (h : Blk W g x y t) : g < W.heap.size := (Array.getElem?_eq_some_iff.1 h).1
theorem Blk.below {W W' : World} {g : Nat} {x y : Value} {t : TypeId} (h : Blk W g x y t) (b : Below W.heap.size W W') : Blk W' g x y t := (b.block g h.lt).trans h
theorem Blk.aft {W W' : World} {g g' : Nat} {x y : Value} {t : TypeId} (h : Blk W g x y t) (b : Aft g' W W') (hg : g ≠ g') : Blk W' g x y t := (b.2.2.2.2 g h.lt hg).trans h
theorem Blk.new (W : World) (x y : Value) (t : TypeId) : Blk (W.alloc (.cells #[x, y] t)) W.heap.size x y t := heap_alloc_last W _
theorem Blk.c0 {W : World} {g : Nat} {x y : Value} {t : TypeId} (h : Blk W g x y t) : W.cell? ⟨g, 0, none⟩ = some x := by
  have := cell_of_row W g 0 _ _ _ h
  simpa using this
theorem Blk.c1 {W : World} {g : Nat} {x y : Value} {t : TypeId} (h : Blk W g x y t) : W.cell? ⟨g, 1, none⟩ = some y := by
  have := cell_of_row W g 1 _ _ _ h
  simpa using this
def RIn (w : World) (lo hi : Nat) (v : Value) (l : List ByteArray) : Prop := OwnIn w lo hi v l ∧ hi ≤ w.heap.size
theorem RIn.below {w w' : World} {lo hi : Nat} {v : Value} {l : List ByteArray} (h : RIn w lo hi v l) (b : Below w.heap.size w w') : RIn w' lo hi v l := ⟨h.1.below b h.2, Nat.le_trans h.2 b.size⟩
theorem RIn.aft {w w' : World} {lo hi g : Nat} {v : Value} {l : List ByteArray} (h : RIn w lo hi v l) (b : Aft g w w') (hg : g < lo ∨ hi ≤ g) : RIn w' lo hi v l := ⟨h.1.aft b hg h.2, Nat.le_trans h.2 b.2.2.2.1⟩
theorem Aft.unalloc {g : Nat} {w w' : World} {o : Obj} (h : Aft g (w.alloc o) w') : Aft g w w' :=
  ⟨h.1, h.2.1, h.2.2.1, Nat.le_trans (by simp) h.2.2.2.1, fun k hk hg => (h.2.2.2.2 k (by simp; omega) hg).trans (Below.heap_alloc w o k hk)⟩
theorem slice_strs {w : World} {lo hi m c : Nat} {a : Option Addr} {l : List ByteArray} (h : OwnIn w lo hi (.slice a m c) l) : m = l.length ∧ Strs w hi a l := by
  obtain ⟨a', c', hv, hs⟩ := h.strs
  simp at hv
  obtain ⟨rfl, rfl, rfl⟩ := hv
  exact ⟨rfl, hs⟩
theorem eqR_in {w : World} {lo hi lo' hi' m c m' c' : Nat} {a a' : Option Addr} {l : List ByteArray} (n : Int) (h : RIn w lo hi (.slice a m c) l) (h' : RIn w lo' hi' (.slice a' m' c') l) (hn : l.length ≤ 1048576) :
    Calls Tryd.prog 59 #[.agg #[.int .i64 n, .slice a m c], .agg #[.int .i64 n, .slice a' m' c']] w fun e w' => e = .returned (.bool true) ∧ Below w.heap.size w w' := by
  obtain ⟨rfl, h1⟩ := slice_strs h.1
  obtain ⟨rfl, h2⟩ := slice_strs h'.1
  exact eqR_any n a a' c c' l w w.heap.size (h1.mono h.2) (h2.mono h'.2) (Nat.le_refl _) hn

set_option maxHeartbeats 1000000 in
theorem markR_in {w : World} {lo hi m c : Nat} {a : Option Addr} {l : List ByteArray} (n : Int) (h : RIn w lo hi (.slice a m c) l) (hm : m = l.length) (hn : m ≤ 1048576) :
    Calls Tryd.prog 60 #[.agg #[.int .i64 n, .slice a m c], .int .i64 1] w fun e w' => e = .returned (.int .i64 (1 + (m : Int))) ∧ RIn w' lo hi (.slice a m c) (marks 1 m) ∧ ∃ g, (g = lo ∨ (lo ≤ g ∧ g < hi)) ∧ Aft g w w' := by
  have HMk := hideT (fun (W : World) (hW : RIn W lo hi (.slice a m c) l) => mark_in hW.1 (by omega))
  have HR := hideT (fun o => h.below ((Below.refl w.heap.size w).alloc (Nat.le_refl _) o))
  have HL := hideT hm
  rw [← hm] at HMk
  clear h hm
  go_enter Tryd.func60, Tryd.ntmps60
  go_wp2_with fail
  refine (HMk.out _ (HR.out _)).mono ?_
  rintro e w1 ⟨rfl, ho, g, hg, ha⟩
  have HO := hideT (show RIn w1 lo hi (.slice a m c) (marks 1 m) from ⟨ho, Nat.le_trans (HR.out _).2 ha.2.2.2.1⟩)
  have HA := hideT ha.unalloc
  have HG := hideT hg
  clear ho ha hg
  go_wp2_with fail
  go_ret
  exact ⟨rfl, HO.out, g, HG.out, HA.out⟩
set_option maxHeartbeats 1000000 in
theorem heldR_in {w : World} {lo hi m c : Nat} {a : Option Addr} (n : Int) (h : RIn w lo hi (.slice a m c) (marks 1 m)) (hn : m ≤ 1048576) :
    Calls Tryd.prog 61 #[.agg #[.int .i64 n, .slice a m c], .int .i64 1] w fun e w' => e = .returned (.int .i64 (1 + (m : Int))) ∧ Below w.heap.size w w' := by
  have HMk := hideT (fun (W : World) (hW : RIn W lo hi (.slice a m c) (marks 1 m)) => held_in hW.1 hn)
  have HR := hideT (fun o => h.below ((Below.refl w.heap.size w).alloc (Nat.le_refl _) o))
  clear h
  have hpos : ¬ (1 + (m : Int)) < 0 := by omega
  go_enter Tryd.func61, Tryd.ntmps61
  go_wp2_with fail
  refine (HMk.out _ (HR.out _)).mono ?_
  rintro e w1 ⟨rfl, hb⟩
  have HB := hideT (below2 ((Below.refl _ _).alloc (Nat.le_refl _) _) hb)
  clear hb
  go_wp2_with fail
  go_ret
  exact ⟨rfl, HB.out⟩
theorem ones_le (n : Nat) : ones n ≤ n := by
  induction n using Nat.strongRecOn with
  | ind n ih =>
    rw [Tr.ones_step]
    by_cases h : n = 0
    · subst h
      have : ones 0 = 0 := by unfold ones; rfl
      simp [this]
    · have := ih (n / 2) (by omega)
      omega
theorem addR_len (n : Int) (p : List ByteArray) (t : ByteArray) (h : p.length ≤ 1048576) : (addR n p t).length ≤ 1048576 := by
  unfold addR
  by_cases h1 : 8000 < t.size
  · rw [if_pos h1]
    simp
  · rw [if_neg h1]
    by_cases h2 : addOk n p t = true
    · rw [if_pos h2]
      obtain ⟨h3, _, _⟩ := addOk_facts n p t h2
      obtain ⟨_, h5, h6, _⟩ := rngB_facts n p h3
      have := carry_length p p.length n.toNat (Sh.leafV t) (Nat.le_refl _)
      have := ones_le n.toNat
      omega
    · rw [if_neg h2]
      exact h
end Go.Proofs.YteiicafjjcnioaaDoor.St
