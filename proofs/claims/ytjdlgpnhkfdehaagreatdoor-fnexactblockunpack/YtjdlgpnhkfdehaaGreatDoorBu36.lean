/- Texts put together: DrawN, DrawSource, DrawMore, UnNum. -/
import Derived.Test.YtjdlgpnhkfdehaaGreatDoorBu35
import Derived.Test.YtjdlgpnhkfdehaaGreatDoorBu0
import Derived.Test.YtjdlgpnhkfdehaaGreatDoorBu20
import Derived.Test.YtjdlgpnhkfdehaaGreatDoorBu7
import Derived.Deep.RegionWith
import Derived.BigRegion
import Derived.BigQuiet
import Derived.Deep.CutRange
import Derived.Deep.RegionHeld3
/- The number that a source of draws gives. -/
namespace Go.Proofs.YtjdlgpnhkfdehaaGreatDoor.Dr
open Go.RowKit
end Go.Proofs.YtjdlgpnhkfdehaaGreatDoor.Dr


/- The making of a source of draws: it lies in a new block, and draws from the bytes that it was handed. -/
namespace Go.Proofs.YtjdlgpnhkfdehaaGreatDoor.Dr
open Go.RowKit
def sobj (a : Option Addr) (len cap : Nat) (mix size : Int) : Obj := .cells #[.slice a len cap, .int .i64 0, .int .u64 mix, .int .i64 size] 109 (0, 0)
end Go.Proofs.YtjdlgpnhkfdehaaGreatDoor.Dr


/- What stays of a source while other memory is made; a coin, and bytes, that it gives. -/
namespace Go.Proofs.YtjdlgpnhkfdehaaGreatDoor.Dr
open Go.RowKit
open Go.Proofs.YtjdlgpnhkfdehaaGreatDoor.Nu (bv own_string)
structure Aft (B : Nat) (w w' : World) : Prop where
  os : w'.os = w.os
  tape : w'.tape = w.tape
  output : w'.output = w.output
  size : w.heap.size ≤ w'.heap.size
  block : ∀ k, k < w.heap.size → k ≠ B → w'.heap[k]? = w.heap[k]?
theorem Aft.refl (B : Nat) (w : World) : Aft B w w := ⟨rfl, rfl, rfl, Nat.le_refl _, fun _ _ _ => rfl⟩
theorem Aft.trans {B : Nat} {a b c : World} (h : Aft B a b) (k : Aft B b c) : Aft B a c :=
  ⟨k.os.trans h.os, k.tape.trans h.tape, k.output.trans h.output, Nat.le_trans h.size k.size, fun i hi hn => (k.block i (Nat.lt_of_lt_of_le hi h.size) hn).trans (h.block i hi hn)⟩
theorem Only.aft {B : Nat} {w w' : World} (h : Only B w w') : Aft B w w' := ⟨h.1, h.2.1, h.2.2.1, by rw [h.2.2.2.1]; exact Nat.le_refl _, fun k _ hk => h.2.2.2.2 k hk⟩
theorem aft_below {B : Nat} {w w' : World} (h : Below w.heap.size w w') : Aft B w w' := ⟨h.os, h.tape, h.output, h.size, fun k hk _ => h.block k hk⟩
theorem Aft.below {B C : Nat} {w0 w w' : World} (hb : Below C w0 w) (h : Aft B w w') (hC : C ≤ B) (hS : C ≤ w.heap.size) : Below C w0 w' :=
  hb.trans ⟨h.os, h.tape, h.output, h.size, fun k hk => h.block k (by omega) (by omega)⟩
theorem Src.stays {B : Nat} {w w' : World} {a : Option Addr} {len cap : Nat} (hs : Src w B a len cap) (h : ∀ k, k ≤ B → w'.heap[k]? = w.heap[k]?) : Src w' B a len cap := by
  obtain ⟨hr, at_, mix, size, hb, h0⟩ := hs
  refine ⟨?_, at_, mix, size, (h B (Nat.le_refl _)).trans hb, h0⟩
  rcases hr with h0 | ⟨b, off, rfl, hlt, hc⟩
  · exact .inl h0
  · refine .inr ⟨b, off, rfl, hlt, fun i hi => ?_⟩
    obtain ⟨z, hz, z1, z2⟩ := hc i hi
    exact ⟨z, (World.cell?_of_block (w := w) (a := ⟨b, off + i, none⟩) (h b (Nat.le_of_lt hlt))).trans hz, z1, z2⟩
theorem Src.lt {B : Nat} {w : World} {a : Option Addr} {len cap : Nat} (hs : Src w B a len cap) : B < w.heap.size := by
  obtain ⟨_, at_, mix, size, hb, _⟩ := hs
  rcases Nat.lt_or_ge B w.heap.size with h | h
  · exact h
  · rw [Array.getElem?_eq_none h] at hb
    exact absurd hb (by simp)
theorem Src.below {B : Nat} {w w' : World} {a : Option Addr} {len cap : Nat} (hs : Src w B a len cap) (h : Below w.heap.size w w') : Src w' B a len cap :=
  hs.stays fun k hk => h.block k (Nat.lt_of_le_of_lt hk hs.lt)
theorem Tryz.infoD5 : (Tryz.prog.info? 5).map (fun i => (i.zero, i.size, i.bytes)) = some (some (.int .u8 0), 1, 1) := by kernel_rfl
end Go.Proofs.YtjdlgpnhkfdehaaGreatDoor.Dr


/- What the specification's reader of numbers does. -/
namespace Go.Proofs.YtjdlgpnhkfdehaaGreatDoor.Up
open Go.RowKit
open Go.Proofs.YtjdlgpnhkfdehaaGreatDoor.Gn (rd getV getV_rd outN)
open Go.Proofs.YtjdlgpnhkfdehaaGreatDoor.Dr (Aft Only)
theorem hideQ {p : Prop} (h : p) : Hid p := h
def Rdr (w : World) (B : Nat) (t : ByteArray) (at_ : Int) (bad : Bool) : Prop := w.heap[B]? = some (.cells #[.string t, .int .i64 at_, .bool bad] 137 (0, 0))
theorem rdr_lt {w : World} {B : Nat} {t : ByteArray} {a : Int} {b : Bool} (h : Rdr w B t a b) : B < w.heap.size := (Array.getElem?_eq_some_iff.1 h).1
theorem set_k3 {W : World} {g : Nat} {x y z : Value} {T : TypeId} (h : W.heap[g]? = some (.cells #[x, y, z] T (0, 0))) (v : Value) : (W.setCell ⟨g, 0, none⟩ v).heap[g]? = some (.cells #[v, y, z] T (0, 0)) ∧ (W.setCell ⟨g, 1, none⟩ v).heap[g]? = some (.cells #[x, v, z] T (0, 0)) ∧ (W.setCell ⟨g, 2, none⟩ v).heap[g]? = some (.cells #[x, y, v] T (0, 0)) := by
  refine ⟨?_, ?_, ?_⟩
  · rw [heap_setCell_same W g 0 _ T v h]; rfl
  · rw [heap_setCell_same W g 1 _ T v h]; rfl
  · rw [heap_setCell_same W g 2 _ T v h]; rfl
theorem lq_alloc {w W : World} (h : Below w.heap.size w W) (o : Obj) : Below w.heap.size w (W.alloc o) := h.alloc h.size o
theorem lq_drew {w W : World} (h : Below w.heap.size w W) : Below w.heap.size w W.drew := h.drew
theorem lq_set {w W : World} (h : Below w.heap.size w W) (k : Nat) (v : Value) : Below w.heap.size w (W.setCell ⟨w.heap.size, k, none⟩ v) := h.setCell (p := ⟨w.heap.size, k, none⟩) (Nat.le_refl _) v
theorem lq_keep {w0 w w' : World} (h : Below w0.heap.size w0 w) (hb : Below w.heap.size w w') : Below w0.heap.size w0 w' := h.trans (hb.mono h.size)
theorem blk_low {w w' : World} {g : Nat} {x : Obj} (h : w.heap[g]? = some x) (hb : Below w.heap.size w w') : w'.heap[g]? = some x := (hb.block g (Array.getElem?_eq_some_iff.1 h).1).trans h
theorem aft_set {B : Nat} {w W : World} (h : Below w.heap.size w W) (o : Nat) (v : Value) : Aft B w (W.setCell ⟨B, o, none⟩ v) := (Dr.aft_below h).trans (Dr.Only.aft ((Only.refl B W).set o v))
def okN (t : ByteArray) (at_ : Int) (bad : Bool) (most : Int) : Prop := bad = false ∧ (rd t at_).2.2 = 0 ∧ 0 ≤ (rd t at_).1 ∧ (rd t at_).1 ≤ most
theorem get_case (t : ByteArray) (a : Int) : ∃ n p c : Int, getV t a = .agg #[.int .i64 n, .int .i64 p, .int .i64 c] ∧ ((c = 0 ∧ rd t a = (n, p.toNat, 0) ∧ 0 ≤ p) ∨ (¬ c = 0 ∧ ¬ (rd t a).2.2 = 0)) := by
  rw [getV_rd]
  by_cases h : (rd t a).2.2 = 0
  · rw [if_pos h]
    refine ⟨_, _, _, rfl, .inl ⟨rfl, ?_, by omega⟩⟩
    rw [Int.toNat_natCast, ← h]
  · rw [if_neg h]
    exact ⟨_, _, _, rfl, .inr ⟨h, h⟩⟩
set_option maxRecDepth 100000 in
set_option maxHeartbeats 4000000 in
theorem num_any (B : Nat) (t : ByteArray) (at_ most : Int) (bad : Bool) (w : World) (ht : t.size ≤ 1048576) (hb : Rdr w B t at_ bad) :
    Calls Tryz.prog 124 #[.pointer (some ⟨B, 0, none⟩), .int .i64 most] w fun e w' => ((okN t at_ bad most ∧ e = .returned (.int .i64 (rd t at_).1) ∧ Rdr w' B t ((rd t at_).2.1 : Int) false) ∨ (¬ okN t at_ bad most ∧ e = .returned (.int .i64 0) ∧ Rdr w' B t at_ true)) ∧ Aft B w w' := by
  have HB := hideQ hb
  have c0 : w.cell? ⟨B, 0, none⟩ = some (.string t) := cell_of_row w B 0 _ _ _ hb
  have c1 : w.cell? ⟨B, 1, none⟩ = some (.int .i64 at_) := cell_of_row w B 1 _ _ _ hb
  clear hb
  obtain ⟨n, p, c, hv, hcase⟩ := get_case t at_
  have HC := hideQ hcase
  have HGS : Hid (∀ W, Calls Tryz.prog 84 #[.string t, .int .i64 at_] W fun e w' => e = .returned (.agg #[.int .i64 n, .int .i64 p, .int .i64 c]) ∧ Below W.heap.size W w') := fun W => by
    have := Gn.get_spec t at_ W (by unfold maxLen; omega)
    rw [hv] at this
    exact this
  clear hv hcase
  go_enter Tryz.func124, Tryz.ntmps124
  have K0 : Hid (Below w.heap.size w w.drew) := (Below.refl _ _).drew
  have KA : Hid (∀ o, Below w.heap.size w (w.drew.alloc o)) := fun o => (Below.refl _ _).drew.alloc (Nat.le_refl _) o
  have KB : Hid (∀ o, Below w.heap.size w (w.alloc o).drew) := fun o => ((Below.refl _ _).alloc (Nat.le_refl _) o).drew
  have CB : Hid (∀ W, Below w.heap.size w W → W.cell? ⟨B, 0, none⟩ = some (.string t) ∧ W.cell? ⟨B, 1, none⟩ = some (.int .i64 at_)) := fun W h => ⟨(h.cell (p := ⟨B, 0, none⟩) (rdr_lt HB.out)).trans c0, (h.cell (p := ⟨B, 1, none⟩) (rdr_lt HB.out)).trans c1⟩
  clear c0 c1
  go_upto_region 1 with fail
  go_cut [5] from 6 to 14 (fun s5 wx => ∃ g : Nat, s5 = .pointer (some ⟨g, 0, none⟩) ∧ wx.heap[g]? = some (.cells #[.int .i64 n, .int .i64 p, .int .i64 c] 88 (0, 0)) ∧ w.heap.size ≤ g ∧ Below w.heap.size w wx)
  case first =>
    have hS0 := CB.out _ K0.out
    go_region_held3 (fun W => W.cell? ⟨B, 0, none⟩ = some (.string t) ∧ W.cell? ⟨B, 1, none⟩ = some (.int .i64 at_)) (first | assumption | exact CB.out _ (by repeat (first | exact L1.out | exact Below.refl _ _ | refine lq_alloc ?_ _ | refine lq_set ?_ _ _ | refine lq_drew ?_))) (first | (go_at_call 84; (with_reducible refine (HGS.out _).mono ?_); rintro e w1 ⟨rfl, hb1⟩; have L1 := hideQ (lq_keep (w0 := w) (by repeat (first | exact Below.refl _ _ | refine lq_alloc ?_ _ | refine lq_drew ?_)) hb1); have K1 := hideQ hb1; obtain ⟨hc1, hf1⟩ := Gn.bcell hb1; clear hb1))
    all_goals (try go_wp2_with fail)
    all_goals go_meet
    all_goals (first | exact ⟨_, rfl, heap_alloc_new w1 _, L1.out.size, lq_alloc L1.out _⟩ | exact ⟨_, rfl, (set_k3 (set_k3 (set_k3 (blk_low (w := (w.alloc (.cells #[.int .i64 0, .int .i64 0, .int .i64 0] 88)).drew) (heap_alloc_new w _) K1.out) _).1 _).2.1 _).2.2, Nat.le_refl _, lq_set (lq_set (lq_set L1.out _ _) _ _) _ _⟩)
  case rest =>
    obtain ⟨g, rfl, hgb, hgl, hbx⟩ := hcut
    have RB : Hid (Rdr wc B t at_ bad) := blk_low HB.out hbx
    have cB : wc.cell? ⟨B, 2, none⟩ = some (.bool bad) := cell_of_row wc B 2 _ _ _ RB.out
    have cB1 : wc.cell? ⟨B, 1, none⟩ = some (.int .i64 at_) := cell_of_row wc B 1 _ _ _ RB.out
    have hgB : ¬ g = B := by have := rdr_lt HB.out; omega
    have hBg : ¬ B = g := by omega
    have fB := fun o => frozen_of_row wc B o _ _ RB.out
    have cg0 : wc.cell? ⟨g, 0, none⟩ = some (.int .i64 n) := cell_of_row wc g 0 _ _ _ hgb
    have cg1 : wc.cell? ⟨g, 1, none⟩ = some (.int .i64 p) := cell_of_row wc g 1 _ _ _ hgb
    have cg2 : wc.cell? ⟨g, 2, none⟩ = some (.int .i64 c) := cell_of_row wc g 2 _ _ _ hgb
    have BX := hideQ hbx
    have HBAD : Hid (Rdr (wc.setCell ⟨B, 2, none⟩ (.bool true)) B t at_ true) := (set_k3 RB.out _).2.2
    have HFIN : Hid (Rdr (wc.setCell ⟨B, 1, none⟩ (.int .i64 p)) B t p bad) := (set_k3 RB.out _).2.1
    clear hgb hgl hbx HB HGS CB K0 KA KB
    cases bad with
    | true =>
      go_wp2_with fail
      go_ret
      exact ⟨.inr ⟨fun h => absurd h.1 (by decide), rfl, HBAD.out⟩, aft_set BX.out _ _⟩
    | false =>
      by_cases hc : c = 0
      · subst hc
        have hrd : rd t at_ = (n, p.toNat, 0) ∧ 0 ≤ p := by
          rcases HC.out with h | h
          · exact h.2
          · exact absurd rfl h.1
        have HRD := hideQ hrd
        clear hrd
        by_cases hr : 0 ≤ n ∧ n ≤ most
        · go_wp2_with fail
          refine (Bi.is_yes n 0 most _ hr.1 hr.2).mono ?_
          rintro e w2 ⟨rfl, rfl⟩
          go_wp2_with fail
          go_ret
          refine ⟨.inl ⟨⟨rfl, by rw [HRD.out.1], by rw [HRD.out.1]; exact hr.1, by rw [HRD.out.1]; exact hr.2⟩, by rw [HRD.out.1]; rfl, ?_⟩, aft_set BX.out _ _⟩
          rw [HRD.out.1, show ((p.toNat : Nat) : Int) = p from Int.toNat_of_nonneg HRD.out.2]
          exact HFIN.out
        · have HR := hideQ hr
          go_wp2_with fail
          refine (Bi.is_no n 0 most _ (by omega)).mono ?_
          rintro e w2 ⟨rfl, rfl⟩
          clear hr
          go_wp2_with fail
          go_ret
          exact ⟨.inr ⟨fun h => HR.out (by have := h.2.2; rw [HRD.out.1] at this; exact this), rfl, HBAD.out⟩, aft_set BX.out _ _⟩
      · have hc' : (c != 0) = true := by simp; exact hc
        go_wp2_with fail
        go_ret
        refine ⟨.inr ⟨fun h => ?_, rfl, HBAD.out⟩, aft_set BX.out _ _⟩
        rcases HC.out with k | k
        · exact hc k.1
        · exact k.2 h.2.1
end Go.Proofs.YtjdlgpnhkfdehaaGreatDoor.Up

