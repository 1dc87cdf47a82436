/- Texts put together: DrawBase, DrawN, DrawSource, DrawMore, UnNum, GetNext, GetSpec2. -/
import Derived.Test.YtjdlgpnhkfdehaaGreatDoorChecked
import Derived.WalkKit
import Derived.WalkSpells
import Derived.WalkLawsBesides
import Derived.BigRegion
import Derived.Deep.QuietTactic
import Derived.BigQuiet
import Derived.Laws.BitsAllLaws
import Derived.Test.YtjdlgpnhkfdehaaGreatDoorFo1
import Derived.Test.YtjdlgpnhkfdehaaGreatDoorFo42
import Derived.Test.YtjdlgpnhkfdehaaGreatDoorFo28
import Derived.Test.YtjdlgpnhkfdehaaGreatDoorFo17
import Derived.Deep.RegionWith
import Derived.Deep.CutRange
import Derived.Deep.RegionHeld3
import Derived.Test.YtjdlgpnhkfdehaaGreatDoorFo24
import Derived.Test.YtjdlgpnhkfdehaaGreatDoorFo31
import Derived.Test.YtjdlgpnhkfdehaaGreatDoorFo32
/- The draws' own base: a source of draws in memory, and the number that it gives: some number below what is asked, and nothing turns but the source itself. -/
namespace Go.Proofs.YtjdlgpnhkfdehaaGreatDoor.Dr
open Go.RowKit
def Row (w : World) (B : Nat) (a : Option Addr) (len : Nat) : Prop :=
 len = 0 ∨ ∃ b off, a = some ⟨b, off, none⟩ ∧ b < B ∧ ∀ i, i < len → ∃ z : Int, w.cell? ⟨b, off + i, none⟩ = some (.int .u8 z) ∧ 0 ≤ z ∧ z ≤ 255
def Src (w : World) (B : Nat) (a : Option Addr) (len cap : Nat) : Prop :=
 Row w B a len ∧ ∃ at_ mix size : Int, w.heap[B]? = some (.cells #[.slice a len cap, .int .i64 at_, .int .u64 mix, .int .i64 size] 109 (0, 0)) ∧
  0 ≤ at_ ∧ at_ ≤ len ∧ 0 ≤ mix ∧ mix ≤ 18446744073709551615 ∧ 0 ≤ size ∧ size ≤ 12
def Only (B : Nat) (w w' : World) : Prop := w'.os = w.os ∧ w'.tape = w.tape ∧ w'.output = w.output ∧ w'.heap.size = w.heap.size ∧ ∀ k, k ≠ B → w'.heap[k]? = w.heap[k]?
theorem Only.refl (B : Nat) (w : World) : Only B w w := ⟨rfl, rfl, rfl, rfl, fun _ _ => rfl⟩
theorem Only.drew {B : Nat} {w w' : World} (h : Only B w w') : Only B w w'.drew := h
theorem Only.drewN {B : Nat} (w : World) (n : Nat) : Only B w (w.drewN n) := ⟨rfl, rfl, rfl, rfl, fun _ _ => rfl⟩
theorem Only.set {B : Nat} {w w' : World} (h : Only B w w') (o : Nat) (v : Value) : Only B w (w'.setCell ⟨B, o, none⟩ v) :=
 ⟨h.1, h.2.1, h.2.2.1, by simpa [World.setCell] using h.2.2.2.1, fun k hk => (heap_setCell_other w' ⟨B, o, none⟩ k v hk).trans (h.2.2.2.2 k hk)⟩
theorem Only.trans {B : Nat} {a b c : World} (h : Only B a b) (k : Only B b c) : Only B a c :=
 ⟨k.1.trans h.1, k.2.1.trans h.2.1, k.2.2.1.trans h.2.2.1, k.2.2.2.1.trans h.2.2.2.1, fun i hi => (k.2.2.2.2 i hi).trans (h.2.2.2.2 i hi)⟩
theorem Only.below {B C : Nat} {w0 w w' : World} (hb : Below C w0 w) (h : Only B w w') (hC : C ≤ B) : Below C w0 w' :=
 hb.trans ⟨h.1, h.2.1, h.2.2.1, by rw [h.2.2.2.1]; exact Nat.le_refl _, fun k hk => h.2.2.2.2 k (by omega)⟩
end Go.Proofs.YtjdlgpnhkfdehaaGreatDoor.Dr


/- The number that a source of draws gives. -/
namespace Go.Proofs.YtjdlgpnhkfdehaaGreatDoor.Dr
open Go.RowKit
end Go.Proofs.YtjdlgpnhkfdehaaGreatDoor.Dr


/- The making of a source of draws: it lies in a new block, and draws from the bytes that it was handed. -/
namespace Go.Proofs.YtjdlgpnhkfdehaaGreatDoor.Dr
open Go.RowKit
def sobj (a : Option Addr) (len cap : Nat) (mix size : Int) : Obj := .cells #[.slice a len cap, .int .i64 0, .int .u64 mix, .int .i64 size] 109 (0, 0)
end Go.Proofs.YtjdlgpnhkfdehaaGreatDoor.Dr


/- What stays of a source while other memory is made; a coin, and bytes, that it gives. -/
namespace Go.Proofs.YtjdlgpnhkfdehaaGreatDoor.Dr
open Go.RowKit
open Go.Proofs.YtjdlgpnhkfdehaaGreatDoor.Nu (bv own_string)
structure Aft (B : Nat) (w w' : World) : Prop where
 os : w'.os = w.os
 tape : w'.tape = w.tape
 output : w'.output = w.output
 size : w.heap.size ≤ w'.heap.size
 block : ∀ k, k < w.heap.size → k ≠ B → w'.heap[k]? = w.heap[k]?
theorem Aft.refl (B : Nat) (w : World) : Aft B w w := ⟨rfl, rfl, rfl, Nat.le_refl _, fun _ _ _ => rfl⟩
theorem Aft.trans {B : Nat} {a b c : World} (h : Aft B a b) (k : Aft B b c) : Aft B a c :=
 ⟨k.os.trans h.os, k.tape.trans h.tape, k.output.trans h.output, Nat.le_trans h.size k.size, fun i hi hn => (k.block i (Nat.lt_of_lt_of_le hi h.size) hn).trans (h.block i hi hn)⟩
theorem Only.aft {B : Nat} {w w' : World} (h : Only B w w') : Aft B w w' := ⟨h.1, h.2.1, h.2.2.1, by rw [h.2.2.2.1]; exact Nat.le_refl _, fun k _ hk => h.2.2.2.2 k hk⟩
theorem aft_below {B : Nat} {w w' : World} (h : Below w.heap.size w w') : Aft B w w' := ⟨h.os, h.tape, h.output, h.size, fun k hk _ => h.block k hk⟩
theorem Aft.below {B C : Nat} {w0 w w' : World} (hb : Below C w0 w) (h : Aft B w w') (hC : C ≤ B) (hS : C ≤ w.heap.size) : Below C w0 w' :=
 hb.trans ⟨h.os, h.tape, h.output, h.size, fun k hk => h.block k (by omega) (by omega)⟩
theorem Src.stays {B : Nat} {w w' : World} {a : Option Addr} {len cap : Nat} (hs : Src w B a len cap) (h : ∀ k, k ≤ B → w'.heap[k]? = w.heap[k]?) : Src w' B a len cap := by
 obtain ⟨hr, at_, mix, size, hb, h0⟩ := hs
 refine ⟨?_, at_, mix, size, (h B (Nat.le_refl _)).trans hb, h0⟩
 rcases hr with h0 | ⟨b, off, rfl, hlt, hc⟩
 ·exact .inl h0
 ·refine .inr ⟨b, off, rfl, hlt, fun i hi => ?_⟩
  obtain ⟨z, hz, z1, z2⟩ := hc i hi
  exact ⟨z, (World.cell?_of_block (w := w) (a := ⟨b, off + i, none⟩) (h b (Nat.le_of_lt hlt))).trans hz, z1, z2⟩
theorem Src.lt {B : Nat} {w : World} {a : Option Addr} {len cap : Nat} (hs : Src w B a len cap) : B < w.heap.size := by
 obtain ⟨_, at_, mix, size, hb, _⟩ := hs
 rcases Nat.lt_or_ge B w.heap.size with h | h
 ·exact h
 ·rw [Array.getElem?_eq_none h] at hb
  exact absurd hb (by simp)
theorem Src.below {B : Nat} {w w' : World} {a : Option Addr} {len cap : Nat} (hs : Src w B a len cap) (h : Below w.heap.size w w') : Src w' B a len cap :=
 hs.stays fun k hk => h.block k (Nat.lt_of_le_of_lt hk hs.lt)
end Go.Proofs.YtjdlgpnhkfdehaaGreatDoor.Dr


/- What the specification's reader of numbers does. -/
namespace Go.Proofs.YtjdlgpnhkfdehaaGreatDoor.Up
open Go.RowKit
open Go.Proofs.YtjdlgpnhkfdehaaGreatDoor.Gn (rd getV getV_rd outN)
open Go.Proofs.YtjdlgpnhkfdehaaGreatDoor.Dr (Aft Only)
theorem hideQ {p : Prop} (h : p) : Hid p := h
def Rdr (w : World) (B : Nat) (t : ByteArray) (at_ : Int) (bad : Bool) : Prop := w.heap[B]? = some (.cells #[.string t, .int .i64 at_, .bool bad] 137 (0, 0))
theorem rdr_lt {w : World} {B : Nat} {t : ByteArray} {a : Int} {b : Bool} (h : Rdr w B t a b) : B < w.heap.size := (Array.getElem?_eq_some_iff.1 h).1
theorem set_k3 {W : World} {g : Nat} {x y z : Value} {T : TypeId} (h : W.heap[g]? = some (.cells #[x, y, z] T (0, 0))) (v : Value) : (W.setCell ⟨g, 0, none⟩ v).heap[g]? = some (.cells #[v, y, z] T (0, 0)) ∧ (W.setCell ⟨g, 1, none⟩ v).heap[g]? = some (.cells #[x, v, z] T (0, 0)) ∧ (W.setCell ⟨g, 2, none⟩ v).heap[g]? = some (.cells #[x, y, v] T (0, 0)) := by
 refine ⟨?_, ?_, ?_⟩
 ·rw [heap_setCell_same W g 0 _ T v h]; rfl
 ·rw [heap_setCell_same W g 1 _ T v h]; rfl
 ·rw [heap_setCell_same W g 2 _ T v h]; rfl
theorem lq_alloc {w W : World} (h : Below w.heap.size w W) (o : Obj) : Below w.heap.size w (W.alloc o) := h.alloc h.size o
theorem lq_drew {w W : World} (h : Below w.heap.size w W) : Below w.heap.size w W.drew := h.drew
theorem lq_set {w W : World} (h : Below w.heap.size w W) (k : Nat) (v : Value) : Below w.heap.size w (W.setCell ⟨w.heap.size, k, none⟩ v) := h.setCell (p := ⟨w.heap.size, k, none⟩) (Nat.le_refl _) v
theorem lq_keep {w0 w w' : World} (h : Below w0.heap.size w0 w) (hb : Below w.heap.size w w') : Below w0.heap.size w0 w' := h.trans (hb.mono h.size)
theorem blk_low {w w' : World} {g : Nat} {x : Obj} (h : w.heap[g]? = some x) (hb : Below w.heap.size w w') : w'.heap[g]? = some x := (hb.block g (Array.getElem?_eq_some_iff.1 h).1).trans h
theorem aft_set {B : Nat} {w W : World} (h : Below w.heap.size w W) (o : Nat) (v : Value) : Aft B w (W.setCell ⟨B, o, none⟩ v) := (Dr.aft_below h).trans (Dr.Only.aft ((Only.refl B W).set o v))
def okN (t : ByteArray) (at_ : Int) (bad : Bool) (most : Int) : Prop := bad = false ∧ (rd t at_).2.2 = 0 ∧ 0 ≤ (rd t at_).1 ∧ (rd t at_).1 ≤ most
theorem get_case (t : ByteArray) (a : Int) : ∃ n p c : Int, getV t a = .agg #[.int .i64 n, .int .i64 p, .int .i64 c] ∧ ((c = 0 ∧ rd t a = (n, p.toNat, 0) ∧ 0 ≤ p) ∨ (¬ c = 0 ∧ ¬ (rd t a).2.2 = 0)) := by
 rw [getV_rd]
 by_cases h : (rd t a).2.2 = 0
 ·rw [if_pos h]
  refine ⟨_, _, _, rfl, .inl ⟨rfl, ?_, by omega⟩⟩
  rw [Int.toNat_natCast, ← h]
 ·rw [if_neg h]
  exact ⟨_, _, _, rfl, .inr ⟨h, h⟩⟩
set_option maxRecDepth 100000 in
set_option maxHeartbeats 4000000 in
theorem num_any (B : Nat) (t : ByteArray) (at_ most : Int) (bad : Bool) (w : World) (ht : t.size ≤ 1048576) (hb : Rdr w B t at_ bad) :
  Calls Tryz.prog 124 #[.pointer (some ⟨B, 0, none⟩), .int .i64 most] w fun e w' => ((okN t at_ bad most ∧ e = .returned (.int .i64 (rd t at_).1) ∧ Rdr w' B t ((rd t at_).2.1 : Int) false) ∨ (¬ okN t at_ bad most ∧ e = .returned (.int .i64 0) ∧ Rdr w' B t at_ true)) ∧ Aft B w w' := by
 have HB := hideQ hb
 have c0 : w.cell? ⟨B, 0, none⟩ = some (.string t) := cell_of_row w B 0 _ _ _ hb
 have c1 : w.cell? ⟨B, 1, none⟩ = some (.int .i64 at_) := cell_of_row w B 1 _ _ _ hb
 clear hb
 obtain ⟨n, p, c, hv, hcase⟩ := get_case t at_
 have HC := hideQ hcase
 have HGS : Hid (∀ W, Calls Tryz.prog 84 #[.string t, .int .i64 at_] W fun e w' => e = .returned (.agg #[.int .i64 n, .int .i64 p, .int .i64 c]) ∧ Below W.heap.size W w') := fun W => by
  have := Gn.get_spec t at_ W (by unfold maxLen; omega)
  rw [hv] at this
  exact this
 clear hv hcase
 go_enter Tryz.func124, Tryz.ntmps124
 have K0 : Hid (Below w.heap.size w w.drew) := (Below.refl _ _).drew
 have KA : Hid (∀ o, Below w.heap.size w (w.drew.alloc o)) := fun o => (Below.refl _ _).drew.alloc (Nat.le_refl _) o
 have KB : Hid (∀ o, Below w.heap.size w (w.alloc o).drew) := fun o => ((Below.refl _ _).alloc (Nat.le_refl _) o).drew
 have CB : Hid (∀ W, Below w.heap.size w W → W.cell? ⟨B, 0, none⟩ = some (.string t) ∧ W.cell? ⟨B, 1, none⟩ = some (.int .i64 at_)) := fun W h => ⟨(h.cell (p := ⟨B, 0, none⟩) (rdr_lt HB.out)).trans c0, (h.cell (p := ⟨B, 1, none⟩) (rdr_lt HB.out)).trans c1⟩
 clear c0 c1
 go_upto_region 1 with fail
 go_cut [5] from 6 to 14 (fun s5 wx => ∃ g : Nat, s5 = .pointer (some ⟨g, 0, none⟩) ∧ wx.heap[g]? = some (.cells #[.int .i64 n, .int .i64 p, .int .i64 c] 88 (0, 0)) ∧ w.heap.size ≤ g ∧ Below w.heap.size w wx)
 case first =>
  have hS0 := CB.out _ K0.out
  go_region_held3 (fun W => W.cell? ⟨B, 0, none⟩ = some (.string t) ∧ W.cell? ⟨B, 1, none⟩ = some (.int .i64 at_)) (first | assumption | exact CB.out _ (by repeat (first | exact L1.out | exact Below.refl _ _ | refine lq_alloc ?_ _ | refine lq_set ?_ _ _ | refine lq_drew ?_))) (first | (go_at_call 84; (with_reducible refine (HGS.out _).mono ?_); rintro e w1 ⟨rfl, hb1⟩; have L1 := hideQ (lq_keep (w0 := w) (by repeat (first | exact Below.refl _ _ | refine lq_alloc ?_ _ | refine lq_drew ?_)) hb1); have K1 := hideQ hb1; obtain ⟨hc1, hf1⟩ := Gn.bcell hb1; clear hb1))
  all_goals (try go_wp2_with fail)
  all_goals go_meet
  all_goals (first | exact ⟨_, rfl, heap_alloc_new w1 _, L1.out.size, lq_alloc L1.out _⟩ | exact ⟨_, rfl, (set_k3 (set_k3 (set_k3 (blk_low (w := (w.alloc (.cells #[.int .i64 0, .int .i64 0, .int .i64 0] 88)).drew) (heap_alloc_new w _) K1.out) _).1 _).2.1 _).2.2, Nat.le_refl _, lq_set (lq_set (lq_set L1.out _ _) _ _) _ _⟩)
 case rest =>
  obtain ⟨g, rfl, hgb, hgl, hbx⟩ := hcut
  have RB : Hid (Rdr wc B t at_ bad) := blk_low HB.out hbx
  have cB : wc.cell? ⟨B, 2, none⟩ = some (.bool bad) := cell_of_row wc B 2 _ _ _ RB.out
  have cB1 : wc.cell? ⟨B, 1, none⟩ = some (.int .i64 at_) := cell_of_row wc B 1 _ _ _ RB.out
  have hgB : ¬ g = B := by have := rdr_lt HB.out; omega
  have hBg : ¬ B = g := by omega
  have fB := fun o => frozen_of_row wc B o _ _ RB.out
  have cg0 : wc.cell? ⟨g, 0, none⟩ = some (.int .i64 n) := cell_of_row wc g 0 _ _ _ hgb
  have cg1 : wc.cell? ⟨g, 1, none⟩ = some (.int .i64 p) := cell_of_row wc g 1 _ _ _ hgb
  have cg2 : wc.cell? ⟨g, 2, none⟩ = some (.int .i64 c) := cell_of_row wc g 2 _ _ _ hgb
  have BX := hideQ hbx
  have HBAD : Hid (Rdr (wc.setCell ⟨B, 2, none⟩ (.bool true)) B t at_ true) := (set_k3 RB.out _).2.2
  have HFIN : Hid (Rdr (wc.setCell ⟨B, 1, none⟩ (.int .i64 p)) B t p bad) := (set_k3 RB.out _).2.1
  clear hgb hgl hbx HB HGS CB K0 KA KB
  cases bad with
  | true =>
   go_wp2_with fail
   go_ret
   exact ⟨.inr ⟨fun h => absurd h.1 (by decide), rfl, HBAD.out⟩, aft_set BX.out _ _⟩
  | false =>
   by_cases hc : c = 0
   ·subst hc
    have hrd : rd t at_ = (n, p.toNat, 0) ∧ 0 ≤ p := by
     rcases HC.out with h | h
     ·exact h.2
     ·exact absurd rfl h.1
    have HRD := hideQ hrd
    clear hrd
    by_cases hr : 0 ≤ n ∧ n ≤ most
    ·go_wp2_with fail
     refine (Bi.is_yes n 0 most _ hr.1 hr.2).mono ?_
     rintro e w2 ⟨rfl, rfl⟩
     go_wp2_with fail
     go_ret
     refine ⟨.inl ⟨⟨rfl, by rw [HRD.out.1], by rw [HRD.out.1]; exact hr.1, by rw [HRD.out.1]; exact hr.2⟩, by rw [HRD.out.1]; rfl, ?_⟩, aft_set BX.out _ _⟩
     rw [HRD.out.1, show ((p.toNat : Nat) : Int) = p from Int.toNat_of_nonneg HRD.out.2]
     exact HFIN.out
    ·have HR := hideQ hr
     go_wp2_with fail
     refine (Bi.is_no n 0 most _ (by omega)).mono ?_
     rintro e w2 ⟨rfl, rfl⟩
     clear hr
     go_wp2_with fail
     go_ret
     exact ⟨.inr ⟨fun h => HR.out (by have := h.2.2; rw [HRD.out.1] at this; exact this), rfl, HBAD.out⟩, aft_set BX.out _ _⟩
   ·have hc' : (c != 0) = true := by simp; exact hc
    go_wp2_with fail
    go_ret
    refine ⟨.inr ⟨fun h => ?_, rfl, HBAD.out⟩, aft_set BX.out _ _⟩
    rcases HC.out with k | k
    ·exact hc k.1
    ·exact k.2 h.2.1
end Go.Proofs.YtjdlgpnhkfdehaaGreatDoor.Up


/- The walk of the specification's look for the next symbol. -/
namespace Go.Proofs.YtjdlgpnhkfdehaaGreatDoor.Bi
open Go.RowKit
open Go.Proofs.YtjdlgpnhkfdehaaGreatDoor.St (IsS Strs)
def wthK (l : List Int) (t : ByteArray) (k : Nat) : Bool := (List.range k).any fun i => decide (0 < l.getD i 0) && Lib.hasPrefix (codeOf l i).data.toList t.data.toList
theorem wthK_next (l : List Int) (t : ByteArray) (k : Nat) : wthK l t (k + 1) = (wthK l t k || (decide (0 < l.getD k 0) && Lib.hasPrefix (codeOf l k).data.toList t.data.toList)) := by
 unfold wthK
 rw [List.range_succ, List.any_append, List.any_cons, List.any_nil, Bool.or_false]
def nxt (l : List Int) (t : ByteArray) : Int := match sym l t with
 | some i => (i : Int)
 | none => if wth l t = true then -2 else -1
theorem toList_beq {x y : ByteArray} : (x.toList == y.toList) = true ↔ x = y := by
 rw [beq_iff_eq, ByteArray.toList_eq, ByteArray.toList_eq]
 constructor
 ·intro h
  have h2 : x.data = y.data := Array.toList_inj.1 h
  cases x; cases y; simp at h2; rw [h2]
 ·intro h; rw [h]
theorem pre_no {c t : ByteArray} (h : c.size ≤ t.size) (hne : ¬ t.extract 0 c.size = c) : Lib.hasPrefix c.data.toList t.data.toList = false := by
 rw [← Lib.hasPrefix_raw]
 by_cases hs : t.size ≤ c.size
 ·rw [decide_eq_true hs, Bool.true_and]
  cases hb : ((c.extract 0 t.size).toList == t.toList) with
  | false => rfl
  | true =>
   have h1 := toList_beq.1 hb
   have h2 : t.size = c.size := by omega
   rw [h2, ByteArray.extract_zero_size] at h1
   exact absurd (by rw [h1]; exact ByteArray.extract_zero_size) hne
 ·rw [decide_eq_false hs, Bool.false_and]
theorem pre_is {c t : ByteArray} (h : t.size < c.size) : ((c.extract 0 t.size).toList == t.toList) = Lib.hasPrefix c.data.toList t.data.toList := by
 rw [← Lib.hasPrefix_raw, decide_eq_true (by omega), Bool.true_and]
set_option maxRecDepth 100000 in
set_option maxHeartbeats 2000000 in
theorem next_spec (l : List Int) (t : ByteArray) (p : Nat) (x : Option Addr) (cap B : Nat) (w : World) (hs : Strs w B x (codesV l)) (hr : right l = true) (hp : p ≤ t.size) (ht : t.size ≤ 8000) :
    Calls Tryz.prog 224 #[.slice x l.length cap, .string t, .int .i64 p] w fun e w' => e = .returned (.int .i64 (nxt l (rst t p))) ∧ w' = w := by
  have hok := (within_yes (right_yes hr).1).2
  have hcs := (right_yes hr).2
  have hn := (within_yes (right_yes hr).1).1
  have HS := hideB hs
  have HK := hideB hok
  have HSO := hideB (fun (i : Nat) (h : mt l (rst t p) i) => sym_of hcs hok h)
  have HSN := hideB (fun (h : ∀ i, ¬ mt l (rst t p) i) => sym_none h)
  have HCL := hideB (codesV_length l)
  clear hs hok hcs hr
  obtain ⟨n, hln⟩ : ∃ n, n = l.length := ⟨_, rfl⟩
  have HLN := hideB hln
  rw [← hln] at hn HCL ⊢
  clear hln
  obtain ⟨r, hrr⟩ : ∃ r, r = rst t p := ⟨_, rfl⟩
  have hre : t.extract p t.size = r := hrr.symm
  have hrz : r.size ≤ 8000 := by rw [hrr, rst_size]; omega
  obtain ⟨rs, hrs⟩ : ∃ rs, rs = nxt l (rst t p) := ⟨_, rfl⟩
  have HRS := hideB hrs
  rw [← hrs]
  rw [← hrr] at HRS HSO HSN
  clear hrr hrs
  have hpi : (p : Int) ≤ t.size := by omega
  go_enter Tryz.func224, Tryz.ntmps224
  go_wp2_with fail
  go_loopw [9, 8] (fun i b wr => ∃ (k : Nat) (wb : Bool), i = .int .i64 k ∧ b = .bool wb ∧ k ≤ n ∧ wb = wthK l r k ∧ (∀ j, j < k → ¬ mt l r j) ∧ wr = w) (fun i _ _ => n - (intOf i).toNat)
  case atStart => exact ⟨0, false, rfl, rfl, Nat.zero_le _, rfl, fun j hj => absurd hj (Nat.not_lt_zero j), rfl⟩
  case round =>
    obtain ⟨k, wb, rfl, rfl, hk, hwb, hall, hw⟩ := hrel
    subst hw
    have HWB := hideB hwb
    have HA := hideB hall
    clear hwb hall
    by_cases hlt : k < n
    · have hkl : k < l.length := by rw [← HLN.out]; exact hlt
      have hkv : k < (codesV l).length := by rw [HCL.out]; exact hlt
      obtain ⟨b, off, rfl, hb, hc⟩ := HS.out.some (by omega)
      have ci := hc k hkv
      rw [codes_get l HK.out k hkv] at ci
      have HNX := hideB (wthK_next l r k)
      have HNONE := hideB (codeOf_none l k)
      have HSZ := hideB (codeOf_size l k)
      have hcl := codeOf_le l HK.out k
      have HMT : Hid (mt l r k ↔ 0 < l.getD k 0 ∧ wd l k ≤ r.size ∧ r.extract 0 (wd l k) = codeOf l k) := ⟨fun h => h.2, fun h => ⟨hkl, h⟩⟩
      rw [show (l.getD k 0).toNat = wd l k from rfl] at HSZ
      rw [← HSZ.out] at HMT
      obtain ⟨c, hcc⟩ : ∃ c, c = codeOf l k := ⟨_, rfl⟩
      rw [← hcc] at ci HNX HNONE hcl HMT
      have HS2 : Hid (c.size = wd l k) := by
        unfold Hid
        rw [hcc]
        exact HSZ.out
      clear hc hcc HSZ
      by_cases h0 : 0 < l.getD k 0
      · have hne : c.toList.isEmpty = false := nonempty c (by rw [HS2.out]; unfold wd; omega)
        rw [decide_eq_true h0, Bool.true_and] at HNX
        by_cases hge : c.size ≤ r.size
        · have hgi : (c.size : Int) ≤ r.size := by omega
          by_cases hm : r.extract 0 c.size = c
          · have hbq : ((r.extract 0 c.size).toList == c.toList) = true := toList_beq.2 hm
            have HE : Hid (rs = (k : Int)) := by
              unfold Hid
              rw [HRS.out]
              unfold nxt
              rw [HSO.out k (HMT.out.2 ⟨h0, hge, hm⟩)]
            clear hm h0
            go_wp2_with fail
            go_ret
            exact ⟨by rw [HE.out]; rfl, rfl⟩
          · have hbq : ((r.extract 0 c.size).toList == c.toList) = false := by
              cases hq : ((r.extract 0 c.size).toList == c.toList) with
              | false => rfl
              | true => exact absurd (toList_beq.1 hq) hm
            have HNO : Hid (∀ j, j < k + 1 → ¬ mt l r j) := fun j hj hmj => by
              by_cases e : j = k
              · subst e; exact hm (HMT.out.1 hmj).2.2
              · exact HA.out j (by omega) hmj
            have HW2 : Hid (wb = wthK l r (k + 1)) := by
              unfold Hid
              rw [HNX.out, pre_no hge hm, Bool.or_false]
              exact HWB.out
            have hlf : decide ((r.size : Int) < c.size) = false := decide_eq_false (by omega)
            clear hm h0
            cases wb with
            | true =>
              go_wp2_with fail
              go_roundw
              case rel => exact ⟨k + 1, true, by go_num, rfl, by omega, HW2.out, HNO.out, trivial⟩
              case measure => simp [intOf]; omega
            | false =>
              go_wp2_with fail
              go_roundw
              case rel => exact ⟨k + 1, false, by go_num, rfl, by omega, HW2.out, HNO.out, trivial⟩
              case measure => simp [intOf]; omega
        · have hgi : decide ((c.size : Int) ≤ r.size) = false := decide_eq_false (by omega)
          have hlt' : (r.size : Int) < c.size := by omega
          have hri : (r.size : Int) ≤ c.size := by omega
          have HNO : Hid (∀ j, j < k + 1 → ¬ mt l r j) := fun j hj hmj => by
            by_cases e : j = k
            · subst e; exact hge (HMT.out.1 hmj).2.1
            · exact HA.out j (by omega) hmj
          have hbq := pre_is (c := c) (t := r) (by omega)
          have HW2 : Hid ((wb || Lib.hasPrefix c.data.toList r.data.toList) = wthK l r (k + 1)) := by
            unfold Hid
            rw [HNX.out, HWB.out]
          generalize Lib.hasPrefix c.data.toList r.data.toList = pb at hbq HW2
          clear h0
          cases wb with
          | true =>
            go_wp2_with fail
            go_roundw
            case rel => exact ⟨k + 1, true, by go_num, rfl, by omega, HW2.out, HNO.out, trivial⟩
            case measure => simp [intOf]; omega
          | false =>
            cases pb with
            | true =>
              go_wp2_with fail
              go_roundw
              case rel => exact ⟨k + 1, true, by go_num, rfl, by omega, HW2.out, HNO.out, trivial⟩
              case measure => simp [intOf]; omega
            | false =>
              go_wp2_with fail
              go_roundw
              case rel => exact ⟨k + 1, false, by go_num, rfl, by omega, HW2.out, HNO.out, trivial⟩
              case measure => simp [intOf]; omega
      · have hce := HNONE.out h0
        have HNO : Hid (∀ j, j < k + 1 → ¬ mt l r j) := fun j hj hmj => by
          by_cases e : j = k
          · subst e; exact h0 (HMT.out.1 hmj).1
          · exact HA.out j (by omega) hmj
        have HW2 : Hid (wb = wthK l r (k + 1)) := by
          unfold Hid
          rw [HNX.out, decide_eq_false h0, Bool.false_and, Bool.or_false]
          exact HWB.out
        subst hce
        clear h0
        go_wp2_with fail
        go_roundw
        case rel => exact ⟨k + 1, wb, by go_num, rfl, by omega, HW2.out, HNO.out, trivial⟩
        case measure => simp [intOf]; omega
    · obtain rfl : k = n := by omega
      have HSY : Hid (sym l r = none) := HSN.out (fun i hm => HA.out i (by rw [HLN.out]; exact hm.1) hm)
      have HWT : Hid (wb = wth l r) := by
        unfold Hid
        rw [HWB.out, HLN.out]
        rfl
      cases wb with
      | true =>
        have HE : Hid (rs = -2) := by
          unfold Hid
          rw [HRS.out]
          unfold nxt
          rw [HSY.out]
          simp only [← HWT.out, if_true]
        go_wp2_with fail
        go_ret
        exact ⟨by rw [HE.out]; rfl, rfl⟩
      | false =>
        have HE : Hid (rs = -1) := by
          unfold Hid
          rw [HRS.out]
          unfold nxt
          rw [HSY.out]
          simp only [← HWT.out]
          rfl
        go_wp2_with fail
        go_ret
        exact ⟨by rw [HE.out]; rfl, rfl⟩
end Go.Proofs.YtjdlgpnhkfdehaaGreatDoor.Bi


/- The walk of the specification's CodeGet. -/
namespace Go.Proofs.YtjdlgpnhkfdehaaGreatDoor.Bi
open Go.RowKit
open Go.Proofs.YtjdlgpnhkfdehaaGreatDoor.In (Ints IsI OwnIn OwnI one_newI one_cellI)
open Go.Proofs.YtjdlgpnhkfdehaaGreatDoor.St (IsS Strs)
def OutV (w : World) (g : Nat) (v : Value) (p : Int) : Prop := w.heap[g]? = some (.cells #[v, .int .i64 p, .int .i64 0] 139 (0, 0))
theorem OutV.c0 {w : World} {g : Nat} {v : Value} {p : Int} (h : OutV w g v p) : w.cell? ⟨g, 0, none⟩ = some v := (cell_of_row w g 0 _ _ _ h).trans rfl
theorem OutV.c1 {w : World} {g : Nat} {v : Value} {p : Int} (h : OutV w g v p) : w.cell? ⟨g, 1, none⟩ = some (.int .i64 p) := (cell_of_row w g 1 _ _ _ h).trans rfl
theorem OutV.c2 {w : World} {g : Nat} {v : Value} {p : Int} (h : OutV w g v p) : w.cell? ⟨g, 2, none⟩ = some (.int .i64 0) := (cell_of_row w g 2 _ _ _ h).trans rfl
theorem OutV.fr {w : World} {g : Nat} {v : Value} {p : Int} (h : OutV w g v p) (j : Nat) : w.frozen? ⟨g, j, none⟩ = false := frozen_of_row w g j _ _ h
theorem OutV.lt {w : World} {g : Nat} {v : Value} {p : Int} (h : OutV w g v p) : g < w.heap.size := (Array.getElem?_eq_some_iff.1 h).1
theorem OutV.of_heap {w w' : World} {g : Nat} {v : Value} {p : Int} (h : OutV w g v p) (e : w'.heap[g]? = w.heap[g]?) : OutV w' g v p := by unfold OutV; rw [e]; exact h
theorem OutV.set0 {w : World} {g : Nat} {v : Value} {p : Int} (h : OutV w g v p) (v' : Value) : OutV (w.setCell ⟨g, 0, none⟩ v') g v' p := by unfold OutV; rw [heap_setCell_same w g 0 _ _ _ h]; rfl
theorem OutV.set1 {w : World} {g : Nat} {v : Value} {p : Int} (h : OutV w g v p) (q : Int) : OutV (w.setCell ⟨g, 1, none⟩ (.int .i64 q)) g v q := by unfold OutV; rw [heap_setCell_same w g 1 _ _ _ h]; rfl
theorem ownI_set {w : World} {base : Nat} {v : Value} {l : List Int} (h : OwnI w base v l) (a : Addr) (x : Value) (ha : a.block < base) : OwnI (w.setCell a x) base v l := by
 obtain ⟨hl, h⟩ := h
 refine ⟨hl, ?_⟩
 rcases h with h | ⟨g, cap, cur, hv, hg, hb, rest⟩
 ·exact .inl h
 ·exact .inr ⟨g, cap, cur, hv, hg, by rw [heap_setCell_other w a g x (by omega)]; exact hb, rest⟩
theorem ownI_alloc {w : World} {base : Nat} {v : Value} {l : List Int} (h : OwnI w base v l) (o : Obj) : OwnI (w.alloc o) base v l := World.ownsRow.alloc h o
theorem in_mono {w : World} {lo hi lo' hi' : Nat} {v : Value} {l : List Int} (h : OwnIn w lo hi v l) (h1 : lo' ≤ lo) (h2 : hi ≤ hi') : OwnIn w lo' hi' v l := by
 rcases h with h | ⟨g, cap, hv, hg, hh, ho⟩
 ·exact .inl h
 ·exact .inr ⟨g, cap, hv, by omega, by omega, ho⟩
theorem nxt_some {l : List Int} {t : ByteArray} {i : Nat} (h : sym l t = some i) : nxt l t = (i : Int) := by unfold nxt; rw [h]
theorem nxt_short {l : List Int} {t : ByteArray} (h : sym l t = none) (hw : wth l t = true) : nxt l t = -2 := by unfold nxt; rw [h]; simp only [hw, if_true]
theorem nxt_none {l : List Int} {t : ByteArray} (h : sym l t = none) (hw : wth l t = false) : nxt l t = -1 := by unfold nxt; rw [h]; simp only [hw]; rfl
set_option maxRecDepth 100000 in
set_option maxHeartbeats 2000000 in
theorem l04Get_any (l : List Int) (t : ByteArray) (m : Nat) (a : Option Addr) (cap : Nat) (w : World) (hl : Ints w w.heap.size a l) (h8 : t.size ≤ 8000) (hr : right l = true) (hm : m ≤ 400) :
  Calls Tryz.prog 178 #[.slice a l.length cap, .string t, .int .i64 m] w fun e w' => ∃ v, e = .returned (.agg #[v, .int .i64 (outS (st l t m)).2.1, .int .i64 (outS (st l t m)).2.2]) ∧ OwnIn w' w.heap.size w'.heap.size v (outS (st l t m)).1 ∧ Below w.heap.size w w' := by
 obtain ⟨i0, hi0, hz0, hz1, hz2⟩ := info_parts Tryz.infoG2
 obtain ⟨W0, hW0⟩ : ∃ W0, W0 = w.alloc (.cells #[.slice none 0 0, .int .i64 0, .int .i64 0] 139) := ⟨_, rfl⟩
 have z0 : W0.heap.size = w.heap.size + 1 := by rw [hW0]; simp
 have B0 := hideB (show Below w.heap.size w W0 by rw [hW0]; exact (Below.refl _ _).alloc (Nat.le_refl _) _)
 have O0 := hideB (show Out0 W0 w.heap.size by rw [hW0]; exact Out0.new w)
 have HCO := hideB (codes_spec l a cap W0.heap.size W0 ((hl.below B0.out).mono B0.out.size) (Nat.le_refl _) hr)
 have HL := hideB hl
 have HR := hideB hr
 have hn := (within_yes (right_yes hr).1).1
 clear hl hr
 obtain ⟨n, hln⟩ : ∃ n, n = l.length := ⟨_, rfl⟩
 have HLN := hideB hln
 rw [← hln] at hn HCO ⊢
 clear hln
 go_enter Tryz.func178, Tryz.ntmps178
 go_wp2_with fail
 rw [← hW0]
 have HW0 := hideB hW0
 clear hW0
 refine HCO.out.mono ?_
 rintro e w1 ⟨rfl, hx1, hb1⟩
 have X1 := hideB hx1
 have B1 := hideB (B0.out.trans (hb1.mono (by omega)))
 have O1 := hideB (O0.out.below hb1 (by omega))
 have z1 : W0.heap.size < w1.heap.size := hx1.lt
 clear hx1 hb1
 obtain ⟨b, hb⟩ : ∃ b, b = W0.heap.size := ⟨_, rfl⟩
 rw [← hb] at z0 z1 X1 ⊢
 have zb : w.heap.size < b := by omega
 clear hb HW0 O0 B0 z0 HCO
 go_wp2_with fail
 go_loopw [2] (fun mv wr => ∃ (k p : Nat) (xs : List Int) (v : Value), mv = .int .i64 ((m : Int) - k) ∧ k ≤ m ∧ st l t k = .inr (xs, p) ∧ OutV wr w1.heap.size v p ∧ OwnI wr (w1.heap.size + 1) v xs ∧ IsS wr b 9 (codesV l) ∧ Out0 wr w.heap.size ∧ Below w.heap.size w wr ∧ w1.heap.size < wr.heap.size) (fun mv _ => (intOf mv).toNat)
 case atStart => exact ⟨0, 0, [], .slice none 0 0, by go_num, Nat.zero_le _, rfl, heap_alloc_last w1 _, OwnI.nil _ _, X1.out.of_heapS (Below.heap_alloc w1 _ b z1), O1.out.below ((Below.refl w1.heap.size w1).alloc (Nat.le_refl _) _) (by omega), B1.out.alloc B1.out.size _, by simp⟩
 case round =>
  obtain ⟨k, p, xs, v, rfl, hk, hst, hov, hown, hx, ho, hbel, hz⟩ := hrel
  have HST := hideB hst
  have V3 := hideB hov
  have N3 := hideB hown
  have X3 := hideB hx
  have O3 := hideB ho
  have B3 := hideB hbel
  obtain ⟨hps, hxl⟩ := st_facts k p xs hst
  have HXL := hideB hxl
  obtain ⟨vx, vc, rfl, hvc, _⟩ := hown.ints
  clear hst hov hown hx ho hbel hxl
  have c0 := V3.out.c0
  have c1 := V3.out.c1
  have c2 := V3.out.c2
  have f0 := V3.out.fr 0
  have f1 := V3.out.fr 1
  have d0 := O3.out.c0
  have d1 := O3.out.c1
  have d2 := O3.out.c2
  have e0 := O3.out.fr 0
  have e1 := O3.out.fr 1
  have e2 := O3.out.fr 2
  obtain ⟨xl, hxl2⟩ : ∃ xl, xl = xs.length := ⟨_, rfl⟩
  have HX2 := hideB hxl2
  rw [← hxl2] at c0 V3 N3 hvc
  clear hxl2
  by_cases hlt : k < m
  ·have hpos : (0 : Int) < (m : Int) - k := by omega
   have HNX := hideB (next_spec l t p (some ⟨b, 0, none⟩) n (b + 1) wr (X3.out.strs (Nat.lt_succ_self b)) HR.out hps h8)
   rw [← HLN.out] at HNX
   cases hs : sym l (rst t p) with
   | none =>
    have HB := hideB (st_bad HST.out hs)
    have HE : Hid (outS (st l t m) = ([], 0, why l (rst t p))) := by
     have h1 := st_stay HB.out (m - (k + 1))
     rw [show k + 1 + (m - (k + 1)) = m by omega] at h1
     unfold Hid
     rw [h1]
     rfl
    cases hw : wth l (rst t p) with
    | true =>
     rw [nxt_short hs hw] at HNX
     have HE2 : Hid (outS (st l t m) = ([], 0, 4)) := by
      unfold Hid
      rw [HE.out]
      unfold why
      rw [if_pos hw]
     clear hs hw
     go_wp2_with fail
     refine HNX.out.mono ?_
     rintro e w' ⟨rfl, hw'⟩
     subst w'
     go_wp2_with fail
     refine bodyPost_ret (v := .agg #[.slice none 0 0, .int .i64 0, .int .i64 4]) (by simp [results, Tryz.results178, go_sem, d0, d1, d2]) rfl ⟨.slice none 0 0, ?_, ?_, ?_⟩
     ·rw [HE2.out]
     ·rw [HE2.out]
      exact .inl ⟨rfl, rfl⟩
     ·exact ((B3.out.setCell (Nat.le_refl _) _).setCell (Nat.le_refl _) _).setCell (Nat.le_refl _) _
    | false =>
     rw [nxt_none hs hw] at HNX
     have HE2 : Hid (outS (st l t m) = ([], 0, 3)) := by
      unfold Hid
      rw [HE.out]
      unfold why
      rw [if_neg (by rw [hw]; decide)]
     clear hs hw
     go_wp2_with fail
     refine HNX.out.mono ?_
     rintro e w' ⟨rfl, hw'⟩
     subst w'
     go_wp2_with fail
     refine bodyPost_ret (v := .agg #[.slice none 0 0, .int .i64 0, .int .i64 3]) (by simp [results, Tryz.results178, go_sem, d0, d1, d2]) rfl ⟨.slice none 0 0, ?_, ?_, ?_⟩
     ·rw [HE2.out]
     ·rw [HE2.out]
      exact .inl ⟨rfl, rfl⟩
     ·exact ((B3.out.setCell (Nat.le_refl _) _).setCell (Nat.le_refl _) _).setCell (Nat.le_refl _) _
   | some i =>
    rw [nxt_some hs] at HNX
    have HSM := hideB (st_more HST.out hs)
    have hmt := sym_mt hs
    have hil : i < l.length := hmt.1
    have hin : i < n := by rw [HLN.out]; exact hil
    have hb1 : ((i : Int) == -1) = false := beq_eq_false_iff_ne.2 (by omega)
    have hb2 : ((i : Int) == -2) = false := beq_eq_false_iff_ne.2 (by omega)
    have hwl : wd l i ≤ 12 := by
     have := (within_yes (right_yes HR.out).1).2 _ (List.getElem_mem hil)
     unfold wd
     rw [getD_lt hil]
     omega
    have HLI : Hid (l[i] = ((wd l i : Nat) : Int)) := by
     unfold Hid
     rw [← getD_lt hil]
     exact wd_int hmt.2.1
    clear hs hmt
    have hown := N3.out
    go_wp2_with fail
    refine HNX.out.mono ?_
    rintro e w' ⟨rfl, hw'⟩
    subst w'
    go_wp2_with (at_builtin; refine wpList_append_own _ rfl (.tmp 30) (.tmp 32) 97 rfl (w1.heap.size + 1) 2 i0 (.int .i64 0) 1 8 Tryz.underlying97 hi0 hz0 hz1 hz2 rfl (by decide) _ _ _ rfl (ownI_alloc hown _) ⟨wr.heap.size, 0, none⟩ 1 1 [.int .i64 (i : Int)] rfl rfl (one_newI _ _ _) (one_cellI _) (by unfold maxLen; have h1 := HXL.out; have h2 := HX2.out; omega) (by have h1 := HXL.out; have h2 := HX2.out; omega) (by simp; omega) ?_)
    intro v' w5 hown' hgrow _
    have N5 := hideB (OwnI.snoc hown')
    have b5 : Below (w1.heap.size + 1) wr w5 := In.app_one (Below.refl _ _) (by omega) (Nat.le_refl _) hown hgrow
    have V5 := hideB (V3.out.of_heap (b5.block w1.heap.size (Nat.lt_succ_self _)))
    have X5 := hideB (X3.out.of_heapS (b5.block b (by omega)))
    have O5 := hideB (O3.out.below b5 (by omega))
    have B5 := hideB (B3.out.trans (b5.mono (by omega)))
    have z5 := b5.size
    obtain ⟨y, yc, rfl, hyc, _⟩ := N5.out.ints
    obtain ⟨yl, hyl⟩ : ∃ yl, yl = (xs ++ [(i : Int)]).length := ⟨_, rfl⟩
    have HYL := hideB hyl
    rw [← hyl] at N5 hyc ⊢
    clear hown' hgrow hown b5 hyl
    obtain ⟨W6, hW6⟩ : ∃ W6, W6 = w5.setCell ⟨w1.heap.size, 0, none⟩ (.slice y yl yc) := ⟨_, rfl⟩
    have V6 := hideB (show OutV W6 w1.heap.size (.slice y yl yc) p by rw [hW6]; exact V5.out.set0 _)
    have N6 := hideB (show OwnI W6 (w1.heap.size + 1) (.slice y yl yc) (xs ++ [(i : Int)]) by rw [hW6]; exact ownI_set N5.out _ _ (Nat.lt_succ_self _))
    have X6 := hideB (show IsS W6 b 9 (codesV l) by rw [hW6]; exact X5.out.set_other _ _ (by simp; omega))
    have O6 := hideB (show Out0 W6 w.heap.size by rw [hW6]; exact O5.out.set _ _ (by simp; omega))
    have B6 := hideB (show Below w.heap.size w W6 by rw [hW6]; exact B5.out.setCell (p := ⟨w1.heap.size, 0, none⟩) (by simp; omega) _)
    have z6 : w1.heap.size < W6.heap.size := by rw [hW6]; simp [World.setCell]; omega
    have HW6 := hideB hW6
    have g0 := V5.out.c0
    have g1 := V5.out.c1
    have h0 := V5.out.fr 0
    clear hW6 c0 c1 c2 f0 f1 d0 d1 d2 e0 e1 e2
    go_wp2_with fail
    rw [← HW6.out]
    clear g0 g1 h0
    obtain ⟨bl, offl, rfl, _, hcl⟩ := (HL.out.below B6.out).some (by omega)
    have cl := hcl i hil
    rw [HLI.out] at cl
    have k1 := V6.out.c1
    have j1 := V6.out.fr 1
    have V7 : Hid (OutV (W6.setCell ⟨w1.heap.size, 1, none⟩ (.int .i64 ((p : Int) + ((wd l i : Nat) : Int)))) w1.heap.size (.slice y yl yc) ((p + wd l i : Nat) : Int)) := by
     have := V6.out.set1 ((p : Int) + ((wd l i : Nat) : Int))
     unfold Hid
     rw [Int.natCast_add]
     exact this
    generalize wd l i = wv at cl HSM V7 hwl
    clear hcl HLI
    go_region
    all_goals (try go_wp2_with fail)
    all_goals go_roundw
    case rel => exact ⟨k + 1, p + wv, xs ++ [(i : Int)], .slice y yl yc, by go_num, by omega, HSM.out, V7.out, ownI_set N6.out _ _ (Nat.lt_succ_self _), X6.out.set_other _ _ (by simp; omega), O6.out.set _ _ (by simp; omega), Below.drew (B6.out.setCell (p := ⟨w1.heap.size, 1, none⟩) (by simp; omega) _), by simpa [World.setCell] using z6⟩
    case measure => simp [intOf]; omega
  ·obtain rfl : k = m := by omega
   have HE : Hid (outS (st l t k) = (xs, (p : Int), 0)) := by
    unfold Hid
    rw [HST.out]
    rfl
   have hpos : ¬ (0 : Int) < (k : Int) - k := by omega
   go_wp2_with fail
   refine bodyPost_ret (v := .agg #[.slice vx xl vc, .int .i64 p, .int .i64 0]) (by simp [results, Tryz.results178, go_sem, d0, d1, d2]) rfl ⟨.slice vx xl vc, ?_, ?_, ?_⟩
   ·rw [HE.out]
   ·rw [HE.out]
    exact in_mono (OwnI.inn (ownI_set (ownI_set (ownI_set N3.out ⟨w.heap.size, 0, none⟩ _ (by simp; omega)) ⟨w.heap.size, 1, none⟩ _ (by simp; omega)) ⟨w.heap.size, 2, none⟩ _ (by simp; omega))) (by omega) (Nat.le_refl _)
   ·exact ((B3.out.setCell (Nat.le_refl _) _).setCell (Nat.le_refl _) _).setCell (Nat.le_refl _) _
end Go.Proofs.YtjdlgpnhkfdehaaGreatDoor.Bi

