/- Texts put together: ShaOwn, ShaAllB. -/
import Derived.Test.YtkfipamdfpknpaaDoorWy15
import Derived.Laws.IdiomStrings
import Derived.ArgAppend
import Derived.Test.YtkfipamdfpknpaaDoorWy12
/- A row of bytes that the call made, in whatever block it lies by now, told by a function from places to numbers; and append of one byte onto it. -/
namespace Go.Proofs.YtkfipamdfpknpaaDoor.Sh
open Go.RowKit
def OwnB (w : World) (base : Nat) (v : Value) (n : Nat) (f : Nat → Nat) : Prop :=
 ∃ g cap, v = .slice (some ⟨g, 0, none⟩) n cap ∧ base ≤ g ∧ g < w.heap.size ∧ n ≤ cap ∧ cap ≤ maxLen ∧ (∀ j, j < n → w.cell? ⟨g, j, none⟩ = some (.int .u8 (f j : Nat))) ∧
  ∀ j, n ≤ j → j < cap → (w.cell? ⟨g, j, none⟩).isSome = true ∧ w.frozen? ⟨g, j, none⟩ = false
theorem OwnB.congr {w : World} {base : Nat} {v : Value} {n : Nat} {f f' : Nat → Nat} (h : OwnB w base v n f) (e : ∀ j, j < n → f j = f' j) : OwnB w base v n f' := by
 obtain ⟨g, cap, h1, h2, h3, h4, h5, h6, h7⟩ := h
 exact ⟨g, cap, h1, h2, h3, h4, h5, fun j hj => by rw [h6 j hj, e j hj], h7⟩
theorem OwnB.alloc {w : World} {base : Nat} {v : Value} {n : Nat} {f : Nat → Nat} (h : OwnB w base v n f) (o : Obj) : OwnB (w.alloc o) base v n f := by
 obtain ⟨g, cap, h1, h2, h3, h4, h5, h6, h7⟩ := h
 refine ⟨g, cap, h1, h2, by simp; omega, h4, h5, fun j hj => ?_, fun j hj1 hj2 => ?_⟩
 ·rw [World.cell?_alloc_past o g j h3]; exact h6 j hj
 ·rw [World.cell?_alloc_past o g j h3, World.frozen?_alloc_past o g j h3]; exact h7 j hj1 hj2
theorem OwnB.below {w w' : World} {base B : Nat} {v : Value} {n : Nat} {f : Nat → Nat} (h : OwnB w base v n f) (b : Below B w w') (hB : w.heap.size ≤ B) : OwnB w' base v n f := by
 obtain ⟨g, cap, h1, h2, h3, h4, h5, h6, h7⟩ := h
 refine ⟨g, cap, h1, h2, Nat.lt_of_lt_of_le h3 b.size, h4, h5, fun j hj => ?_, fun j hj1 hj2 => ?_⟩
 ·rw [b.cell (p := ⟨g, j, none⟩) (show g < B by omega)]; exact h6 j hj
 ·rw [b.cell (p := ⟨g, j, none⟩) (show g < B by omega), b.frozen (p := ⟨g, j, none⟩) (show g < B by omega)]; exact h7 j hj1 hj2
theorem OwnB.slice {w : World} {base : Nat} {v : Value} {n : Nat} {f : Nat → Nat} (h : OwnB w base v n f) : ∃ g cap, v = .slice (some ⟨g, 0, none⟩) n cap ∧ n ≤ cap := by
 obtain ⟨g, cap, h1, _, _, h4, _⟩ := h
 exact ⟨g, cap, h1, h4⟩
theorem own_of_string (w : World) (base : Nat) (s : ByteArray) (e : TypeId) (hs : s.size ≤ maxLen) (hb : base ≤ w.heap.size) :
  OwnB (w.drew.alloc (.cells (bytesRow s (grownCap w s.size 0 e)) e ((bytesRow s (grownCap w s.size 0 e)).size, (bytesRow s (grownCap w s.size 0 e)).size + 1))) base
   (.slice (some ⟨w.heap.size, 0, none⟩) s.size (grownCap w s.size 0 e)) s.size (bt s) := by
 have hge := grownCap_ge w s.size 0 e
 have hcm := grownCap_le_maxLen w s.size 0 e hs
 generalize grownCap w s.size 0 e = cap at hge hcm
 have hsz : (bytesRow s cap).size = cap := by
  have : s.data.size = s.size := rfl
  simp [bytesRow]
  omega
 have hc : ∀ j, (w.drew.alloc (.cells (bytesRow s cap) e ((bytesRow s cap).size, (bytesRow s cap).size + 1))).cell? ⟨w.heap.size, j, none⟩ = (bytesRow s cap)[j]? := fun j =>
  cell_of_row _ w.heap.size j _ e _ (heap_alloc_last w.drew _)
 refine ⟨w.heap.size, cap, rfl, hb, by simp, hge, hcm, fun j hj => ?_, fun j hj1 hj2 => ?_⟩
 ·rw [hc, bytesRow_at s cap j (show j < s.data.size from hj)]
  have := bt_get s j hj
  simp only [← this]
  rfl
 ·rw [hc]
  refine ⟨by rw [Array.getElem?_eq_getElem (by omega)]; rfl, ?_⟩
  unfold World.frozen?
  rw [show (w.drew.alloc (.cells (bytesRow s cap) e ((bytesRow s cap).size, (bytesRow s cap).size + 1))).heap[(⟨w.heap.size, j, none⟩ : Addr).block]? = some (.cells (bytesRow s cap) e ((bytesRow s cap).size, (bytesRow s cap).size + 1)) from heap_alloc_last w.drew _]
  simp [hsz]
  omega
theorem run_append_b {P : Program} (w : World) (base : Nat) (t ty e : TypeId) (i : TypeInfo) (ht : P.underlying t = some (.slice e)) (hi : P.info? e = some i) (hz : i.zero = some (.int .u8 0))
  (hsize : i.size = 1) (hby : i.bytes = 1) (v : Value) (n : Nat) (f : Nat → Nat) (hown : OwnB w base v n f) (ad : Addr) (c x : Nat) (hx : w.cell? (ad.add 0) = some (.int .u8 (x : Nat))) (hn : n + 1 ≤ 140737488355328) (hbase : base ≤ w.heap.size) :
  ∃ v' w', (Builtin.append_ #[t, t] ty #[v, .slice (some ad) 1 c]).run P w = .ok v' w' ∧ OwnB w' base v' (n + 1) (fun j => if j = n then x else f j) ∧ w.grownBy w' v.ownBlock := by
 obtain ⟨g, cap, rfl, hg1, hg2, hnc, hcm, hcl, hsp⟩ := hown
 have hnews : ∀ (j : Nat) (u : Value), [Value.int .u8 (x : Nat)][j]? = some u → w.cell? (ad.add j) = some u := by
  intro j u hj
  match j, hj with
  | 0, hj => simp at hj; subst hj; exact hx
 have hone : ∀ u ∈ [Value.int .u8 (x : Nat)], u.oneCell' = true := by
  intro u hu
  simp at hu
  subst hu
  rfl
 by_cases hroom : n + 1 ≤ cap
 ·obtain ⟨sp1, sp2⟩ := hsp n (Nat.le_refl _) hroom
  have hr := run_append_room_cells (P := P) w t ty e i ht hi g 0 n cap ad 1 c [.int .u8 (x : Nat)] (by simp [hsize]) hnews hone hroom
   (fun j hj => by simp at hj; subst hj; simpa [hsize] using sp1) (fun j hj => by simp at hj; subst hj; simpa [hsize] using sp2)
  refine ⟨_, _, hr, ?_, ⟨rfl, rfl, rfl, ?_, ?_⟩⟩
  ·obtain ⟨y, hy⟩ := Option.isSome_iff_exists.1 sp1
   simp only [hsize, Nat.mul_one, Nat.zero_add, World.setCells]
   refine ⟨g, cap, rfl, hg1, by simpa using hg2, hroom, hcm, fun j hj => ?_, fun j hj1 hj2 => ?_⟩
   ·by_cases e' : j = n
    ·subst e'
     rw [World.cell?_setCell_same w _ _ hy]
     simp
    ·rw [World.cell?_setCell_other w _ _ _ (by simp <;> omega), hcl j (by omega)]
     simp [e']
   ·rw [World.cell?_setCell_other w _ _ _ (by simp <;> omega), World.frozen?_setCell]
    exact hsp j (by omega) hj2
  ·simp [hsize, World.setCells]
  ·intro k _ hk
   simp only [hsize, World.setCells]
   exact heap_setCell_other w _ k _ (by intro e'; exact hk (by simp [Value.ownBlock, e']))
 ·have hcap : cap = n := by omega
  have hr := run_append_grow (P := P) w t ty e i (.int .u8 0) ht hi hz ⟨g, 0, none⟩ n cap ((List.range n).map fun j => Value.int .u8 (f j : Nat)) (by simp [hsize])
   (fun j u hj => by
    have hadd : (⟨g, 0, none⟩ : Addr).add j = ⟨g, j, none⟩ := by unfold Addr.add; split <;> simp_all
    rw [hadd]
    by_cases hjn : j < n
    ·simp [hjn] at hj
     rw [hcl j hjn, hj]
    ·simp [hjn] at hj)
   ad 1 c [.int .u8 (x : Nat)] (by simp [hsize]) hnews (by omega) (by omega) (by rw [hby]; exact growslice_fits (by omega) (by omega))
  have hge := grownCap_ge w (n + 1) cap e
  have hcm2 := grownCap_le_maxLen w (n + 1) cap e (by unfold maxLen; omega)
  refine ⟨_, _, hr, ?_, ⟨rfl, rfl, rfl, by simp, fun k hk _ => Below.heap_alloc w.drew _ k hk⟩⟩
  generalize grownCap w (n + 1) cap e = cap' at hge hcm2
  have hcc : ∀ (cs : Array Value) (j : Nat), (w.drew.alloc (.cells cs e)).cell? ⟨w.heap.size, j, none⟩ = cs[j]? := fun cs j => World.cell?_alloc_new w.drew cs e j
  have hff : ∀ (cs : Array Value) (j : Nat), (w.drew.alloc (.cells cs e)).frozen? ⟨w.heap.size, j, none⟩ = false := fun cs j => World.frozen?_alloc_new w.drew cs e j
  refine ⟨w.heap.size, cap', rfl, hbase, by simp, hge, hcm2, fun j hj => ?_, fun j hj1 hj2 => ⟨?_, hff _ j⟩⟩
  ·rw [hcc]
   by_cases e' : j = n
   ·subst e'
    simp [Array.getElem?_append]
   ·have hjn : j < n := by omega
    simp [Array.getElem?_append, hjn, hj, e']
  ·rw [hcc, Array.getElem?_eq_getElem]
   ·rfl
   ·simp [size_zeroCells, Value.cells]
    omega
theorem wpList_append_b {P : Program} {w : World} {ops : Array Oper} {rest : List Oper} {o : Oper} {a : Act} {Q : Exit → Act → World → Prop} (hgd : o.guard = none) (s y : Operand) (t : TypeId)
  (ho : o.op = .call { callee := .builtin .append, args := #[s, y], argTypes := #[t, t] })
  (base : Nat) (e : TypeId) (i : TypeInfo) (ht : P.underlying t = some (.slice e)) (hi : P.info? e = some i) (hz : i.zero = some (.int .u8 0)) (hsize : i.size = 1) (hby : i.bytes = 1)
  (v : Value) (n : Nat) (f : Nat → Nat) (hs : a.eval s = v) (hown : OwnB w base v n f) (ad : Addr) (c x : Nat) (hy : a.eval y = .slice (some ad) 1 c) (hx : w.cell? (ad.add 0) = some (.int .u8 (x : Nat)))
  (hn : n + 1 ≤ 140737488355328) (hbase : base ≤ w.heap.size)
  (h : ∀ v' w', OwnB w' base v' (n + 1) (fun j => if j = n then x else f j) → w.grownBy w' v.ownBlock → wpList P ops Q rest (a.put o.dst v') w') : wpList P ops Q (o :: rest) a w := by
 refine wpList_plain hgd fun K hK => ?_
 obtain ⟨v', w', hr, h2, h3⟩ := run_append_b (P := P) w base t o.type e i ht hi hz hsize hby v n f hown ad c x hx hn hbase
 unfold Oper.wp execOp
 simp only [ho, resolve, invoke, builtin, Sem.run_bind, Sem.run_pure, Result.andThen_ok, List.map_toArray, List.map_cons, List.map_nil, hs, hy, hr]
 exact hK _ _ (h v' w' h2 h3)
end Go.Proofs.YtkfipamdfpknpaaDoor.Sh


/- Plain mathematics for spec.l02All: what is filled up byte by byte, and that a block looks at its 64 bytes alone. -/
namespace Go.Proofs.YtkfipamdfpknpaaDoor.Sh
theorem pad_first (t : ByteArray) (j : Nat) (h : j < t.size + 1) : (if j = t.size then 128 else bt t j) = pad t j := by
 by_cases e : j = t.size
 ·subst e; simp [pad, padK]
 ·have : j < t.size := by omega
  simp [pad, padK, e, this]
theorem pad_zero (t : ByteArray) (n : Nat) (h1 : t.size < n) (h2 : n + 8 < chunks t.size * 64) : pad t n = 0 := by
 have a : ¬ n < t.size := by omega
 have b : ¬ n = t.size := by omega
 have c : ¬ chunks t.size * 64 ≤ n + 8 := by omega
 simp [pad, padK, a, b, c]
theorem pad_len (t : ByteArray) (m : Nat) (hm : m < 8) : pad t (chunks t.size * 64 - 8 + m) = t.size * 8 / 2 ^ (56 - 8 * m) % 256 := by
 have hr := chunks_room t.size
 have a : ¬ chunks t.size * 64 - 8 + m < t.size := by omega
 have b : ¬ chunks t.size * 64 - 8 + m = t.size := by omega
 have c : chunks t.size * 64 ≤ chunks t.size * 64 - 8 + m + 8 := by omega
 have d : chunks t.size * 64 - 1 - (chunks t.size * 64 - 8 + m) = 7 - m := by omega
 have e : 8 * (7 - m) = 56 - 8 * m := by omega
 simp only [pad, padK, if_neg a, if_neg b, if_pos c, d, e]
theorem pad_app (t : ByteArray) (n x : Nat) (hx : x = pad t n) (j : Nat) : (if j = n then x else pad t j) = pad t j := by
 by_cases e : j = n
 ·subst e; simp [hx]
 ·simp [e]
theorem part_congr (B B' : Nat → Nat) (h : ∀ j, j < 64 → B j = B' j) (i : Nat) (hi : i < 16) : ∀ j, j ≤ 4 → part B i j = part B' i j
 | 0, _ => rfl
 | j + 1, hj => by simp only [part]; rw [part_congr B B' h i hi j (by omega), h _ (by omega)]
theorem wv_congr (B B' : Nat → Nat) (h : ∀ j, j < 64 → B j = B' j) (i : Nat) : wv B i = wv B' i := by
 induction i using Nat.strongRecOn with
 | _ i ih =>
  by_cases hi : i < 16
  ·rw [wv_lo B i hi, wv_lo B' i hi]
   simp only [word]
   rw [part_congr B B' h i hi 4 (Nat.le_refl _)]
  ·rw [wv_hi B i hi, wv_hi B' i hi, ih (i - 16) (by omega), ih (i - 15) (by omega), ih (i - 7) (by omega), ih (i - 2) (by omega)]
theorem run_congr (B B' : Nat → Nat) (s : Nat → Int) (h : ∀ j, j < 64 → B j = B' j) : ∀ k, run B s k = run B' s k
 | 0 => rfl
 | k + 1 => by simp only [run]; rw [run_congr B B' s h k, wv_congr B B' h k]
theorem blk_congr (B B' : Nat → Nat) (s : Nat → Int) (h : ∀ j, j < 64 → B j = B' j) : blk B s = blk B' s := by
 funext j
 simp only [blk]
 rw [run_congr B B' s h 64]
theorem blk_str (t : ByteArray) (k : Nat) (s : Nat → Int) : blk (bt (strF 64 (blkB t k))) s = blk (blkB t k) s :=
 blk_congr _ _ s (fun j hj => bt_strF 64 _ j hj (blkB_lt t k j))
theorem firstF_range (j : Nat) : 0 ≤ firstF j ∧ firstF j < 4294967296 := by
 by_cases h : j < 8
 ·have : j = 0 ∨ j = 1 ∨ j = 2 ∨ j = 3 ∨ j = 4 ∨ j = 5 ∨ j = 6 ∨ j = 7 := by omega
  rcases this with rfl | rfl | rfl | rfl | rfl | rfl | rfl | rfl <;> decide
 ·simp [firstF, firstL, List.getD, List.getElem?_eq_none (show [1779033703, 3144134277, 1013904242, 2773480762, 1359893119, 2600822924, 528734635, (1541459225 : Int)].length ≤ j by simp; omega)]
theorem shaS_range (t : ByteArray) (k j : Nat) : 0 ≤ shaS t k j ∧ shaS t k j < 4294967296 := by
 cases k with
 | zero => exact firstF_range j
 | succ k => simp only [shaS, blk]; omega
end Go.Proofs.YtkfipamdfpknpaaDoor.Sh

