/- Texts put together: FrontRow, FrontSpec, ZeroApp. -/
import Derived.Test.YtmkpakhpjgocjaaCz18
import Derived.Test.YtmkpakhpjgocjaaShaLaws
import Derived.Test.YtmkpakhpjgocjaaStrO
import Derived.Test.YtmkpakhpjgocjaaChecked
import Derived.WalkSpells
import Derived.WalkLawsBesides
import Derived.BigRegion
import Derived.BigQuiet
import Derived.Deep.QuietTactic
import Derived.Laws.CopyOwn
import Derived.Test.YtmkpakhpjgocjaaShaBytes
import Derived.Test.YtmkpakhpjgocjaaCz2
/- The row of all bytes in memory: how the program makes it, and brings a byte to its front. -/
namespace Go.Proofs.Ytmkpakhpjgocjaa.Fr
open Go.RowKit
open Go.Proofs.Ytmkpakhpjgocjaa.Sh (IsB rowF upd rowF_size rowF_get rowF_one rowF_congr results_row below_row row_size upd_same upd_other)
open Go.Proofs.Ytmkpakhpjgocjaa.Ze (hideZ)
open Go.Proofs.Ytmkpakhpjgocjaa.St (Aft)

theorem Try.zeroA89 : (Try.prog.info? 89).bind (·.zero) = some (.agg (rowF .u8 256 fun _ => 0)) := by kernel_rfl
theorem Try.sizeA89 : (Try.prog.info? 89).map (·.size) = some 256 := by kernel_rfl

theorem Try.sizeB5 : (Try.prog.info? 5).map (·.size) = some 1 := by kernel_rfl

/-- a variable that holds a row of zeros -/
theorem wpList_alloc_row {P : Program} {w : World} {ops : Array Oper} {rest : List Oper} {a : Act} {Q : Exit → Act → World → Prop} {d : Tmp} {ty tt : TypeId} {pos : String} {af : Array Edge}
    {k : IntKind} {n : Nat} (hz : (P.info? ty).bind (·.zero) = some (.agg (rowF k n fun _ => 0)))
    (h : ∀ w', IsB w' w.heap.size ty k n (fun _ => 0) → (∀ B, B ≤ w.heap.size → Below B w w') → w'.heap.size = w.heap.size + 1 → (∀ j, j < w.heap.size → w'.heap[j]? = w.heap[j]?) → wpList P ops Q rest (a.put (some d) (.pointer (some ⟨w.heap.size, 0, none⟩))) w') :
    wpList P ops Q (⟨some d, .alloc ty, tt, pos, af, none⟩ :: rest) a w := by
  refine wpList_plain rfl fun K hK => ?_
  obtain ⟨i, hi, hzi⟩ : ∃ i, P.info? ty = some i ∧ i.zero = some (.agg (rowF k n fun _ => 0)) := by
    cases hi : P.info? ty with
    | none => rw [hi] at hz; cases hz
    | some i => exact ⟨i, rfl, by rw [hi] at hz; exact hz⟩
  have hl : (Instr.alloc ty true (.tuple #[])).run P w = .ok (.pointer (some ⟨w.heap.size, 0, none⟩)) (w.alloc (.cells (rowF k n fun _ => 0) ty)) := by
    simp [Instr.alloc, zeroValue, typeInfo, hi, hzi, newVar, newRow, Value.cells]
  unfold Oper.wp
  simp [execOp, hl, Result.andThen]
  exact hK _ _ (h _ (IsB.new w ty k n _) (fun B hB => (Below.refl B w).alloc hB _) (by simp) (fun j hj => Below.heap_alloc w _ j hj))

/-- a row's first bytes, one place up -/
def copyF (f : Nat → Int) (p : Nat) : Nat → Int := fun j => if j = 0 then f 0 else if j ≤ p then f (j - 1) else f j
theorem copy_front (f : Nat → Int) (p j : Nat) : upd (copyF f p) 0 (f p) j = front f p j := by
  unfold upd copyF front
  by_cases h : j = 0
  · rw [if_pos h, if_pos h]
  · rw [if_neg h, if_neg h, if_neg h]
theorem copyF_zero (f : Nat → Int) (j : Nat) : copyF f 0 j = f j := by
  unfold copyF
  by_cases h : j = 0
  · rw [if_pos h, h]
  · rw [if_neg h, if_neg (by omega)]
theorem copy_row (f : Nat → Int) (p : Nat) (hp : p < 256) :
    ((rowF .u8 256 f).toList.take 1 ++ (List.range p).map (fun j => Value.int .u8 (f j)) ++ (rowF .u8 256 f).toList.drop (1 + ((List.range p).map (fun j => Value.int .u8 (f j))).length)).toArray = rowF .u8 256 (copyF f p) := by
  rw [List.append_assoc]
  apply Array.ext'
  apply List.ext_getElem?
  intro j
  simp only [rowF, List.length_map, List.length_range]
  by_cases h0 : j = 0
  · subst h0
    rw [List.getElem?_append_left (by simp)]
    simp [copyF]
  · rw [List.getElem?_append_right (by simp; omega)]
    simp only [List.length_take, List.length_map, List.length_range]
    rw [show j - min 1 256 = j - 1 by omega]
    by_cases h1 : j ≤ p
    · rw [List.getElem?_append_left (by simp; omega)]
      have : j < 256 := by omega
      have h2 : j - 1 < p := by omega
      simp [copyF, h0, h1, h2, this]
    · rw [List.getElem?_append_right (by simp; omega), List.getElem?_drop]
      simp only [List.length_map, List.length_range]
      rw [show 1 + p + (j - 1 - p) = j by omega]
      by_cases h2 : j < 256
      · simp [copyF, h0, h1, h2]
      · simp [h2]

/-- copy within one row of bytes, one place up -/
theorem run_copy_up {P : Program} (w : World) (dT sT ty elem : TypeId) (hu : P.underlying dT = some (.slice elem)) (hsz : (P.info? elem).map (·.size) = some 1)
    (g p dCap sCap : Nat) (t : TypeId) (f : Nat → Int) (hp : p < 256) (hb : IsB w g t .u8 256 f) :
    ∃ w', (Builtin.copy_ #[dT, sT] ty #[.slice (some ⟨g, 1, none⟩) 255 dCap, .slice (some ⟨g, 0, none⟩) p sCap]).run P w = .ok (goInt p) w' ∧ IsB w' g t .u8 256 (copyF f p) ∧ Aft g w w' := by
  have hrun := run_copy_row (P := P) w dT sT ty elem g 1 255 dCap ⟨g, 0, none⟩ p sCap (rowF .u8 256 f) t ((List.range p).map (fun j => Value.int .u8 (f j))) hu hsz hb (by simp [Nat.min_def]; omega)
    (fun j v hv => by
      have hadd : (⟨g, 0, none⟩ : Addr).add j = ⟨g, j, none⟩ := by unfold Addr.add; split <;> simp_all
      rw [hadd]
      rw [List.getElem?_map] at hv
      by_cases hj : j < p
      · rw [List.getElem?_range hj] at hv
        rw [hb.cell (by omega)]
        exact hv
      · rw [List.getElem?_eq_none (by simpa using hj)] at hv
        cases hv)
    (by rw [rowF_size]; simp; omega) (fun v hv => by
      obtain ⟨j, _, rfl⟩ := List.mem_map.1 hv
      rfl)
  rw [copy_row f p hp, List.length_map, List.length_range] at hrun
  exact ⟨_, hrun, hb.row _, rfl, rfl, rfl, by simp [World.setRow], fun k hk hg => setRow_other w g k _ hg⟩

theorem aft_setCell {g i : Nat} {w w' : World} (h : Aft g w w') (v : Value) : Aft g w (w'.setCell ⟨g, i, none⟩ v) := h.set i v
theorem aft_trans {g : Nat} {w w1 w2 : World} (h : Aft g w w1) (h2 : Aft g w1 w2) : Aft g w w2 :=
  ⟨h2.1.trans h.1, h2.2.1.trans h.2.1, h2.2.2.1.trans h.2.2.1, Nat.le_trans h.2.2.2.1 h2.2.2.2.1, fun k hk hg => (h2.2.2.2.2 k (Nat.lt_of_lt_of_le hk h.2.2.2.1) hg).trans (h.2.2.2.2 k hk hg)⟩

set_option maxRecDepth 100000 in
set_option maxHeartbeats 1000000 in
theorem bring_impl (g p : Nat) (t : TypeId) (f : Nat → Int) (w : World) (hb : IsB w g t .u8 256 f) (hp : p < 256) :
    Calls Try.prog 103 #[.pointer (some ⟨g, 0, none⟩), .int .i64 p] w fun e w' => e = .returned (.tuple #[]) ∧ IsB w' g t .u8 256 (front f p) ∧ Aft g w w' := by
  have c0 := hb.cell hp
  have HB := hideZ hb
  have HA := hideZ (Aft.refl g w)
  obtain ⟨x, hx⟩ : ∃ x, x = f p := ⟨_, rfl⟩
  have HX := hideZ hx
  rw [← hx] at c0
  clear hx hb
  go_enter Try.func103, Try.ntmps103
  go_wp2_with fail
  have hp1 : (p : Int) ≤ 256 := by omega
  have hp2 : ¬ (p : Int) < 0 := by omega
  have hp3 : ¬ (256 : Int) < (p : Int) := by omega
  obtain ⟨W4, hcp, hb4, ha4⟩ := run_copy_up (P := Try.prog) w.drew 22 22 3 5 Try.underlying22 Try.sizeB5 g p 255 256 t f hp (HB.out.of_heap rfl)
  have HB4 := hideZ hb4
  have HA4 : Hid (Aft g w W4) := ⟨ha4.1, ha4.2.1, ha4.2.2.1, ha4.2.2.2.1, ha4.2.2.2.2⟩
  clear hb4 ha4
  have c1 := HB4.out.cell (j := 0) (by omega)
  have f1 := HB4.out.frozen 0
  have HF := hideZ (HB4.out.set 0 x)
  go_region
  go_wp2_with fail
  refine bodyPost_end (v := .tuple #[]) (by simp [results, Try.results103, go_sem]) rfl ⟨rfl, HF.out.congr (fun j _ => ?_), HA4.out.set 0 _⟩
  rw [HX.out]
  exact copy_front f p j

def rise (k : Nat) : Nat → Int := fun j => if j < k then (j : Int) else 0
theorem rise_next (k j : Nat) : upd (rise k) k (k : Int) j = rise (k + 1) j := by
  unfold upd rise
  by_cases e : j = k
  · subst e; rw [if_pos rfl, if_pos (by omega)]
  · rw [if_neg e]
    by_cases h : j < k
    · rw [if_pos h, if_pos (by omega)]
    · rw [if_neg h, if_neg (by omega)]
theorem rise_all (j : Nat) (h : j < 256) : rise 256 j = row0 j := if_pos h

set_option maxRecDepth 100000 in
set_option maxHeartbeats 1000000 in
theorem rising_impl (w : World) :
    Calls Try.prog 102 #[] w fun e w' => e = .returned (.agg (rowF .u8 256 row0)) ∧ Below w.heap.size w w' := by
  go_enter Try.func102, Try.ntmps102
  go_wp2_with ((with_reducible refine wpList_alloc_row Try.zeroA89 ?_); intro w1 hb1 hbel1 hs1 ho1)
  rename_i w0 hb0 hbel0 hs0 ho0 K0 a0
  have HB1 := hideZ hb1
  have HB0 := hideZ (hb0.of_heap (ho1 w.heap.size (by omega)))
  have HBel := hideZ ((hbel0 w.heap.size (Nat.le_refl _)).trans (hbel1 w.heap.size (by omega)))
  rw [hs0] at HB1 hs1
  clear hb1 hbel1 ho1 hb0 hbel0 ho0
  go_loopw [3] (fun i wr => ∃ k : Nat, i = .int .i64 k ∧ k ≤ 256 ∧ IsB wr (w.heap.size + 1) 89 .u8 256 (rise k) ∧ IsB wr w.heap.size 89 .u8 256 (fun _ => 0) ∧ Below w.heap.size w wr) (fun i _ => 256 - (intOf i).toNat)
  case atStart => exact ⟨0, rfl, by omega, HB1.out.congr (fun j _ => by unfold rise; rw [if_neg (by omega)]), HB0.out, HBel.out⟩
  case round =>
    obtain ⟨k, rfl, hk, h1, h0, hbel⟩ := hrel
    have G1 := hideZ h1
    have G0 := hideZ h0
    have GB := hideZ hbel
    by_cases hlt : k < 256
    · have ck := h1.cell (j := k) hlt
      have fk := h1.frozen k
      have hwr : ((k : Int)) % 256 = (k : Int) := by omega
      have HN := hideZ (h1.set k (k : Int))
      clear h1 h0 hbel
      go_wp2_with fail
      go_roundw
      case rel => exact ⟨k + 1, by go_num, by omega, HN.out.congr (fun j _ => rise_next k j), G0.out.set_other _ _ (by simp), GB.out.setCell (by simp) _⟩
      case measure => simp [intOf]; omega
    · obtain rfl : k = 256 := by omega
      have G2 := hideZ (h1.congr (fun j hj => rise_all j hj))
      clear h1 h0 hbel
      go_wp2_with (first | ((with_reducible refine Sh.wpList_load_row G2.out Try.underlying89 Try.sizeA89 ?_ ?_); (· rfl)) | ((with_reducible refine Sh.wpList_store_row G0.out Try.sizeA89 row0 ?_ ?_ ?_); (· rfl); (· rfl)))
      exact bodyPost_ret (v := .agg (rowF .u8 256 row0)) (results_row rfl _ rfl (G0.out.row _) Try.underlying89 Try.sizeA89) rfl ⟨rfl, below_row GB.out (Nat.le_refl _) _⟩
end Go.Proofs.Ytmkpakhpjgocjaa.Fr

/- The row of all bytes in memory: how the specification makes it, and brings a byte to its front. -/
namespace Go.Proofs.Ytmkpakhpjgocjaa.Fr
open Go.RowKit
open Go.Proofs.Ytmkpakhpjgocjaa.Sh (IsB rowF upd made_row upd_same upd_other)
open Go.Proofs.Ytmkpakhpjgocjaa.Ze (hideZ)
open Go.Proofs.Ytmkpakhpjgocjaa.St (Aft)

set_option maxRecDepth 100000 in
set_option maxHeartbeats 1000000 in
theorem row_spec (w : World) :
    Calls Try.prog 109 #[] w fun e w' => e = .returned (.slice (some ⟨w.heap.size, 0, none⟩) 256 256) ∧ IsB w' w.heap.size 5 .u8 256 row0 ∧ Below w.heap.size w w' := by
  obtain ⟨i0, hi, hz0, hz1, hz2⟩ := info_parts Nu.Try.infoJ5
  go_enter Try.func109, Try.ntmps109
  go_wp2_with (at_make; refine wpList_make_full _ rfl (.const (.int .i64 256)) (.const (.int .i64 256)) 22 rfl w.heap.size 5 i0 (.int .u8 0) 1 Try.underlying22 hi hz0 hz1 .i64 .i64 _ _ 256 rfl rfl (by simp) (by simp) (by rw [hz2]; omega) (by unfold maxLen; omega) (Nat.le_refl _) ?_; intro w1 hown1 hgrow1; have HR := hideZ (made_row hown1); have HB := hideZ ((Below.refl w.heap.size w).grown hgrow1 (Nat.le_refl _) (by simp)); clear hown1 hgrow1)
  go_loopw [2] (fun i wr => ∃ k : Nat, i = .int .i64 k ∧ k ≤ 256 ∧ IsB wr w.heap.size 5 .u8 256 (rise k) ∧ Below w.heap.size w wr) (fun i _ => 256 - (intOf i).toNat)
  case atStart => exact ⟨0, rfl, by omega, HR.out.congr (fun j _ => by unfold rise; rw [if_neg (by omega)]), HB.out⟩
  case round =>
    obtain ⟨k, rfl, hk, h1, hbel⟩ := hrel
    have G1 := hideZ h1
    have GB := hideZ hbel
    by_cases hlt : k < 256
    · have ck := h1.cell (j := k) hlt
      have fk := h1.frozen k
      have hwr : ((k : Int)) % 256 = (k : Int) := by omega
      have HN := hideZ (h1.set k (k : Int))
      clear h1 hbel
      go_wp2_with fail
      go_roundw
      case rel => exact ⟨k + 1, by go_num, by omega, HN.out.congr (fun j _ => rise_next k j), GB.out.setCell (by simp) _⟩
      case measure => simp [intOf]; omega
    · obtain rfl : k = 256 := by omega
      have G2 := hideZ (h1.congr (fun j hj => rise_all j hj))
      clear h1 hbel
      go_wp2_with fail
      go_ret
      exact ⟨rfl, G2.out, GB.out⟩

/-- the bytes from a place on, one place up -/
def downF (f : Nat → Int) (p k : Nat) : Nat → Int := fun j => if k < j ∧ j ≤ p then f (j - 1) else f j
theorem down_start (f : Nat → Int) (p j : Nat) : downF f p p j = f j := by
  unfold downF
  rw [if_neg (by omega)]
theorem down_next (f : Nat → Int) (p k j : Nat) (h : k + 1 ≤ p) : upd (downF f p (k + 1)) (k + 1) (f k) j = downF f p k j := by
  unfold upd downF
  by_cases e : j = k + 1
  · subst e
    rw [if_pos rfl, if_pos (by omega)]
    rfl
  · rw [if_neg e]
    by_cases h2 : k + 1 < j ∧ j ≤ p
    · rw [if_pos h2, if_pos (by omega)]
    · rw [if_neg h2, if_neg (by omega)]
theorem down_at (f : Nat → Int) (p k : Nat) : downF f p (k + 1) k = f k := by
  unfold downF
  rw [if_neg (by omega)]
theorem down_front (f : Nat → Int) (p j : Nat) : upd (downF f p 0) 0 (f p) j = front f p j := by
  unfold upd downF front
  by_cases h : j = 0
  · rw [if_pos h, if_pos h]
  · rw [if_neg h, if_neg h]
    by_cases h2 : j ≤ p
    · rw [if_pos (by omega), if_pos h2]
    · rw [if_neg (by omega), if_neg h2]

set_option maxRecDepth 100000 in
set_option maxHeartbeats 1000000 in
theorem front_spec (g p c : Nat) (t : TypeId) (f : Nat → Int) (w : World) (hb : IsB w g t .u8 256 f) (hp : p < 256) :
    Calls Try.prog 110 #[.slice (some ⟨g, 0, none⟩) 256 c, .int .i64 p] w fun e w' => e = .returned (.tuple #[]) ∧ IsB w' g t .u8 256 (front f p) ∧ Aft g w w' := by
  have c0 := hb.cell hp
  have HB := hideZ hb
  have HA := hideZ (Aft.refl g w)
  obtain ⟨x, hx⟩ : ∃ x, x = f p := ⟨_, rfl⟩
  have HX := hideZ hx
  rw [← hx] at c0
  clear hx hb
  go_enter Try.func110, Try.ntmps110
  go_wp2_with fail
  go_loopw [1] (fun i wr => ∃ k : Nat, i = .int .i64 k ∧ k ≤ p ∧ IsB wr g t .u8 256 (downF f p k) ∧ Aft g w wr) (fun i _ => (intOf i).toNat)
  case atStart => exact ⟨p, rfl, Nat.le_refl _, HB.out.congr (fun j _ => (down_start f p j).symm), HA.out⟩
  case round =>
    obtain ⟨k, rfl, hk, h1, ha⟩ := hrel
    have G1 := hideZ h1
    have GA := hideZ ha
    cases k with
    | zero =>
      have c1 := h1.cell (j := 0) (by omega)
      have f1 := h1.frozen 0
      have HF := hideZ (h1.set 0 x)
      clear h1 ha
      go_wp2_with fail
      refine bodyPost_end (v := .tuple #[]) (by simp [results, Try.results110, go_sem]) rfl ⟨rfl, HF.out.congr (fun j _ => ?_), GA.out.set 0 _⟩
      rw [HX.out]
      exact down_front f p j
    | succ k =>
      have c1 := h1.cell (j := k) (by omega)
      have c2 := h1.cell (j := k + 1) (by omega)
      have f1 := h1.frozen (k + 1)
      obtain ⟨y, hy⟩ : ∃ y, y = f k := ⟨_, rfl⟩
      rw [down_at, ← hy] at c1
      have HF : Hid (IsB (wr.setCell ⟨g, k + 1, none⟩ (.int .u8 y)) g t .u8 256 (downF f p k)) := by
        have := (h1.set (k + 1) y).congr (f' := downF f p k) (fun j _ => by rw [hy]; exact down_next f p k j hk)
        exact this
      have e1 : ((k + 1 : Nat) : Int) = (k : Int) + 1 := by omega
      have e2 : ((k : Int) + 1).toNat = k + 1 := by omega
      rw [e1]
      clear h1 ha hy e1
      go_wp2_with fail
      go_roundw
      case rel => exact ⟨k, by go_num, by omega, HF.out, GA.out.set (k + 1) _⟩
      case measure => simp [intOf]
end Go.Proofs.Ytmkpakhpjgocjaa.Fr

/- An append of so many zeros onto a row of numbers of the call's own. -/
namespace Go.Proofs.Ytmkpakhpjgocjaa.Ze
open Go.RowKit

theorem zeros_list (m : Nat) : (Builtin.zeroCells (Value.int .i64 0).cells m) = (List.replicate m (Value.int .i64 0)).toArray := by
  apply Array.ext'
  apply List.ext_getElem
  · simp [Builtin.zeroCells, Value.cells]
  · intro i h1 h2
    simp [Builtin.zeroCells, Value.cells, Nat.mod_one]
theorem one_zeros (m : Nat) : ∀ u ∈ List.replicate m (Value.int .i64 0), u.oneCell' = true := by
  intro u hu
  rw [(List.mem_replicate.1 hu).2]
  rfl

theorem run_append_zeros {P : Program} (w : World) (base : Nat) (t ti ty e : TypeId) (i : TypeInfo) (ht : P.underlying t = some (.slice e)) (hti : P.underlying ti = some (.int .i64)) (hi : P.info? e = some i) (hz : i.zero = some (.int .i64 0))
    (hsize : i.size = 1) (hby : i.bytes = 8)
    (v : Value) (n : Nat) (xs : List Value) (hown : w.ownsRow base e 1 v n xs) (m : Nat) (hs : n + m ≤ 1048576) (hbase : base ≤ w.heap.size) :
    ∃ v' w', (Builtin.append_ #[t, ti] ty #[v, .int .i64 m]).run P w = .ok v' w' ∧ w'.ownsRow base e 1 v' (n + m) (xs ++ List.replicate m (.int .i64 0)) ∧ w.grownBy w' v.ownBlock := by
  have hlen : (xs ++ List.replicate m (Value.int .i64 0)).length = (n + m) * 1 := by rw [List.length_append, hown.1, List.length_replicate]; omega
  have hwrap : IntKind.i64.wrap (m : Int) = m := by
    simp [IntKind.wrap, IntKind.bits, IntKind.signed]
    omega
  have hwrap0 : IntKind.i64.wrap 0 = 0 := by simp [IntKind.wrap, IntKind.bits, IntKind.signed]
  have h0 : ¬ ((m : Int) < 0) := by omega
  have h1 : ¬ ((m : Int) * ((8 : Nat) : Int) > 2 ^ 48) := by omega
  have grown : ∀ (old : Nat), old < n + m → ∀ (row : Option Nat),
      (w.drew.alloc (.cells (xs.toArray ++ (List.replicate m (Value.int .i64 0)).toArray ++ Builtin.zeroCells (Value.int .i64 0).cells (grownCap w (n + m) old e - (n + m))) e)).ownsRow base e 1
        (.slice (some ⟨w.heap.size, 0, none⟩) (n + m) (grownCap w (n + m) old e)) (n + m) (xs ++ List.replicate m (Value.int .i64 0)) ∧
      w.grownBy (w.drew.alloc (.cells (xs.toArray ++ (List.replicate m (Value.int .i64 0)).toArray ++ Builtin.zeroCells (Value.int .i64 0).cells (grownCap w (n + m) old e - (n + m))) e)) row := by
    intro old ho row
    have hge := grownCap_ge w (n + m) old e
    have hcm : grownCap w (n + m) old e ≤ maxLen := grownCap_le_maxLen w (n + m) old e (by unfold maxLen; omega)
    refine ⟨⟨hlen, .inr ⟨w.heap.size, _, _, rfl, hbase, heap_alloc_new w.drew _, hge, hcm, ?_, ?_⟩⟩, ⟨rfl, rfl, rfl, by simp, fun k hk _ => heap_alloc_old w.drew _ hk⟩⟩
    · have h2 := hown.1
      simp only [Array.size_append, List.size_toArray, size_zeroCells, List.length_replicate, Value.cells, List.size_toArray, List.length_cons, List.length_nil]
      omega
    · simp only [Array.toList_append, List.append_assoc]
      rw [← List.append_assoc, ← hlen]
      exact List.take_left
  have hnew : ∀ W : World, (if m * 1 = 0 then (pure #[] : Sem (Array Value)) else do pure (Builtin.zeroCells (← zeroValue e).cells m)).run P W = .ok (List.replicate m (Value.int .i64 0)).toArray W := by
    intro W
    by_cases hm : m = 0
    · subst hm
      simp
    · rw [if_neg (by omega)]
      simp [zeroValue, typeInfo, hi, hz, zeros_list]
  rcases hown.2 with ⟨rfl, rfl⟩ | ⟨g, cap, cur, rfl, hbg, hg, hnc, hcm, hcs, htake⟩
  · have hx : xs = [] := List.eq_nil_of_length_eq_zero (by simpa using hown.1)
    subst hx
    by_cases hm : m = 0
    · subst hm
      refine ⟨.slice none 0 0, w, ?_, World.ownsRow_nil w base e 1, ⟨rfl, rfl, rfl, Nat.le_refl _, fun _ _ _ => rfl⟩⟩
      simp [Builtin.append_, run_underlying ht, run_underlying hti, sizeOf, typeInfo, hi, hby, asInt, asIntOf, hwrap0]
    · have hgr := grown 0 (by omega) (Value.ownBlock (.slice none 0 0))
      simp only [Nat.zero_add, List.nil_append, Array.empty_append] at hgr ⊢
      refine ⟨_, _, ?_, hgr.1, hgr.2⟩
      have hnc : ¬ (281474976710656 < Builtin.nextslicecap m 0 * 8) := by rw [nextslicecap_zero (by omega)]; omega
      have h63' : ¬ (9223372036854775807 < (m : Int)) := by omega
      have hq : ¬ (281474976710656 < (m : Int) * 8) := by omega
      simp [Builtin.append_, run_underlying ht, run_underlying hti, sizeOf, typeInfo, zeroValue, hi, hz, hsize, hby, asInt, asIntOf, hwrap, h0, hq, hm, h63', hnc, Question.forced, run_firstCells_none, newRow, grownCap, zeros_list]
  · by_cases hroom : n + m ≤ cap
    · have hfit : n * 1 + (List.replicate m (Value.int .i64 0)).length ≤ cur.size := by rw [List.length_replicate, hcs]; omega
      have hst := run_storeCells_at P g (n * 1) e (List.replicate m (Value.int .i64 0)) 0 cur w hg (by simpa using hfit) (one_zeros m)
      simp only [Nat.add_zero] at hst
      have hq : ¬ (281474976710656 < (m : Int) * 8) := by omega
      refine ⟨.slice (some ⟨g, 0, none⟩) (n + m) cap, w.setRow g (cur.toList.take (n * 1) ++ List.replicate m (Value.int .i64 0) ++ cur.toList.drop (n * 1 + (List.replicate m (Value.int .i64 0)).length)).toArray, ?_, ⟨hlen, .inr ⟨g, cap, _, rfl, hbg, setRow_heap w g cur _ e _ hg, hroom, hcm, ?_, ?_⟩⟩, ⟨rfl, rfl, rfl, by simp, fun k _ hk => setRow_other w g k _ (fun e => hk (by simp [Value.ownBlock, e]))⟩⟩
      · by_cases hm : m = 0
        · subst hm
          simp at hst
          simp [Builtin.append_, run_underlying ht, run_underlying hti, sizeOf, typeInfo, zeroValue, hi, hsize, hby, asInt, asIntOf, hnc, Addr.add_lit, hwrap0, hst]
        · simp at hst
          simp [Builtin.append_, run_underlying ht, run_underlying hti, sizeOf, typeInfo, zeroValue, hi, hz, hsize, hby, asInt, asIntOf, hwrap, h0, hq, hm, hroom, Addr.add_lit, zeros_list, hst]
      · simp only [List.size_toArray, List.length_append, List.length_take, List.length_drop, Array.length_toList, List.length_replicate]
        omega
      · rw [htake, ← hlen]
        exact List.take_left
    · have holds : ∀ j u, xs[j]? = some u → w.cell? ((⟨g, 0, none⟩ : Addr).add j) = some u := hown.cells (g := g) rfl
      have hm : m ≠ 0 := by omega
      have hgr := grown cap (by omega) (Value.ownBlock (.slice (some ⟨g, 0, none⟩) n cap))
      refine ⟨_, _, ?_, hgr.1, hgr.2⟩
      have hfo := run_firstCells_some (P := P) w.drew 1 n ⟨g, 0, none⟩ n cap xs hown.1 (by simpa using holds)
      have hn : ¬ (n + m ≤ cap) := by omega
      have h63' : ¬ (9223372036854775807 < ((n : Int) + (m : Int))) := by omega
      have hfits : Builtin.nextslicecap (n + m) cap * 8 ≤ 281474976710656 := growslice_fits (by omega) (by omega)
      have h48' : ¬ (281474976710656 < Builtin.nextslicecap (n + m) cap * 8) := by omega
      have hq : ¬ (281474976710656 < (m : Int) * 8) := by omega
      simp [Builtin.append_, run_underlying ht, run_underlying hti, sizeOf, typeInfo, zeroValue, hi, hz, hsize, hby, asInt, asIntOf, hwrap, h0, hq, hm, hn, h63', h48', Question.forced, hfo, newRow, grownCap, zeros_list]

theorem wpList_append_zeros {P : Program} (w : World) {ops : Array Oper} {rest : List Oper} {o : Oper} {a : Act} {Q : Exit → Act → World → Prop} (hgd : o.guard = none) (s x : Operand) (t ti : TypeId)
    (ho : o.op = .call { callee := .builtin .append, args := #[s, x], argTypes := #[t, ti] })
    (base : Nat) (e : TypeId) (i : TypeInfo) (ht : P.underlying t = some (.slice e)) (hti : P.underlying ti = some (.int .i64)) (hi : P.info? e = some i) (hz : i.zero = some (.int .i64 0)) (hsize : i.size = 1) (hby : i.bytes = 8)
    (v : Value) (n : Nat) (xs : List Value) (hv : a.eval s = v) (hown : w.ownsRow base e 1 v n xs) (m : Nat) (hx : a.eval x = .int .i64 m) (hs : n + m ≤ 1048576) (hbase : base ≤ w.heap.size)
    (h : ∀ v' w', w'.ownsRow base e 1 v' (n + m) (xs ++ List.replicate m (.int .i64 0)) → w.grownBy w' v.ownBlock → wpList P ops Q rest (a.put o.dst v') w') : wpList P ops Q (o :: rest) a w :=
  wpList_plain hgd fun _ hK => by
    obtain ⟨v', w', hr, h2, h3⟩ := run_append_zeros (P := P) w base t ti o.type e i ht hti hi hz hsize hby v n xs hown m hs hbase
    unfold Oper.wp execOp
    simp only [ho, resolve, invoke, builtin, Sem.run_bind, Sem.run_pure, Result.andThen_ok, List.map_toArray, List.map_cons, List.map_nil, hv, hx, hr]
    exact hK _ _ (h v' w' h2 h3)
end Go.Proofs.Ytmkpakhpjgocjaa.Ze
