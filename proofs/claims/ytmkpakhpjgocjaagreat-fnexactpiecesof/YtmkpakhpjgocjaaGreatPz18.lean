/- Texts put together: OrdImpl, FrontRow, FrontSpec, FrontB. -/
import Derived.Test.YtmkpakhpjgocjaaGreatPz11
import Derived.Test.YtmkpakhpjgocjaaGreatPz16
import Derived.Test.YtmkpakhpjgocjaaGreatPz17
import Derived.Test.YtmkpakhpjgocjaaGreatShaLaws
import Derived.Test.YtmkpakhpjgocjaaGreatStrO
import Derived.Test.YtmkpakhpjgocjaaGreatChecked
import Derived.WalkSpells
import Derived.WalkLawsBesides
import Derived.BigRegion
import Derived.BigQuiet
import Derived.Deep.QuietTactic
import Derived.Laws.CopyOwn
import Derived.Test.YtmkpakhpjgocjaaGreatShaBytes
/- What the program's OrderOf answers. -/
namespace Go.Proofs.YtmkpakhpjgocjaaGreat.So
open Go.RowKit Go.Sort Go.Proofs
open Go.Proofs.YtmkpakhpjgocjaaGreat.In (OwnI one_newI one_cellI)
open Go.Proofs.YtmkpakhpjgocjaaGreat.In.Tryz (infoI2)

/-- a row of numbers does not lie in a row of turns -/
theorem own_not {w : World} {base g : Nat} {v : Value} {l : List Int} {cur : Array Value} {t : TypeId} (h : OwnI w base v l) (hg : w.heap[g]? = some (.cells cur t (0, 0))) (ht : t ≠ 2) : ∀ k, v.ownBlock = some k → k ≠ g := by
  intro k hk e
  subst e
  obtain ⟨_, h⟩ := h
  rcases h with ⟨rfl, _⟩ | ⟨g', cap, c, rfl, _, hb, _⟩
  · simp [Value.ownBlock] at hk
  · simp [Value.ownBlock] at hk
    subst hk
    rw [hb] at hg
    simp at hg
    exact ht hg.2.symm

end Go.Proofs.YtmkpakhpjgocjaaGreat.So

/- The row of all bytes in memory: how the program makes it, and brings a byte to its front. -/
namespace Go.Proofs.YtmkpakhpjgocjaaGreat.Fr
open Go.RowKit
open Go.Proofs.YtmkpakhpjgocjaaGreat.Sh (IsB rowF upd rowF_size rowF_get rowF_one rowF_congr results_row below_row row_size upd_same upd_other)
open Go.Proofs.YtmkpakhpjgocjaaGreat.Ze (hideZ)
open Go.Proofs.YtmkpakhpjgocjaaGreat.St (Aft)

theorem Tryz.zeroA65 : (Tryz.prog.info? 65).bind (·.zero) = some (.agg (rowF .u8 256 fun _ => 0)) := by kernel_rfl
theorem Tryz.sizeA65 : (Tryz.prog.info? 65).map (·.size) = some 256 := by kernel_rfl

theorem Tryz.sizeB5 : (Tryz.prog.info? 5).map (·.size) = some 1 := by kernel_rfl

/-- a variable that holds a row of zeros -/
theorem wpList_alloc_row {P : Program} {w : World} {ops : Array Oper} {rest : List Oper} {a : Act} {Q : Exit → Act → World → Prop} {d : Tmp} {ty tt : TypeId} {pos : String} {af : Array Edge}
    {k : IntKind} {n : Nat} (hz : (P.info? ty).bind (·.zero) = some (.agg (rowF k n fun _ => 0)))
    (h : ∀ w', IsB w' w.heap.size ty k n (fun _ => 0) → (∀ B, B ≤ w.heap.size → Below B w w') → w'.heap.size = w.heap.size + 1 → (∀ j, j < w.heap.size → w'.heap[j]? = w.heap[j]?) → wpList P ops Q rest (a.put (some d) (.pointer (some ⟨w.heap.size, 0, none⟩))) w') :
    wpList P ops Q (⟨some d, .alloc ty, tt, pos, af, none⟩ :: rest) a w := by
  refine wpList_plain rfl fun K hK => ?_
  obtain ⟨i, hi, hzi⟩ : ∃ i, P.info? ty = some i ∧ i.zero = some (.agg (rowF k n fun _ => 0)) := by
    cases hi : P.info? ty with
    | none => rw [hi] at hz; cases hz
    | some i => exact ⟨i, rfl, by rw [hi] at hz; exact hz⟩
  have hl : (Instr.alloc ty true (.tuple #[])).run P w = .ok (.pointer (some ⟨w.heap.size, 0, none⟩)) (w.alloc (.cells (rowF k n fun _ => 0) ty)) := by
    simp [Instr.alloc, zeroValue, typeInfo, hi, hzi, newVar, newRow, Value.cells]
  unfold Oper.wp
  simp [execOp, hl, Result.andThen]
  exact hK _ _ (h _ (IsB.new w ty k n _) (fun B hB => (Below.refl B w).alloc hB _) (by simp) (fun j hj => Below.heap_alloc w _ j hj))

/-- a row's first bytes, one place up -/
def copyF (f : Nat → Int) (p : Nat) : Nat → Int := fun j => if j = 0 then f 0 else if j ≤ p then f (j - 1) else f j
theorem copy_front (f : Nat → Int) (p j : Nat) : upd (copyF f p) 0 (f p) j = front f p j := by
  unfold upd copyF front
  by_cases h : j = 0
  · rw [if_pos h, if_pos h]
  · rw [if_neg h, if_neg h, if_neg h]
theorem copyF_zero (f : Nat → Int) (j : Nat) : copyF f 0 j = f j := by
  unfold copyF
  by_cases h : j = 0
  · rw [if_pos h, h]
  · rw [if_neg h, if_neg (by omega)]
theorem copy_row (f : Nat → Int) (p : Nat) (hp : p < 256) :
    ((rowF .u8 256 f).toList.take 1 ++ (List.range p).map (fun j => Value.int .u8 (f j)) ++ (rowF .u8 256 f).toList.drop (1 + ((List.range p).map (fun j => Value.int .u8 (f j))).length)).toArray = rowF .u8 256 (copyF f p) := by
  rw [List.append_assoc]
  apply Array.ext'
  apply List.ext_getElem?
  intro j
  simp only [rowF, List.length_map, List.length_range]
  by_cases h0 : j = 0
  · subst h0
    rw [List.getElem?_append_left (by simp)]
    simp [copyF]
  · rw [List.getElem?_append_right (by simp; omega)]
    simp only [List.length_take, List.length_map, List.length_range]
    rw [show j - min 1 256 = j - 1 by omega]
    by_cases h1 : j ≤ p
    · rw [List.getElem?_append_left (by simp; omega)]
      have : j < 256 := by omega
      have h2 : j - 1 < p := by omega
      simp [copyF, h0, h1, h2, this]
    · rw [List.getElem?_append_right (by simp; omega), List.getElem?_drop]
      simp only [List.length_map, List.length_range]
      rw [show 1 + p + (j - 1 - p) = j by omega]
      by_cases h2 : j < 256
      · simp [copyF, h0, h1, h2]
      · simp [h2]

/-- copy within one row of bytes, one place up -/
theorem run_copy_up {P : Program} (w : World) (dT sT ty elem : TypeId) (hu : P.underlying dT = some (.slice elem)) (hsz : (P.info? elem).map (·.size) = some 1)
    (g p dCap sCap : Nat) (t : TypeId) (f : Nat → Int) (hp : p < 256) (hb : IsB w g t .u8 256 f) :
    ∃ w', (Builtin.copy_ #[dT, sT] ty #[.slice (some ⟨g, 1, none⟩) 255 dCap, .slice (some ⟨g, 0, none⟩) p sCap]).run P w = .ok (goInt p) w' ∧ IsB w' g t .u8 256 (copyF f p) ∧ Aft g w w' := by
  have hrun := run_copy_row (P := P) w dT sT ty elem g 1 255 dCap ⟨g, 0, none⟩ p sCap (rowF .u8 256 f) t ((List.range p).map (fun j => Value.int .u8 (f j))) hu hsz hb (by simp [Nat.min_def]; omega)
    (fun j v hv => by
      have hadd : (⟨g, 0, none⟩ : Addr).add j = ⟨g, j, none⟩ := by unfold Addr.add; split <;> simp_all
      rw [hadd]
      rw [List.getElem?_map] at hv
      by_cases hj : j < p
      · rw [List.getElem?_range hj] at hv
        rw [hb.cell (by omega)]
        exact hv
      · rw [List.getElem?_eq_none (by simpa using hj)] at hv
        cases hv)
    (by rw [rowF_size]; simp; omega) (fun v hv => by
      obtain ⟨j, _, rfl⟩ := List.mem_map.1 hv
      rfl)
  rw [copy_row f p hp, List.length_map, List.length_range] at hrun
  exact ⟨_, hrun, hb.row _, rfl, rfl, rfl, by simp [World.setRow], fun k hk hg => setRow_other w g k _ hg⟩

theorem aft_setCell {g i : Nat} {w w' : World} (h : Aft g w w') (v : Value) : Aft g w (w'.setCell ⟨g, i, none⟩ v) := h.set i v
theorem aft_trans {g : Nat} {w w1 w2 : World} (h : Aft g w w1) (h2 : Aft g w1 w2) : Aft g w w2 :=
  ⟨h2.1.trans h.1, h2.2.1.trans h.2.1, h2.2.2.1.trans h.2.2.1, Nat.le_trans h.2.2.2.1 h2.2.2.2.1, fun k hk hg => (h2.2.2.2.2 k (Nat.lt_of_lt_of_le hk h.2.2.2.1) hg).trans (h.2.2.2.2 k hk hg)⟩

set_option maxRecDepth 100000 in
set_option maxHeartbeats 1000000 in
theorem bring_impl (g p : Nat) (t : TypeId) (f : Nat → Int) (w : World) (hb : IsB w g t .u8 256 f) (hp : p < 256) :
    Calls Tryz.prog 53 #[.pointer (some ⟨g, 0, none⟩), .int .i64 p] w fun e w' => e = .returned (.tuple #[]) ∧ IsB w' g t .u8 256 (front f p) ∧ Aft g w w' := by
  have c0 := hb.cell hp
  have HB := hideZ hb
  have HA := hideZ (Aft.refl g w)
  obtain ⟨x, hx⟩ : ∃ x, x = f p := ⟨_, rfl⟩
  have HX := hideZ hx
  rw [← hx] at c0
  clear hx hb
  go_enter Tryz.func53, Tryz.ntmps53
  go_wp2_with fail
  have hp1 : (p : Int) ≤ 256 := by omega
  have hp2 : ¬ (p : Int) < 0 := by omega
  have hp3 : ¬ (256 : Int) < (p : Int) := by omega
  obtain ⟨W4, hcp, hb4, ha4⟩ := run_copy_up (P := Tryz.prog) w.drew 33 33 3 5 Tryz.underlying33 Tryz.sizeB5 g p 255 256 t f hp (HB.out.of_heap rfl)
  have HB4 := hideZ hb4
  have HA4 : Hid (Aft g w W4) := ⟨ha4.1, ha4.2.1, ha4.2.2.1, ha4.2.2.2.1, ha4.2.2.2.2⟩
  clear hb4 ha4
  have c1 := HB4.out.cell (j := 0) (by omega)
  have f1 := HB4.out.frozen 0
  have HF := hideZ (HB4.out.set 0 x)
  go_region
  go_wp2_with fail
  refine bodyPost_end (v := .tuple #[]) (by simp [results, Tryz.results53, go_sem]) rfl ⟨rfl, HF.out.congr (fun j _ => ?_), HA4.out.set 0 _⟩
  rw [HX.out]
  exact copy_front f p j

def rise (k : Nat) : Nat → Int := fun j => if j < k then (j : Int) else 0
theorem rise_next (k j : Nat) : upd (rise k) k (k : Int) j = rise (k + 1) j := by
  unfold upd rise
  by_cases e : j = k
  · subst e; rw [if_pos rfl, if_pos (by omega)]
  · rw [if_neg e]
    by_cases h : j < k
    · rw [if_pos h, if_pos (by omega)]
    · rw [if_neg h, if_neg (by omega)]
theorem rise_all (j : Nat) (h : j < 256) : rise 256 j = row0 j := if_pos h

set_option maxRecDepth 100000 in
set_option maxHeartbeats 1000000 in
theorem rising_impl (w : World) :
    Calls Tryz.prog 52 #[] w fun e w' => e = .returned (.agg (rowF .u8 256 row0)) ∧ Below w.heap.size w w' := by
  go_enter Tryz.func52, Tryz.ntmps52
  go_wp2_with ((with_reducible refine wpList_alloc_row Tryz.zeroA65 ?_); intro w1 hb1 hbel1 hs1 ho1)
  rename_i w0 hb0 hbel0 hs0 ho0 K0 a0
  have HB1 := hideZ hb1
  have HB0 := hideZ (hb0.of_heap (ho1 w.heap.size (by omega)))
  have HBel := hideZ ((hbel0 w.heap.size (Nat.le_refl _)).trans (hbel1 w.heap.size (by omega)))
  rw [hs0] at HB1 hs1
  clear hb1 hbel1 ho1 hb0 hbel0 ho0
  go_loopw [3] (fun i wr => ∃ k : Nat, i = .int .i64 k ∧ k ≤ 256 ∧ IsB wr (w.heap.size + 1) 65 .u8 256 (rise k) ∧ IsB wr w.heap.size 65 .u8 256 (fun _ => 0) ∧ Below w.heap.size w wr) (fun i _ => 256 - (intOf i).toNat)
  case atStart => exact ⟨0, rfl, by omega, HB1.out.congr (fun j _ => by unfold rise; rw [if_neg (by omega)]), HB0.out, HBel.out⟩
  case round =>
    obtain ⟨k, rfl, hk, h1, h0, hbel⟩ := hrel
    have G1 := hideZ h1
    have G0 := hideZ h0
    have GB := hideZ hbel
    by_cases hlt : k < 256
    · have ck := h1.cell (j := k) hlt
      have fk := h1.frozen k
      have hwr : ((k : Int)) % 256 = (k : Int) := by omega
      have HN := hideZ (h1.set k (k : Int))
      clear h1 h0 hbel
      go_wp2_with fail
      go_roundw
      case rel => exact ⟨k + 1, by go_num, by omega, HN.out.congr (fun j _ => rise_next k j), G0.out.set_other _ _ (by simp), GB.out.setCell (by simp) _⟩
      case measure => simp [intOf]; omega
    · obtain rfl : k = 256 := by omega
      have G2 := hideZ (h1.congr (fun j hj => rise_all j hj))
      clear h1 h0 hbel
      go_wp2_with (first | ((with_reducible refine Sh.wpList_load_row G2.out Tryz.underlying65 Tryz.sizeA65 ?_ ?_); (· rfl)) | ((with_reducible refine Sh.wpList_store_row G0.out Tryz.sizeA65 row0 ?_ ?_ ?_); (· rfl); (· rfl)))
      exact bodyPost_ret (v := .agg (rowF .u8 256 row0)) (results_row rfl _ rfl (G0.out.row _) Tryz.underlying65 Tryz.sizeA65) rfl ⟨rfl, below_row GB.out (Nat.le_refl _) _⟩
end Go.Proofs.YtmkpakhpjgocjaaGreat.Fr

/- The row of all bytes in memory: how the specification makes it, and brings a byte to its front. -/
namespace Go.Proofs.YtmkpakhpjgocjaaGreat.Fr
open Go.RowKit
open Go.Proofs.YtmkpakhpjgocjaaGreat.Sh (IsB rowF upd made_row upd_same upd_other)
open Go.Proofs.YtmkpakhpjgocjaaGreat.Ze (hideZ)
open Go.Proofs.YtmkpakhpjgocjaaGreat.St (Aft)

set_option maxRecDepth 100000 in
set_option maxHeartbeats 1000000 in
theorem row_spec (w : World) :
    Calls Tryz.prog 65 #[] w fun e w' => e = .returned (.slice (some ⟨w.heap.size, 0, none⟩) 256 256) ∧ IsB w' w.heap.size 5 .u8 256 row0 ∧ Below w.heap.size w w' := by
  obtain ⟨i0, hi, hz0, hz1, hz2⟩ := info_parts Nu.Tryz.infoJ5
  go_enter Tryz.func65, Tryz.ntmps65
  go_wp2_with (at_make; refine wpList_make_full _ rfl (.const (.int .i64 256)) (.const (.int .i64 256)) 33 rfl w.heap.size 5 i0 (.int .u8 0) 1 Tryz.underlying33 hi hz0 hz1 .i64 .i64 _ _ 256 rfl rfl (by simp) (by simp) (by rw [hz2]; omega) (by unfold maxLen; omega) (Nat.le_refl _) ?_; intro w1 hown1 hgrow1; have HR := hideZ (made_row hown1); have HB := hideZ ((Below.refl w.heap.size w).grown hgrow1 (Nat.le_refl _) (by simp)); clear hown1 hgrow1)
  go_loopw [2] (fun i wr => ∃ k : Nat, i = .int .i64 k ∧ k ≤ 256 ∧ IsB wr w.heap.size 5 .u8 256 (rise k) ∧ Below w.heap.size w wr) (fun i _ => 256 - (intOf i).toNat)
  case atStart => exact ⟨0, rfl, by omega, HR.out.congr (fun j _ => by unfold rise; rw [if_neg (by omega)]), HB.out⟩
  case round =>
    obtain ⟨k, rfl, hk, h1, hbel⟩ := hrel
    have G1 := hideZ h1
    have GB := hideZ hbel
    by_cases hlt : k < 256
    · have ck := h1.cell (j := k) hlt
      have fk := h1.frozen k
      have hwr : ((k : Int)) % 256 = (k : Int) := by omega
      have HN := hideZ (h1.set k (k : Int))
      clear h1 hbel
      go_wp2_with fail
      go_roundw
      case rel => exact ⟨k + 1, by go_num, by omega, HN.out.congr (fun j _ => rise_next k j), GB.out.setCell (by simp) _⟩
      case measure => simp [intOf]; omega
    · obtain rfl : k = 256 := by omega
      have G2 := hideZ (h1.congr (fun j hj => rise_all j hj))
      clear h1 hbel
      go_wp2_with fail
      go_ret
      exact ⟨rfl, G2.out, GB.out⟩

/-- the bytes from a place on, one place up -/
def downF (f : Nat → Int) (p k : Nat) : Nat → Int := fun j => if k < j ∧ j ≤ p then f (j - 1) else f j
theorem down_start (f : Nat → Int) (p j : Nat) : downF f p p j = f j := by
  unfold downF
  rw [if_neg (by omega)]
theorem down_next (f : Nat → Int) (p k j : Nat) (h : k + 1 ≤ p) : upd (downF f p (k + 1)) (k + 1) (f k) j = downF f p k j := by
  unfold upd downF
  by_cases e : j = k + 1
  · subst e
    rw [if_pos rfl, if_pos (by omega)]
    rfl
  · rw [if_neg e]
    by_cases h2 : k + 1 < j ∧ j ≤ p
    · rw [if_pos h2, if_pos (by omega)]
    · rw [if_neg h2, if_neg (by omega)]
theorem down_at (f : Nat → Int) (p k : Nat) : downF f p (k + 1) k = f k := by
  unfold downF
  rw [if_neg (by omega)]
theorem down_front (f : Nat → Int) (p j : Nat) : upd (downF f p 0) 0 (f p) j = front f p j := by
  unfold upd downF front
  by_cases h : j = 0
  · rw [if_pos h, if_pos h]
  · rw [if_neg h, if_neg h]
    by_cases h2 : j ≤ p
    · rw [if_pos (by omega), if_pos h2]
    · rw [if_neg (by omega), if_neg h2]

set_option maxRecDepth 100000 in
set_option maxHeartbeats 1000000 in
theorem front_spec (g p c : Nat) (t : TypeId) (f : Nat → Int) (w : World) (hb : IsB w g t .u8 256 f) (hp : p < 256) :
    Calls Tryz.prog 66 #[.slice (some ⟨g, 0, none⟩) 256 c, .int .i64 p] w fun e w' => e = .returned (.tuple #[]) ∧ IsB w' g t .u8 256 (front f p) ∧ Aft g w w' := by
  have c0 := hb.cell hp
  have HB := hideZ hb
  have HA := hideZ (Aft.refl g w)
  obtain ⟨x, hx⟩ : ∃ x, x = f p := ⟨_, rfl⟩
  have HX := hideZ hx
  rw [← hx] at c0
  clear hx hb
  go_enter Tryz.func66, Tryz.ntmps66
  go_wp2_with fail
  go_loopw [1] (fun i wr => ∃ k : Nat, i = .int .i64 k ∧ k ≤ p ∧ IsB wr g t .u8 256 (downF f p k) ∧ Aft g w wr) (fun i _ => (intOf i).toNat)
  case atStart => exact ⟨p, rfl, Nat.le_refl _, HB.out.congr (fun j _ => (down_start f p j).symm), HA.out⟩
  case round =>
    obtain ⟨k, rfl, hk, h1, ha⟩ := hrel
    have G1 := hideZ h1
    have GA := hideZ ha
    cases k with
    | zero =>
      have c1 := h1.cell (j := 0) (by omega)
      have f1 := h1.frozen 0
      have HF := hideZ (h1.set 0 x)
      clear h1 ha
      go_wp2_with fail
      refine bodyPost_end (v := .tuple #[]) (by simp [results, Tryz.results66, go_sem]) rfl ⟨rfl, HF.out.congr (fun j _ => ?_), GA.out.set 0 _⟩
      rw [HX.out]
      exact down_front f p j
    | succ k =>
      have c1 := h1.cell (j := k) (by omega)
      have c2 := h1.cell (j := k + 1) (by omega)
      have f1 := h1.frozen (k + 1)
      obtain ⟨y, hy⟩ : ∃ y, y = f k := ⟨_, rfl⟩
      rw [down_at, ← hy] at c1
      have HF : Hid (IsB (wr.setCell ⟨g, k + 1, none⟩ (.int .u8 y)) g t .u8 256 (downF f p k)) := by
        have := (h1.set (k + 1) y).congr (f' := downF f p k) (fun j _ => by rw [hy]; exact down_next f p k j hk)
        exact this
      have e1 : ((k + 1 : Nat) : Int) = (k : Int) + 1 := by omega
      have e2 : ((k : Int) + 1).toNat = k + 1 := by omega
      rw [e1]
      clear h1 ha hy e1
      go_wp2_with fail
      go_roundw
      case rel => exact ⟨k, by go_num, by omega, HF.out, GA.out.set (k + 1) _⟩
      case measure => simp [intOf]
end Go.Proofs.YtmkpakhpjgocjaaGreat.Fr

/- What both FrontBack answer. -/
namespace Go.Proofs.YtmkpakhpjgocjaaGreat.Fr
open Go.RowKit
open Go.Proofs.YtmkpakhpjgocjaaGreat.Sh (IsB rowF upd made_row upd_same upd_other strF)
open Go.Proofs.YtmkpakhpjgocjaaGreat.Ze (hideZ numsR upTo upTo_yes numsR_of numsR_long numsR_yes nums_spec)
open Go.Proofs.YtmkpakhpjgocjaaGreat.Bi (upTo_impl)
open Go.Proofs.YtmkpakhpjgocjaaGreat.St (Aft)
open Go.Proofs.YtmkpakhpjgocjaaGreat.In (Ints)
open Go.Proofs.YtmkpakhpjgocjaaGreat.Nu (ret_strJ bv own_string app_below)

/-- the bytes so far, zeros behind them -/
def fillB (b : List UInt8) : Nat → Nat := fun j => (b.getD j 0).toNat
theorem fillB_lt (b : List UInt8) (j : Nat) : fillB b j < 256 := UInt8.toNat_lt _
theorem fillB_next (b : List UInt8) (k : Nat) (x : Int) (hk : b.length = k) (h0 : 0 ≤ x) (h1 : x < 256) (j : Nat) :
    upd (fun j => ((fillB b j : Nat) : Int)) k x j = ((fillB (b ++ [UInt8.ofNat x.toNat]) j : Nat) : Int) := by
  unfold upd fillB
  subst hk
  by_cases e : j = b.length
  · subst e
    rw [if_pos rfl, List.getD_eq_getElem?_getD, List.getElem?_append_right (Nat.le_refl _)]
    simp
    omega
  · rw [if_neg e]
    simp only [List.getD_eq_getElem?_getD]
    by_cases h : j < b.length
    · rw [List.getElem?_append_left h]
    · rw [List.getElem?_eq_none (by omega), List.getElem?_eq_none (by simp; omega)]
theorem fillB_all (b : List UInt8) : strF b.length (fillB b) = ⟨b.toArray⟩ := by
  unfold strF
  congr 1
  congr 1
  apply List.ext_getElem
  · simp
  · intro i h1 h2
    have h3 : i < b.length := by simpa using h1
    simp [fillB, List.getD_eq_getElem?_getD, List.getElem?_eq_getElem h3]

end Go.Proofs.YtmkpakhpjgocjaaGreat.Fr
