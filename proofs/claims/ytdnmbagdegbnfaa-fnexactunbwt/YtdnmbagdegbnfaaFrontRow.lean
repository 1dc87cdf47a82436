/- The row of all bytes in memory: how the program makes it, and brings a byte to its front. -/
import Derived.Test.YtdnmbagdegbnfaaFrontPlain
import Derived.Test.YtdnmbagdegbnfaaShaLaws
import Derived.Test.YtdnmbagdegbnfaaStrO
import Derived.Test.YtdnmbagdegbnfaaChecked
import Derived.WalkSpells
import Derived.WalkLawsBesides
import Derived.BigRegion
import Derived.BigQuiet
import Derived.Deep.QuietTactic
import Derived.Laws.CopyOwn
namespace Go.Proofs.Ytdnmbagdegbnfaa.Fr
open Go.RowKit
open Go.Proofs.Ytdnmbagdegbnfaa.Sh (IsB rowF upd rowF_size rowF_get rowF_one rowF_congr results_row below_row row_size upd_same upd_other)
open Go.Proofs.Ytdnmbagdegbnfaa.Ze (hideZ)
open Go.Proofs.Ytdnmbagdegbnfaa.St (Aft)

theorem Try.zeroA93 : (Try.prog.info? 93).bind (·.zero) = some (.agg (rowF .u8 256 fun _ => 0)) := by kernel_rfl
theorem Try.sizeA93 : (Try.prog.info? 93).map (·.size) = some 256 := by kernel_rfl

theorem Try.sizeB5 : (Try.prog.info? 5).map (·.size) = some 1 := by kernel_rfl

/-- a variable that holds a row of zeros -/
theorem wpList_alloc_row {P : Program} {w : World} {ops : Array Oper} {rest : List Oper} {a : Act} {Q : Exit → Act → World → Prop} {d : Tmp} {ty tt : TypeId} {pos : String} {af : Array Edge}
    {k : IntKind} {n : Nat} (hz : (P.info? ty).bind (·.zero) = some (.agg (rowF k n fun _ => 0)))
    (h : ∀ w', IsB w' w.heap.size ty k n (fun _ => 0) → (∀ B, B ≤ w.heap.size → Below B w w') → w'.heap.size = w.heap.size + 1 → (∀ j, j < w.heap.size → w'.heap[j]? = w.heap[j]?) → wpList P ops Q rest (a.put (some d) (.pointer (some ⟨w.heap.size, 0, none⟩))) w') :
    wpList P ops Q (⟨some d, .alloc ty, tt, pos, af, none⟩ :: rest) a w := by
  refine wpList_plain rfl fun K hK => ?_
  obtain ⟨i, hi, hzi⟩ : ∃ i, P.info? ty = some i ∧ i.zero = some (.agg (rowF k n fun _ => 0)) := by
    cases hi : P.info? ty with
    | none => rw [hi] at hz; cases hz
    | some i => exact ⟨i, rfl, by rw [hi] at hz; exact hz⟩
  have hl : (Instr.alloc ty true (.tuple #[])).run P w = .ok (.pointer (some ⟨w.heap.size, 0, none⟩)) (w.alloc (.cells (rowF k n fun _ => 0) ty)) := by
    simp [Instr.alloc, zeroValue, typeInfo, hi, hzi, newVar, newRow, Value.cells]
  unfold Oper.wp
  simp [execOp, hl, Result.andThen]
  exact hK _ _ (h _ (IsB.new w ty k n _) (fun B hB => (Below.refl B w).alloc hB _) (by simp) (fun j hj => Below.heap_alloc w _ j hj))

/-- a row's first bytes, one place up -/
def copyF (f : Nat → Int) (p : Nat) : Nat → Int := fun j => if j = 0 then f 0 else if j ≤ p then f (j - 1) else f j
theorem copy_front (f : Nat → Int) (p j : Nat) : upd (copyF f p) 0 (f p) j = front f p j := by
  unfold upd copyF front
  by_cases h : j = 0
  · rw [if_pos h, if_pos h]
  · rw [if_neg h, if_neg h, if_neg h]
theorem copyF_zero (f : Nat → Int) (j : Nat) : copyF f 0 j = f j := by
  unfold copyF
  by_cases h : j = 0
  · rw [if_pos h, h]
  · rw [if_neg h, if_neg (by omega)]
theorem copy_row (f : Nat → Int) (p : Nat) (hp : p < 256) :
    ((rowF .u8 256 f).toList.take 1 ++ (List.range p).map (fun j => Value.int .u8 (f j)) ++ (rowF .u8 256 f).toList.drop (1 + ((List.range p).map (fun j => Value.int .u8 (f j))).length)).toArray = rowF .u8 256 (copyF f p) := by
  rw [List.append_assoc]
  apply Array.ext'
  apply List.ext_getElem?
  intro j
  simp only [rowF, List.length_map, List.length_range]
  by_cases h0 : j = 0
  · subst h0
    rw [List.getElem?_append_left (by simp)]
    simp [copyF]
  · rw [List.getElem?_append_right (by simp; omega)]
    simp only [List.length_take, List.length_map, List.length_range]
    rw [show j - min 1 256 = j - 1 by omega]
    by_cases h1 : j ≤ p
    · rw [List.getElem?_append_left (by simp; omega)]
      have : j < 256 := by omega
      have h2 : j - 1 < p := by omega
      simp [copyF, h0, h1, h2, this]
    · rw [List.getElem?_append_right (by simp; omega), List.getElem?_drop]
      simp only [List.length_map, List.length_range]
      rw [show 1 + p + (j - 1 - p) = j by omega]
      by_cases h2 : j < 256
      · simp [copyF, h0, h1, h2]
      · simp [h2]

/-- copy within one row of bytes, one place up -/
theorem run_copy_up {P : Program} (w : World) (dT sT ty elem : TypeId) (hu : P.underlying dT = some (.slice elem)) (hsz : (P.info? elem).map (·.size) = some 1)
    (g p dCap sCap : Nat) (t : TypeId) (f : Nat → Int) (hp : p < 256) (hb : IsB w g t .u8 256 f) :
    ∃ w', (Builtin.copy_ #[dT, sT] ty #[.slice (some ⟨g, 1, none⟩) 255 dCap, .slice (some ⟨g, 0, none⟩) p sCap]).run P w = .ok (goInt p) w' ∧ IsB w' g t .u8 256 (copyF f p) ∧ Aft g w w' := by
  have hrun := run_copy_row (P := P) w dT sT ty elem g 1 255 dCap ⟨g, 0, none⟩ p sCap (rowF .u8 256 f) t ((List.range p).map (fun j => Value.int .u8 (f j))) hu hsz hb (by simp [Nat.min_def]; omega)
    (fun j v hv => by
      have hadd : (⟨g, 0, none⟩ : Addr).add j = ⟨g, j, none⟩ := by unfold Addr.add; split <;> simp_all
      rw [hadd]
      rw [List.getElem?_map] at hv
      by_cases hj : j < p
      · rw [List.getElem?_range hj] at hv
        rw [hb.cell (by omega)]
        exact hv
      · rw [List.getElem?_eq_none (by simpa using hj)] at hv
        cases hv)
    (by rw [rowF_size]; simp; omega) (fun v hv => by
      obtain ⟨j, _, rfl⟩ := List.mem_map.1 hv
      rfl)
  rw [copy_row f p hp, List.length_map, List.length_range] at hrun
  exact ⟨_, hrun, hb.row _, rfl, rfl, rfl, by simp [World.setRow], fun k hk hg => setRow_other w g k _ hg⟩

theorem aft_setCell {g i : Nat} {w w' : World} (h : Aft g w w') (v : Value) : Aft g w (w'.setCell ⟨g, i, none⟩ v) := h.set i v
theorem aft_trans {g : Nat} {w w1 w2 : World} (h : Aft g w w1) (h2 : Aft g w1 w2) : Aft g w w2 :=
  ⟨h2.1.trans h.1, h2.2.1.trans h.2.1, h2.2.2.1.trans h.2.2.1, Nat.le_trans h.2.2.2.1 h2.2.2.2.1, fun k hk hg => (h2.2.2.2.2 k (Nat.lt_of_lt_of_le hk h.2.2.2.1) hg).trans (h.2.2.2.2 k hk hg)⟩

set_option maxRecDepth 100000 in
set_option maxHeartbeats 1000000 in
theorem bring_impl (g p : Nat) (t : TypeId) (f : Nat → Int) (w : World) (hb : IsB w g t .u8 256 f) (hp : p < 256) :
    Calls Try.prog 113 #[.pointer (some ⟨g, 0, none⟩), .int .i64 p] w fun e w' => e = .returned (.tuple #[]) ∧ IsB w' g t .u8 256 (front f p) ∧ Aft g w w' := by
  have c0 := hb.cell hp
  have HB := hideZ hb
  have HA := hideZ (Aft.refl g w)
  obtain ⟨x, hx⟩ : ∃ x, x = f p := ⟨_, rfl⟩
  have HX := hideZ hx
  rw [← hx] at c0
  clear hx hb
  go_enter Try.func113, Try.ntmps113
  go_wp2_with fail
  have hp1 : (p : Int) ≤ 256 := by omega
  have hp2 : ¬ (p : Int) < 0 := by omega
  have hp3 : ¬ (256 : Int) < (p : Int) := by omega
  obtain ⟨W4, hcp, hb4, ha4⟩ := run_copy_up (P := Try.prog) w.drew 22 22 3 5 Try.underlying22 Try.sizeB5 g p 255 256 t f hp (HB.out.of_heap rfl)
  have HB4 := hideZ hb4
  have HA4 : Hid (Aft g w W4) := ⟨ha4.1, ha4.2.1, ha4.2.2.1, ha4.2.2.2.1, ha4.2.2.2.2⟩
  clear hb4 ha4
  have c1 := HB4.out.cell (j := 0) (by omega)
  have f1 := HB4.out.frozen 0
  have HF := hideZ (HB4.out.set 0 x)
  go_region
  go_wp2_with fail
  refine bodyPost_end (v := .tuple #[]) (by simp [results, Try.results113, go_sem]) rfl ⟨rfl, HF.out.congr (fun j _ => ?_), HA4.out.set 0 _⟩
  rw [HX.out]
  exact copy_front f p j

def rise (k : Nat) : Nat → Int := fun j => if j < k then (j : Int) else 0
theorem rise_next (k j : Nat) : upd (rise k) k (k : Int) j = rise (k + 1) j := by
  unfold upd rise
  by_cases e : j = k
  · subst e; rw [if_pos rfl, if_pos (by omega)]
  · rw [if_neg e]
    by_cases h : j < k
    · rw [if_pos h, if_pos (by omega)]
    · rw [if_neg h, if_neg (by omega)]
theorem rise_all (j : Nat) (h : j < 256) : rise 256 j = row0 j := if_pos h

set_option maxRecDepth 100000 in
set_option maxHeartbeats 1000000 in
theorem rising_impl (w : World) :
    Calls Try.prog 112 #[] w fun e w' => e = .returned (.agg (rowF .u8 256 row0)) ∧ Below w.heap.size w w' := by
  go_enter Try.func112, Try.ntmps112
  go_wp2_with ((with_reducible refine wpList_alloc_row Try.zeroA93 ?_); intro w1 hb1 hbel1 hs1 ho1)
  rename_i w0 hb0 hbel0 hs0 ho0 K0 a0
  have HB1 := hideZ hb1
  have HB0 := hideZ (hb0.of_heap (ho1 w.heap.size (by omega)))
  have HBel := hideZ ((hbel0 w.heap.size (Nat.le_refl _)).trans (hbel1 w.heap.size (by omega)))
  rw [hs0] at HB1 hs1
  clear hb1 hbel1 ho1 hb0 hbel0 ho0
  go_loopw [3] (fun i wr => ∃ k : Nat, i = .int .i64 k ∧ k ≤ 256 ∧ IsB wr (w.heap.size + 1) 93 .u8 256 (rise k) ∧ IsB wr w.heap.size 93 .u8 256 (fun _ => 0) ∧ Below w.heap.size w wr) (fun i _ => 256 - (intOf i).toNat)
  case atStart => exact ⟨0, rfl, by omega, HB1.out.congr (fun j _ => by unfold rise; rw [if_neg (by omega)]), HB0.out, HBel.out⟩
  case round =>
    obtain ⟨k, rfl, hk, h1, h0, hbel⟩ := hrel
    have G1 := hideZ h1
    have G0 := hideZ h0
    have GB := hideZ hbel
    by_cases hlt : k < 256
    · have ck := h1.cell (j := k) hlt
      have fk := h1.frozen k
      have hwr : ((k : Int)) % 256 = (k : Int) := by omega
      have HN := hideZ (h1.set k (k : Int))
      clear h1 h0 hbel
      go_wp2_with fail
      go_roundw
      case rel => exact ⟨k + 1, by go_num, by omega, HN.out.congr (fun j _ => rise_next k j), G0.out.set_other _ _ (by simp), GB.out.setCell (by simp) _⟩
      case measure => simp [intOf]; omega
    · obtain rfl : k = 256 := by omega
      have G2 := hideZ (h1.congr (fun j hj => rise_all j hj))
      clear h1 h0 hbel
      go_wp2_with (first | ((with_reducible refine Sh.wpList_load_row G2.out Try.underlying93 Try.sizeA93 ?_ ?_); (· rfl)) | ((with_reducible refine Sh.wpList_store_row G0.out Try.sizeA93 row0 ?_ ?_ ?_); (· rfl); (· rfl)))
      exact bodyPost_ret (v := .agg (rowF .u8 256 row0)) (results_row rfl _ rfl (G0.out.row _) Try.underlying93 Try.sizeA93) rfl ⟨rfl, below_row GB.out (Nat.le_refl _) _⟩
end Go.Proofs.Ytdnmbagdegbnfaa.Fr
