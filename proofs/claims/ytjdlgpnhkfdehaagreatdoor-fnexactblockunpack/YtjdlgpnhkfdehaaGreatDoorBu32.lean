/- Texts put together: ShaMade, PlaceI, FrontRow, FrontSpec. -/
import Derived.Test.YtjdlgpnhkfdehaaGreatDoorBu6
import Derived.Test.YtjdlgpnhkfdehaaGreatDoorBu31
import Derived.Test.YtjdlgpnhkfdehaaGreatDoorBu27
import Derived.Test.YtjdlgpnhkfdehaaGreatDoorBu17
import Derived.Test.YtjdlgpnhkfdehaaGreatDoorBu14
import Derived.Test.YtjdlgpnhkfdehaaGreatDoorBu5
import Derived.Test.YtjdlgpnhkfdehaaGreatDoorBu2
import Derived.Test.YtjdlgpnhkfdehaaGreatDoorChecked
import Derived.WalkSpells
import Derived.WalkLawsBesides
import Derived.BigRegion
import Derived.BigQuiet
import Derived.Deep.QuietTactic
import Derived.Laws.CopyOwn
/- A row of numbers that make has just made. -/
namespace Go.Proofs.YtjdlgpnhkfdehaaGreatDoor.Sh
open Go.RowKit
theorem made_zerosK (k : IntKind) (n : Nat) : (madeCells (Value.int k 0).cells (n * 1)).toList = (rowF k n (fun _ => 0)).toList := by
  apply List.ext_getElem?
  intro i
  by_cases hi : i < n
  · simp [madeCells, rowF, hi, Value.cells, Nat.mod_one]
  · simp [madeCells, rowF, hi, Value.cells]
theorem made_rowK {k : IntKind} {w : World} {base e g n : Nat} (h : w.ownsRow base e 1 (.slice (some ⟨g, 0, none⟩) n n) n (madeCells (Value.int k 0).cells (n * 1)).toList) : IsB w g e k n (fun _ => 0) := by
  obtain ⟨_, h⟩ := h
  rcases h with ⟨h, _⟩ | ⟨g', cap, cur, hv, _, hb, _, _, hsz, htk⟩
  · simp at h
  · simp at hv
    obtain ⟨rfl, rfl⟩ := hv
    rw [made_zerosK, List.take_of_length_le (by simp [hsz])] at htk
    have : cur = rowF k n (fun _ => 0) := by simpa using htk
    rw [this] at hb
    exact hb
theorem own_cells {w : World} {base e n : Nat} {v : Value} {k : IntKind} {f : Nat → Int} (hn : 0 < n) (h : w.ownsRow base e 1 v n (rowF k n f).toList) :
    ∃ g c, v = .slice (some ⟨g, 0, none⟩) n c ∧ base ≤ g ∧ g < w.heap.size ∧ ∀ j, j < n → w.cell? ⟨g, j, none⟩ = some (.int k (f j)) := by
  obtain ⟨_, h⟩ := h
  rcases h with ⟨_, h⟩ | ⟨g, cap, cur, hv, hg, hb, hnc, _, hsz, htk⟩
  · omega
  · refine ⟨g, cap, hv, hg, (Array.getElem?_eq_some_iff.1 hb).1, fun j hj => ?_⟩
    rw [cell_of_row w g j cur e (0, 0) hb]
    have h1 : cur.toList[j]? = (cur.toList.take (n * 1))[j]? := by rw [List.getElem?_take_of_lt (by omega)]
    rw [← Array.getElem?_toList, h1, htk, Array.getElem?_toList]
    exact rowF_get k n f j hj
theorem byte_at (t : ByteArray) (j : Nat) (h : j < t.size) : ∃ y : UInt8, t[j] = y ∧ y.toNat = bt t j := ⟨t[j], rfl, bt_get t j h⟩
end Go.Proofs.YtjdlgpnhkfdehaaGreatDoor.Sh


/- What the program's placesByByte answers. -/
namespace Go.Proofs.YtjdlgpnhkfdehaaGreatDoor.So
open Go.RowKit Go.Sort Go.Proofs
open Go.Proofs.YtjdlgpnhkfdehaaGreatDoor.Sh (bt bt_get bt_lt IsB)
set_option maxHeartbeats 1000000 in
theorem sortStable_I (T : ByteArray) (cc blk cap : Nat) (d : Array Nat) (w : World) (hH : HoldsK encI 1 w blk 0 d) (hblk : blk < w.heap.size) (hsz : d.size ≤ 1048576) (hcap : Cap w cc T) (hcb0 : cc ≠ blk) (hbd : ∀ i, dF d i < T.size) (hid : ∀ i, i < d.size → dF d i = i) :
    Calls Tryz.prog 262 #[.slice (some ⟨blk, 0, none⟩) d.size cap, .func (.func 263) #[] #[.pointer (some ⟨cc, 0, none⟩)]] w fun e w' =>
      e = .returned (.tuple #[]) ∧ ∃ n d' os, w' = sortWorldK encI 1 w blk 0 n d' os ∧ d'.size = d.size ∧ PermF 0 d.size (dF d) (dF d') ∧ Ris (clI T) 0 d.size (dF d') := by
  have HS := hideO (stable_I T cc blk cap d w hH hblk hsz hcap hcb0 hbd hid)
  clear hH hid hcap hbd
  generalize d.size = z at HS hsz ⊢
  go_enter Tryz.func262, Tryz.ntmps262
  go_wp2_with fail
  refine HS.out.mono ?_
  rintro e w' ⟨rfl, n, d', os, hw, hs, hp, hr⟩
  have HX : Hid (∃ n d' os, w' = sortWorldK encI 1 w blk 0 n d' os ∧ d'.size = z ∧ PermF 0 z (dF d) (dF d') ∧ Ris (clI T) 0 z (dF d')) := ⟨n, d', os, hw, hs, hp, hr⟩
  clear hw hs hp hr
  go_wp2_with fail
  refine bodyPost_end (v := .tuple #[]) (by simp [results, Tryz.results262, go_sem]) rfl ⟨rfl, HX.out⟩
theorem holds_isB {w : World} {g n : Nat} {f : Nat → Nat} {e : TypeId} (h : IsB w g e .i64 n (fun j => ((f j : Nat) : Int))) : HoldsK encI 1 w g 0 ((List.range n).map f).toArray := by
  intro j hj
  rw [size_flatK] at hj
  have hj' : j < n := by simpa using hj
  rw [get_flatK _ _ _ _ hj, Nat.zero_add]
  refine ⟨?_, h.frozen j⟩
  rw [h.cell hj']
  simp [encI, hj', Nat.mod_one]
def iotaF (k : Nat) : Nat → Nat := fun j => if j < k then j else 0
theorem iotaF_next (k j : Nat) : Sh.upd (fun j => ((iotaF k j : Nat) : Int)) k (k : Nat) j = ((iotaF (k + 1) j : Nat) : Int) := by
  unfold Sh.upd iotaF
  by_cases e : j = k
  · subst e
    rw [if_pos rfl, if_pos (by omega)]
  · rw [if_neg e]
    by_cases h : j < k
    · have h' : j < k + 1 := by omega
      simp only [h, h', if_true]
    · have h' : ¬ j < k + 1 := by omega
      simp only [h, h', if_false]
theorem Tryz.infoI3 : (Tryz.prog.info? 3).map (fun i => (i.zero, i.size, i.bytes)) = some (some (.int .i64 0), 1, 8) := by kernel_rfl
set_option maxHeartbeats 1000000 in
theorem insertion_0 (blk cap : Nat) (cv : Value) (w : World) :
    Calls Tryz.prog 268 #[.slice (some ⟨blk, 0, none⟩) 0 cap, .int .i64 0, .int .i64 0, cv] w fun e w' => e = .returned (.tuple #[]) ∧ w' = w := by
  go_enter Tryz.func268, Tryz.ntmps268
  go_wp2_with fail
  go_loopw [8] (fun i wr => i = .int .i64 1 ∧ wr = w) (fun _ _ => 0)
  case atStart => exact ⟨rfl, rfl⟩
  case round =>
    obtain ⟨rfl, rfl⟩ := hrel
    go_wp2_with fail
    refine bodyPost_end (v := .tuple #[]) (by simp [results, Tryz.results268, go_sem]) rfl ⟨rfl, rfl⟩
set_option maxHeartbeats 1000000 in
theorem stable_0 (blk cap : Nat) (cv : Value) (w : World) :
    Calls Tryz.prog 266 #[.slice (some ⟨blk, 0, none⟩) 0 cap, .int .i64 0, cv] w fun e w' => e = .returned (.tuple #[]) ∧ w' = w := by
  have HI := hideO (insertion_0 blk cap cv w)
  go_enter Tryz.func266, Tryz.ntmps266
  go_wp2_with fail
  go_loopw [7, 8] (fun u v wr => u = .int .i64 0 ∧ v = .int .i64 20 ∧ wr = w) (fun _ _ _ => 0)
  case atStart => exact ⟨rfl, rfl, rfl⟩
  case round =>
    obtain ⟨rfl, rfl, rfl⟩ := hrel
    go_wp2_with fail
    refine HI.out.mono ?_
    rintro e w' ⟨rfl, hw⟩
    subst w'
    go_wp2_with fail
    go_loopw [6] (fun u wr2 => u = .int .i64 20 ∧ wr2 = wr) (fun _ _ => 0)
    case atStart => exact ⟨rfl, rfl⟩
    case round =>
      obtain ⟨rfl, hw⟩ := hrel
      subst hw
      go_wp2_with fail
      refine bodyPost_end (v := .tuple #[]) (by simp [results, Tryz.results266, go_sem]) rfl ⟨rfl, rfl⟩
set_option maxHeartbeats 1000000 in
theorem sortStable_0 (blk cap : Nat) (cv : Value) (w : World) :
    Calls Tryz.prog 262 #[.slice (some ⟨blk, 0, none⟩) 0 cap, cv] w fun e w' => e = .returned (.tuple #[]) ∧ w' = w := by
  have HS := hideO (stable_0 blk cap cv w)
  go_enter Tryz.func262, Tryz.ntmps262
  go_wp2_with fail
  refine HS.out.mono ?_
  rintro e w' ⟨rfl, hw⟩
  subst w'
  go_wp2_with fail
  refine bodyPost_end (v := .tuple #[]) (by simp [results, Tryz.results262, go_sem]) rfl ⟨rfl, rfl⟩
theorem sort_all (t : ByteArray) (cc blk : Nat) (w : World) (hn : t.size ≤ 1048576) (hB : IsB w blk 3 .i64 t.size (fun j => ((iotaF t.size j : Nat) : Int))) (hcap : Cap w cc t) (hcb : cc < blk) :
    Calls Tryz.prog 262 #[.slice (some ⟨blk, 0, none⟩) t.size t.size, .func (.func 263) #[] #[.pointer (some ⟨cc, 0, none⟩)]] w fun e w' =>
      e = .returned (.tuple #[]) ∧ blk < w'.heap.size ∧ (∀ j, j < t.size → w'.cell? ⟨blk, j, none⟩ = some (.int .i64 (plF t j : Nat))) ∧ Below blk w w' := by
  by_cases h0 : t.size = 0
  · rw [h0]
    refine (sortStable_0 blk 0 _ w).mono ?_
    rintro e w' ⟨rfl, rfl⟩
    exact ⟨rfl, hB.lt, fun j hj => absurd hj (Nat.not_lt_zero _), Below.refl _ _⟩
  · have hH := holds_isB hB
    have hds : ((List.range t.size).map (iotaF t.size)).toArray.size = t.size := by simp
    have hdf : ∀ i, i < t.size → dF ((List.range t.size).map (iotaF t.size)).toArray i = i := fun i hi => by
      simp [dF, hi, iotaF]
    have hbd : ∀ i, dF ((List.range t.size).map (iotaF t.size)).toArray i < t.size := fun i => by
      by_cases hi : i < t.size
      · rw [hdf i hi]; exact hi
      · rw [dF_out _ _ (by rw [hds]; omega)]; omega
    have := sortStable_I t cc blk t.size _ w hH hB.lt (by rw [hds]; exact hn) hcap (by omega) hbd (fun i hi => hdf i (by rw [hds] at hi; exact hi))
    rw [hds] at this
    refine this.mono ?_
    rintro e w' ⟨rfl, n, d', os, rfl, hs, hp, hr⟩
    refine ⟨rfl, Nat.lt_of_lt_of_le hB.lt (world_size n d' os), fun j hj => ?_, world_below n d' os (Nat.le_refl _) (Nat.le_of_lt hB.lt)⟩
    have hH' := world_holds hH hB.lt n d' os (hs.trans hds.symm)
    have hc := (cells_I hH' (i := j) (by rw [hs]; exact hj)).1
    rw [hc]
    have hseg : (seg (dF d') 0 t.size).Perm (List.range t.size) := by
      have h1 := hp.1
      have e : seg (dF ((List.range t.size).map (iotaF t.size)).toArray) 0 t.size = List.range t.size := by
        unfold seg
        rw [Nat.sub_zero]
        apply List.ext_getElem
        · simp
        · intro i h1 h2
          have h3 : i < t.size := by simpa using h2
          simp only [List.getElem_map, List.getElem_range]
          rw [show (List.range' 0 t.size)[i]'(by simpa using h3) = i by simp]
          exact hdf i h3
      rw [e] at h1
      exact h1
    have := plF_seg hseg hr j hj
    rw [← this]
    rfl
set_option maxRecDepth 100000 in
set_option maxHeartbeats 1000000 in
theorem places_impl (t : ByteArray) (w : World) (hn : t.size ≤ 1048576) :
    Calls Tryz.prog 257 #[.string t] w fun e w' => ∃ g, e = .returned (.slice (some ⟨g, 0, none⟩) t.size t.size) ∧ w.heap.size ≤ g ∧ g < w'.heap.size ∧ (∀ j, j < t.size → w'.cell? ⟨g, j, none⟩ = some (.int .i64 (plF t j : Nat))) ∧ Below w.heap.size w w' := by
  obtain ⟨i0, hi0, hz0, hz1, hz2⟩ := info_parts Tryz.infoI3
  obtain ⟨w0, hw0⟩ : ∃ w0, w0 = w.alloc (.cells #[.string t] 9) := ⟨_, rfl⟩
  have z0 : w0.heap.size = w.heap.size + 1 := by rw [hw0]; simp
  have HC0 : Hid (Cap w0 w.heap.size t) := by unfold Hid Cap; rw [hw0, cell_of_row _ w.heap.size 0 _ _ (0, 0) (heap_alloc_last w _)]; rfl
  have HB0 : Hid (Below w.heap.size w w0) := by unfold Hid; rw [hw0]; exact (Below.refl _ _).alloc (Nat.le_refl _) _
  go_enter Tryz.func257, Tryz.ntmps257
  go_wp2_with (at_make; rw [← hw0]; refine wpList_make_full _ rfl (.tmp 6) (.tmp 6) 214 rfl w0.heap.size 3 i0 (.int .i64 0) 1 Tryz.underlying214 hi0 hz0 hz1 .i64 .i64 _ _ t.size rfl rfl (by simp) (by simp) (by rw [hz2]; omega) (by unfold maxLen; omega) (Nat.le_refl _) ?_; intro w1 hown1 hgrow1; have HT1 := hideO (Sh.made_rowK hown1); have hb1 := (Below.refl w0.heap.size w0).grown hgrow1 (Nat.le_refl _) (by simp); have HC1 : Hid (Cap w1 w.heap.size t) := HC0.out.block (hb1.block w.heap.size (by omega)); have HB1 := hideO (HB0.out.trans (hb1.mono (by omega))); have zz1 := HT1.out.lt; clear hown1 hgrow1 hb1)
  go_loopw [10] (fun i wr => ∃ k : Nat, i = .int .i64 k ∧ k ≤ t.size ∧ IsB wr (w.heap.size + 1) 3 .i64 t.size (fun j => ((iotaF k j : Nat) : Int)) ∧ Cap wr w.heap.size t ∧ Below w.heap.size w wr) (fun i _ => t.size - (intOf i).toNat)
  case atStart => exact ⟨0, rfl, Nat.zero_le _, by rw [← z0]; exact HT1.out.congr (fun j _ => by simp [iotaF]), HC1.out, HB1.out⟩
  case round =>
    obtain ⟨k, rfl, hk, hrow, hcap, hbel⟩ := hrel
    have T1 := hideO hrow
    have C1 := hideO hcap
    have GB := hideO hbel
    clear hbel hcap
    by_cases hlt : k < t.size
    · have c2 := hrow.cell (j := k) hlt
      have f2 := hrow.frozen k
      have hkz : (k : Int) < (t.size : Int) := by omega
      have TS := hideO ((hrow.set k (k : Nat)).congr (fun j _ => iotaF_next k j))
      have CS : Hid (Cap (wr.setCell ⟨w.heap.size + 1, k, none⟩ (.int .i64 (k : Nat))) w.heap.size t) := C1.out.block (heap_setCell_other _ _ _ _ (by simp))
      have BS := hideO (GB.out.setCell (p := ⟨w.heap.size + 1, k, none⟩) (by simp) (.int .i64 (k : Nat)))
      clear hrow
      go_wp2_with fail
      go_roundw
      case rel => exact ⟨k + 1, by go_num, by omega, TS.out, CS.out, BS.out⟩
      case measure => simp [intOf]; omega
    · obtain rfl : k = t.size := by omega
      have HS := hideO (sort_all t w.heap.size (w.heap.size + 1) wr hn T1.out C1.out (by omega))
      clear hrow
      go_wp2_with fail
      refine HS.out.mono ?_
      rintro e w2 ⟨rfl, hz, hc, hb⟩
      have HC := hideO hc
      have HB2 := hideO (GB.out.trans (hb.mono (by omega)))
      clear hc hb
      go_wp2_with fail
      go_ret
      exact ⟨_, rfl, by omega, hz, HC.out, HB2.out⟩
end Go.Proofs.YtjdlgpnhkfdehaaGreatDoor.So


/- The row of all bytes in memory: how the program makes it, and brings a byte to its front. -/
namespace Go.Proofs.YtjdlgpnhkfdehaaGreatDoor.Fr
open Go.RowKit
open Go.Proofs.YtjdlgpnhkfdehaaGreatDoor.Sh (IsB rowF upd rowF_size rowF_get rowF_one rowF_congr results_row below_row row_size)
open Go.Proofs.YtjdlgpnhkfdehaaGreatDoor.Ze (hideZ)
open Go.Proofs.YtjdlgpnhkfdehaaGreatDoor.St (Aft)
theorem Tryz.zeroA166 : (Tryz.prog.info? 166).bind (·.zero) = some (.agg (rowF .u8 256 fun _ => 0)) := by kernel_rfl
theorem Tryz.sizeA166 : (Tryz.prog.info? 166).map (·.size) = some 256 := by kernel_rfl
theorem Tryz.sizeB5 : (Tryz.prog.info? 5).map (·.size) = some 1 := by kernel_rfl
theorem wpList_alloc_row {P : Program} {w : World} {ops : Array Oper} {rest : List Oper} {a : Act} {Q : Exit → Act → World → Prop} {d : Tmp} {ty tt : TypeId} {pos : String} {af : Array Edge}
    {k : IntKind} {n : Nat} (hz : (P.info? ty).bind (·.zero) = some (.agg (rowF k n fun _ => 0)))
    (h : ∀ w', IsB w' w.heap.size ty k n (fun _ => 0) → (∀ B, B ≤ w.heap.size → Below B w w') → w'.heap.size = w.heap.size + 1 → (∀ j, j < w.heap.size → w'.heap[j]? = w.heap[j]?) → wpList P ops Q rest (a.put (some d) (.pointer (some ⟨w.heap.size, 0, none⟩))) w') :
    wpList P ops Q (⟨some d, .alloc ty, tt, pos, af, none⟩ :: rest) a w := by
  refine wpList_plain rfl fun K hK => ?_
  obtain ⟨i, hi, hzi⟩ : ∃ i, P.info? ty = some i ∧ i.zero = some (.agg (rowF k n fun _ => 0)) := by
    cases hi : P.info? ty with
    | none => rw [hi] at hz; cases hz
    | some i => exact ⟨i, rfl, by rw [hi] at hz; exact hz⟩
  have hl : (Instr.alloc ty true (.tuple #[])).run P w = .ok (.pointer (some ⟨w.heap.size, 0, none⟩)) (w.alloc (.cells (rowF k n fun _ => 0) ty)) := by
    simp [Instr.alloc, zeroValue, typeInfo, hi, hzi, newVar, newRow, Value.cells]
  unfold Oper.wp
  simp [execOp, hl, Result.andThen]
  exact hK _ _ (h _ (IsB.new w ty k n _) (fun B hB => (Below.refl B w).alloc hB _) (by simp) (fun j hj => Below.heap_alloc w _ j hj))
def copyF (f : Nat → Int) (p : Nat) : Nat → Int := fun j => if j = 0 then f 0 else if j ≤ p then f (j - 1) else f j
theorem copy_front (f : Nat → Int) (p j : Nat) : upd (copyF f p) 0 (f p) j = front f p j := by
  unfold upd copyF front
  by_cases h : j = 0
  · rw [if_pos h, if_pos h]
  · rw [if_neg h, if_neg h, if_neg h]
theorem copy_row (f : Nat → Int) (p : Nat) (hp : p < 256) :
    ((rowF .u8 256 f).toList.take 1 ++ (List.range p).map (fun j => Value.int .u8 (f j)) ++ (rowF .u8 256 f).toList.drop (1 + ((List.range p).map (fun j => Value.int .u8 (f j))).length)).toArray = rowF .u8 256 (copyF f p) := by
  rw [List.append_assoc]
  apply Array.ext'
  apply List.ext_getElem?
  intro j
  simp only [rowF, List.length_map, List.length_range]
  by_cases h0 : j = 0
  · subst h0
    rw [List.getElem?_append_left (by simp)]
    simp [copyF]
  · rw [List.getElem?_append_right (by simp; omega)]
    simp only [List.length_take, List.length_map, List.length_range]
    rw [show j - min 1 256 = j - 1 by omega]
    by_cases h1 : j ≤ p
    · rw [List.getElem?_append_left (by simp; omega)]
      have : j < 256 := by omega
      have h2 : j - 1 < p := by omega
      simp [copyF, h0, h1, h2, this]
    · rw [List.getElem?_append_right (by simp; omega), List.getElem?_drop]
      simp only [List.length_map, List.length_range]
      rw [show 1 + p + (j - 1 - p) = j by omega]
      by_cases h2 : j < 256
      · simp [copyF, h0, h1, h2]
      · simp [h2]
theorem run_copy_up {P : Program} (w : World) (dT sT ty elem : TypeId) (hu : P.underlying dT = some (.slice elem)) (hsz : (P.info? elem).map (·.size) = some 1)
    (g p dCap sCap : Nat) (t : TypeId) (f : Nat → Int) (hp : p < 256) (hb : IsB w g t .u8 256 f) :
    ∃ w', (Builtin.copy_ #[dT, sT] ty #[.slice (some ⟨g, 1, none⟩) 255 dCap, .slice (some ⟨g, 0, none⟩) p sCap]).run P w = .ok (goInt p) w' ∧ IsB w' g t .u8 256 (copyF f p) ∧ Aft g w w' := by
  have hrun := run_copy_row (P := P) w dT sT ty elem g 1 255 dCap ⟨g, 0, none⟩ p sCap (rowF .u8 256 f) t ((List.range p).map (fun j => Value.int .u8 (f j))) hu hsz hb (by simp [Nat.min_def]; omega)
    (fun j v hv => by
      have hadd : (⟨g, 0, none⟩ : Addr).add j = ⟨g, j, none⟩ := by unfold Addr.add; split <;> simp_all
      rw [hadd]
      rw [List.getElem?_map] at hv
      by_cases hj : j < p
      · rw [List.getElem?_range hj] at hv
        rw [hb.cell (by omega)]
        exact hv
      · rw [List.getElem?_eq_none (by simpa using hj)] at hv
        cases hv)
    (by rw [rowF_size]; simp; omega) (fun v hv => by
      obtain ⟨j, _, rfl⟩ := List.mem_map.1 hv
      rfl)
  rw [copy_row f p hp, List.length_map, List.length_range] at hrun
  exact ⟨_, hrun, hb.row _, rfl, rfl, rfl, by simp [World.setRow], fun k hk hg => setRow_other w g k _ hg⟩
set_option maxRecDepth 100000 in
set_option maxHeartbeats 1000000 in
theorem bring_impl (g p : Nat) (t : TypeId) (f : Nat → Int) (w : World) (hb : IsB w g t .u8 256 f) (hp : p < 256) :
    Calls Tryz.prog 158 #[.pointer (some ⟨g, 0, none⟩), .int .i64 p] w fun e w' => e = .returned (.tuple #[]) ∧ IsB w' g t .u8 256 (front f p) ∧ Aft g w w' := by
  have c0 := hb.cell hp
  have HB := hideZ hb
  have HA := hideZ (Aft.refl g w)
  obtain ⟨x, hx⟩ : ∃ x, x = f p := ⟨_, rfl⟩
  have HX := hideZ hx
  rw [← hx] at c0
  clear hx hb
  go_enter Tryz.func158, Tryz.ntmps158
  go_wp2_with fail
  have hp1 : (p : Int) ≤ 256 := by omega
  have hp2 : ¬ (p : Int) < 0 := by omega
  have hp3 : ¬ (256 : Int) < (p : Int) := by omega
  obtain ⟨W4, hcp, hb4, ha4⟩ := run_copy_up (P := Tryz.prog) w.drew 22 22 3 5 Tryz.underlying22 Tryz.sizeB5 g p 255 256 t f hp (HB.out.of_heap rfl)
  have HB4 := hideZ hb4
  have HA4 : Hid (Aft g w W4) := ⟨ha4.1, ha4.2.1, ha4.2.2.1, ha4.2.2.2.1, ha4.2.2.2.2⟩
  clear hb4 ha4
  have c1 := HB4.out.cell (j := 0) (by omega)
  have f1 := HB4.out.frozen 0
  have HF := hideZ (HB4.out.set 0 x)
  go_region
  go_wp2_with fail
  refine bodyPost_end (v := .tuple #[]) (by simp [results, Tryz.results158, go_sem]) rfl ⟨rfl, HF.out.congr (fun j _ => ?_), HA4.out.set 0 _⟩
  rw [HX.out]
  exact copy_front f p j
def rise (k : Nat) : Nat → Int := fun j => if j < k then (j : Int) else 0
theorem rise_next (k j : Nat) : upd (rise k) k (k : Int) j = rise (k + 1) j := by
  unfold upd rise
  by_cases e : j = k
  · subst e; rw [if_pos rfl, if_pos (by omega)]
  · rw [if_neg e]
    by_cases h : j < k
    · rw [if_pos h, if_pos (by omega)]
    · rw [if_neg h, if_neg (by omega)]
theorem rise_all (j : Nat) (h : j < 256) : rise 256 j = row0 j := if_pos h
set_option maxRecDepth 100000 in
set_option maxHeartbeats 1000000 in
theorem rising_impl (w : World) :
    Calls Tryz.prog 157 #[] w fun e w' => e = .returned (.agg (rowF .u8 256 row0)) ∧ Below w.heap.size w w' := by
  go_enter Tryz.func157, Tryz.ntmps157
  go_wp2_with ((with_reducible refine wpList_alloc_row Tryz.zeroA166 ?_); intro w1 hb1 hbel1 hs1 ho1)
  rename_i w0 hb0 hbel0 hs0 ho0 K0 a0
  have HB1 := hideZ hb1
  have HB0 := hideZ (hb0.of_heap (ho1 w.heap.size (by omega)))
  have HBel := hideZ ((hbel0 w.heap.size (Nat.le_refl _)).trans (hbel1 w.heap.size (by omega)))
  rw [hs0] at HB1 hs1
  clear hb1 hbel1 ho1 hb0 hbel0 ho0
  go_loopw [3] (fun i wr => ∃ k : Nat, i = .int .i64 k ∧ k ≤ 256 ∧ IsB wr (w.heap.size + 1) 166 .u8 256 (rise k) ∧ IsB wr w.heap.size 166 .u8 256 (fun _ => 0) ∧ Below w.heap.size w wr) (fun i _ => 256 - (intOf i).toNat)
  case atStart => exact ⟨0, rfl, by omega, HB1.out.congr (fun j _ => by unfold rise; rw [if_neg (by omega)]), HB0.out, HBel.out⟩
  case round =>
    obtain ⟨k, rfl, hk, h1, h0, hbel⟩ := hrel
    have G1 := hideZ h1
    have G0 := hideZ h0
    have GB := hideZ hbel
    by_cases hlt : k < 256
    · have ck := h1.cell (j := k) hlt
      have fk := h1.frozen k
      have hwr : ((k : Int)) % 256 = (k : Int) := by omega
      have HN := hideZ (h1.set k (k : Int))
      clear h1 h0 hbel
      go_wp2_with fail
      go_roundw
      case rel => exact ⟨k + 1, by go_num, by omega, HN.out.congr (fun j _ => rise_next k j), G0.out.set_other _ _ (by simp), GB.out.setCell (by simp) _⟩
      case measure => simp [intOf]; omega
    · obtain rfl : k = 256 := by omega
      have G2 := hideZ (h1.congr (fun j hj => rise_all j hj))
      clear h1 h0 hbel
      go_wp2_with (first | ((with_reducible refine Sh.wpList_load_row G2.out Tryz.underlying166 Tryz.sizeA166 ?_ ?_); (· rfl)) | ((with_reducible refine Sh.wpList_store_row G0.out Tryz.sizeA166 row0 ?_ ?_ ?_); (· rfl); (· rfl)))
      exact bodyPost_ret (v := .agg (rowF .u8 256 row0)) (results_row rfl _ rfl (G0.out.row _) Tryz.underlying166 Tryz.sizeA166) rfl ⟨rfl, below_row GB.out (Nat.le_refl _) _⟩
end Go.Proofs.YtjdlgpnhkfdehaaGreatDoor.Fr


/- The row of all bytes in memory: how the specification makes it, and brings a byte to its front. -/
namespace Go.Proofs.YtjdlgpnhkfdehaaGreatDoor.Fr
open Go.RowKit
open Go.Proofs.YtjdlgpnhkfdehaaGreatDoor.Sh (IsB rowF upd made_row)
open Go.Proofs.YtjdlgpnhkfdehaaGreatDoor.Ze (hideZ)
open Go.Proofs.YtjdlgpnhkfdehaaGreatDoor.St (Aft)
set_option maxRecDepth 100000 in
set_option maxHeartbeats 1000000 in
theorem row_spec (w : World) :
    Calls Tryz.prog 180 #[] w fun e w' => e = .returned (.slice (some ⟨w.heap.size, 0, none⟩) 256 256) ∧ IsB w' w.heap.size 5 .u8 256 row0 ∧ Below w.heap.size w w' := by
  obtain ⟨i0, hi, hz0, hz1, hz2⟩ := info_parts Nu.Tryz.infoJ5
  go_enter Tryz.func180, Tryz.ntmps180
  go_wp2_with (at_make; refine wpList_make_full _ rfl (.const (.int .i64 256)) (.const (.int .i64 256)) 22 rfl w.heap.size 5 i0 (.int .u8 0) 1 Tryz.underlying22 hi hz0 hz1 .i64 .i64 _ _ 256 rfl rfl (by simp) (by simp) (by rw [hz2]; omega) (by unfold maxLen; omega) (Nat.le_refl _) ?_; intro w1 hown1 hgrow1; have HR := hideZ (made_row hown1); have HB := hideZ ((Below.refl w.heap.size w).grown hgrow1 (Nat.le_refl _) (by simp)); clear hown1 hgrow1)
  go_loopw [2] (fun i wr => ∃ k : Nat, i = .int .i64 k ∧ k ≤ 256 ∧ IsB wr w.heap.size 5 .u8 256 (rise k) ∧ Below w.heap.size w wr) (fun i _ => 256 - (intOf i).toNat)
  case atStart => exact ⟨0, rfl, by omega, HR.out.congr (fun j _ => by unfold rise; rw [if_neg (by omega)]), HB.out⟩
  case round =>
    obtain ⟨k, rfl, hk, h1, hbel⟩ := hrel
    have G1 := hideZ h1
    have GB := hideZ hbel
    by_cases hlt : k < 256
    · have ck := h1.cell (j := k) hlt
      have fk := h1.frozen k
      have hwr : ((k : Int)) % 256 = (k : Int) := by omega
      have HN := hideZ (h1.set k (k : Int))
      clear h1 hbel
      go_wp2_with fail
      go_roundw
      case rel => exact ⟨k + 1, by go_num, by omega, HN.out.congr (fun j _ => rise_next k j), GB.out.setCell (by simp) _⟩
      case measure => simp [intOf]; omega
    · obtain rfl : k = 256 := by omega
      have G2 := hideZ (h1.congr (fun j hj => rise_all j hj))
      clear h1 hbel
      go_wp2_with fail
      go_ret
      exact ⟨rfl, G2.out, GB.out⟩
def downF (f : Nat → Int) (p k : Nat) : Nat → Int := fun j => if k < j ∧ j ≤ p then f (j - 1) else f j
theorem down_start (f : Nat → Int) (p j : Nat) : downF f p p j = f j := by
  unfold downF
  rw [if_neg (by omega)]
theorem down_next (f : Nat → Int) (p k j : Nat) (h : k + 1 ≤ p) : upd (downF f p (k + 1)) (k + 1) (f k) j = downF f p k j := by
  unfold upd downF
  by_cases e : j = k + 1
  · subst e
    rw [if_pos rfl, if_pos (by omega)]
    rfl
  · rw [if_neg e]
    by_cases h2 : k + 1 < j ∧ j ≤ p
    · rw [if_pos h2, if_pos (by omega)]
    · rw [if_neg h2, if_neg (by omega)]
theorem down_at (f : Nat → Int) (p k : Nat) : downF f p (k + 1) k = f k := by
  unfold downF
  rw [if_neg (by omega)]
theorem down_front (f : Nat → Int) (p j : Nat) : upd (downF f p 0) 0 (f p) j = front f p j := by
  unfold upd downF front
  by_cases h : j = 0
  · rw [if_pos h, if_pos h]
  · rw [if_neg h, if_neg h]
    by_cases h2 : j ≤ p
    · rw [if_pos (by omega), if_pos h2]
    · rw [if_neg (by omega), if_neg h2]
set_option maxRecDepth 100000 in
set_option maxHeartbeats 1000000 in
theorem front_spec (g p c : Nat) (t : TypeId) (f : Nat → Int) (w : World) (hb : IsB w g t .u8 256 f) (hp : p < 256) :
    Calls Tryz.prog 182 #[.slice (some ⟨g, 0, none⟩) 256 c, .int .i64 p] w fun e w' => e = .returned (.tuple #[]) ∧ IsB w' g t .u8 256 (front f p) ∧ Aft g w w' := by
  have c0 := hb.cell hp
  have HB := hideZ hb
  have HA := hideZ (Aft.refl g w)
  obtain ⟨x, hx⟩ : ∃ x, x = f p := ⟨_, rfl⟩
  have HX := hideZ hx
  rw [← hx] at c0
  clear hx hb
  go_enter Tryz.func182, Tryz.ntmps182
  go_wp2_with fail
  go_loopw [1] (fun i wr => ∃ k : Nat, i = .int .i64 k ∧ k ≤ p ∧ IsB wr g t .u8 256 (downF f p k) ∧ Aft g w wr) (fun i _ => (intOf i).toNat)
  case atStart => exact ⟨p, rfl, Nat.le_refl _, HB.out.congr (fun j _ => (down_start f p j).symm), HA.out⟩
  case round =>
    obtain ⟨k, rfl, hk, h1, ha⟩ := hrel
    have G1 := hideZ h1
    have GA := hideZ ha
    cases k with
    | zero =>
      have c1 := h1.cell (j := 0) (by omega)
      have f1 := h1.frozen 0
      have HF := hideZ (h1.set 0 x)
      clear h1 ha
      go_wp2_with fail
      refine bodyPost_end (v := .tuple #[]) (by simp [results, Tryz.results182, go_sem]) rfl ⟨rfl, HF.out.congr (fun j _ => ?_), GA.out.set 0 _⟩
      rw [HX.out]
      exact down_front f p j
    | succ k =>
      have c1 := h1.cell (j := k) (by omega)
      have c2 := h1.cell (j := k + 1) (by omega)
      have f1 := h1.frozen (k + 1)
      obtain ⟨y, hy⟩ : ∃ y, y = f k := ⟨_, rfl⟩
      rw [down_at, ← hy] at c1
      have HF : Hid (IsB (wr.setCell ⟨g, k + 1, none⟩ (.int .u8 y)) g t .u8 256 (downF f p k)) := by
        have := (h1.set (k + 1) y).congr (f' := downF f p k) (fun j _ => by rw [hy]; exact down_next f p k j hk)
        exact this
      have e1 : ((k + 1 : Nat) : Int) = (k : Int) + 1 := by omega
      have e2 : ((k : Int) + 1).toNat = k + 1 := by omega
      rw [e1]
      clear h1 ha hy e1
      go_wp2_with fail
      go_roundw
      case rel => exact ⟨k, by go_num, by omega, HF.out, GA.out.set (k + 1) _⟩
      case measure => simp [intOf]
end Go.Proofs.YtjdlgpnhkfdehaaGreatDoor.Fr

