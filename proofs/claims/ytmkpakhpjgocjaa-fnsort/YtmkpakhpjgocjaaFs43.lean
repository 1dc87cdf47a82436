/- Texts put together: PlaceI, UnbImpl. -/
import Derived.Test.YtmkpakhpjgocjaaFs41
import Derived.Test.YtmkpakhpjgocjaaFs27
import Derived.Test.YtmkpakhpjgocjaaFs6
import Derived.Test.YtmkpakhpjgocjaaFs42
import Derived.Test.YtmkpakhpjgocjaaFs30
/- What the program's placesByByte answers. -/
namespace Go.Proofs.Ytmkpakhpjgocjaa.So
open Go.RowKit Go.Sort Go.Proofs
open Go.Proofs.Ytmkpakhpjgocjaa.Sh (bt bt_get bt_lt IsB)

set_option maxHeartbeats 1000000 in
theorem sortStable_I (T : ByteArray) (cc blk cap : Nat) (d : Array Nat) (w : World) (hH : HoldsK encI 1 w blk 0 d) (hblk : blk < w.heap.size) (hsz : d.size ≤ 1048576) (hcap : Cap w cc T) (hcb0 : cc ≠ blk) (hbd : ∀ i, dF d i < T.size) (hid : ∀ i, i < d.size → dF d i = i) :
    Calls Try.prog 156 #[.slice (some ⟨blk, 0, none⟩) d.size cap, .func (.func 157) #[] #[.pointer (some ⟨cc, 0, none⟩)]] w fun e w' =>
      e = .returned (.tuple #[]) ∧ ∃ n d' os, w' = sortWorldK encI 1 w blk 0 n d' os ∧ d'.size = d.size ∧ PermF 0 d.size (dF d) (dF d') ∧ Ris (clI T) 0 d.size (dF d') := by
  have HS := hideO (stable_I T cc blk cap d w hH hblk hsz hcap hcb0 hbd hid)
  clear hH hid hcap hbd
  generalize d.size = z at HS hsz ⊢
  go_enter Try.func156, Try.ntmps156
  go_wp2_with fail
  refine HS.out.mono ?_
  rintro e w' ⟨rfl, n, d', os, hw, hs, hp, hr⟩
  have HX : Hid (∃ n d' os, w' = sortWorldK encI 1 w blk 0 n d' os ∧ d'.size = z ∧ PermF 0 z (dF d) (dF d') ∧ Ris (clI T) 0 z (dF d')) := ⟨n, d', os, hw, hs, hp, hr⟩
  clear hw hs hp hr
  go_wp2_with fail
  refine bodyPost_end (v := .tuple #[]) (by simp [results, Try.results156, go_sem]) rfl ⟨rfl, HX.out⟩

/-- a row of numbers as the sort sees it -/
theorem holds_isB {w : World} {g n : Nat} {f : Nat → Nat} {e : TypeId} (h : IsB w g e .i64 n (fun j => ((f j : Nat) : Int))) : HoldsK encI 1 w g 0 ((List.range n).map f).toArray := by
  intro j hj
  rw [size_flatK] at hj
  have hj' : j < n := by simpa using hj
  rw [get_flatK _ _ _ _ hj, Nat.zero_add]
  refine ⟨?_, h.frozen j⟩
  rw [h.cell hj']
  simp [encI, hj', Nat.mod_one]
def iotaF (k : Nat) : Nat → Nat := fun j => if j < k then j else 0
theorem iotaF_next (k j : Nat) : Sh.upd (fun j => ((iotaF k j : Nat) : Int)) k (k : Nat) j = ((iotaF (k + 1) j : Nat) : Int) := by
  unfold Sh.upd iotaF
  by_cases e : j = k
  · subst e
    rw [if_pos rfl, if_pos (by omega)]
  · rw [if_neg e]
    by_cases h : j < k
    · have h' : j < k + 1 := by omega
      simp only [h, h', if_true]
    · have h' : ¬ j < k + 1 := by omega
      simp only [h, h', if_false]

theorem Try.infoI3 : (Try.prog.info? 3).map (fun i => (i.zero, i.size, i.bytes)) = some (some (.int .i64 0), 1, 8) := by kernel_rfl

set_option maxHeartbeats 1000000 in
theorem insertion_0 (blk cap : Nat) (cv : Value) (w : World) :
    Calls Try.prog 174 #[.slice (some ⟨blk, 0, none⟩) 0 cap, .int .i64 0, .int .i64 0, cv] w fun e w' => e = .returned (.tuple #[]) ∧ w' = w := by
  go_enter Try.func174, Try.ntmps174
  go_wp2_with fail
  go_loopw [8] (fun i wr => i = .int .i64 1 ∧ wr = w) (fun _ _ => 0)
  case atStart => exact ⟨rfl, rfl⟩
  case round =>
    obtain ⟨rfl, rfl⟩ := hrel
    go_wp2_with fail
    refine bodyPost_end (v := .tuple #[]) (by simp [results, Try.results174, go_sem]) rfl ⟨rfl, rfl⟩
set_option maxHeartbeats 1000000 in
theorem stable_0 (blk cap : Nat) (cv : Value) (w : World) :
    Calls Try.prog 168 #[.slice (some ⟨blk, 0, none⟩) 0 cap, .int .i64 0, cv] w fun e w' => e = .returned (.tuple #[]) ∧ w' = w := by
  have HI := hideO (insertion_0 blk cap cv w)
  go_enter Try.func168, Try.ntmps168
  go_wp2_with fail
  go_loopw [7, 8] (fun u v wr => u = .int .i64 0 ∧ v = .int .i64 20 ∧ wr = w) (fun _ _ _ => 0)
  case atStart => exact ⟨rfl, rfl, rfl⟩
  case round =>
    obtain ⟨rfl, rfl, rfl⟩ := hrel
    go_wp2_with fail
    refine HI.out.mono ?_
    rintro e w' ⟨rfl, hw⟩
    subst w'
    go_wp2_with fail
    go_loopw [6] (fun u wr2 => u = .int .i64 20 ∧ wr2 = wr) (fun _ _ => 0)
    case atStart => exact ⟨rfl, rfl⟩
    case round =>
      obtain ⟨rfl, hw⟩ := hrel
      subst hw
      go_wp2_with fail
      refine bodyPost_end (v := .tuple #[]) (by simp [results, Try.results168, go_sem]) rfl ⟨rfl, rfl⟩
set_option maxHeartbeats 1000000 in
theorem sortStable_0 (blk cap : Nat) (cv : Value) (w : World) :
    Calls Try.prog 156 #[.slice (some ⟨blk, 0, none⟩) 0 cap, cv] w fun e w' => e = .returned (.tuple #[]) ∧ w' = w := by
  have HS := hideO (stable_0 blk cap cv w)
  go_enter Try.func156, Try.ntmps156
  go_wp2_with fail
  refine HS.out.mono ?_
  rintro e w' ⟨rfl, hw⟩
  subst w'
  go_wp2_with fail
  refine bodyPost_end (v := .tuple #[]) (by simp [results, Try.results156, go_sem]) rfl ⟨rfl, rfl⟩
/-- the sort at the row of all places -/
theorem sort_all (t : ByteArray) (cc blk : Nat) (w : World) (hn : t.size ≤ 1048576) (hB : IsB w blk 3 .i64 t.size (fun j => ((iotaF t.size j : Nat) : Int))) (hcap : Cap w cc t) (hcb : cc < blk) :
    Calls Try.prog 156 #[.slice (some ⟨blk, 0, none⟩) t.size t.size, .func (.func 157) #[] #[.pointer (some ⟨cc, 0, none⟩)]] w fun e w' =>
      e = .returned (.tuple #[]) ∧ blk < w'.heap.size ∧ (∀ j, j < t.size → w'.cell? ⟨blk, j, none⟩ = some (.int .i64 (plF t j : Nat))) ∧ Below blk w w' := by
  by_cases h0 : t.size = 0
  · rw [h0]
    refine (sortStable_0 blk 0 _ w).mono ?_
    rintro e w' ⟨rfl, rfl⟩
    exact ⟨rfl, hB.lt, fun j hj => absurd hj (Nat.not_lt_zero _), Below.refl _ _⟩
  · have hH := holds_isB hB
    have hds : ((List.range t.size).map (iotaF t.size)).toArray.size = t.size := by simp
    have hdf : ∀ i, i < t.size → dF ((List.range t.size).map (iotaF t.size)).toArray i = i := fun i hi => by
      simp [dF, hi, iotaF]
    have hbd : ∀ i, dF ((List.range t.size).map (iotaF t.size)).toArray i < t.size := fun i => by
      by_cases hi : i < t.size
      · rw [hdf i hi]; exact hi
      · rw [dF_out _ _ (by rw [hds]; omega)]; omega
    have := sortStable_I t cc blk t.size _ w hH hB.lt (by rw [hds]; exact hn) hcap (by omega) hbd (fun i hi => hdf i (by rw [hds] at hi; exact hi))
    rw [hds] at this
    refine this.mono ?_
    rintro e w' ⟨rfl, n, d', os, rfl, hs, hp, hr⟩
    refine ⟨rfl, Nat.lt_of_lt_of_le hB.lt (world_size n d' os), fun j hj => ?_, world_below n d' os (Nat.le_refl _) (Nat.le_of_lt hB.lt)⟩
    have hH' := world_holds hH hB.lt n d' os (hs.trans hds.symm)
    have hc := (cells_I hH' (i := j) (by rw [hs]; exact hj)).1
    rw [hc]
    have hseg : (seg (dF d') 0 t.size).Perm (List.range t.size) := by
      have h1 := hp.1
      have e : seg (dF ((List.range t.size).map (iotaF t.size)).toArray) 0 t.size = List.range t.size := by
        unfold seg
        rw [Nat.sub_zero]
        apply List.ext_getElem
        · simp
        · intro i h1 h2
          have h3 : i < t.size := by simpa using h2
          simp only [List.getElem_map, List.getElem_range]
          rw [show (List.range' 0 t.size)[i]'(by simpa using h3) = i by simp]
          exact hdf i h3
      rw [e] at h1
      exact h1
    have := plF_seg hseg hr j hj
    rw [← this]
    rfl

set_option maxRecDepth 100000 in
set_option maxHeartbeats 1000000 in
theorem places_impl (t : ByteArray) (w : World) (hn : t.size ≤ 1048576) :
    Calls Try.prog 134 #[.string t] w fun e w' => ∃ g, e = .returned (.slice (some ⟨g, 0, none⟩) t.size t.size) ∧ w.heap.size ≤ g ∧ g < w'.heap.size ∧ (∀ j, j < t.size → w'.cell? ⟨g, j, none⟩ = some (.int .i64 (plF t j : Nat))) ∧ Below w.heap.size w w' := by
  obtain ⟨i0, hi0, hz0, hz1, hz2⟩ := info_parts Try.infoI3
  obtain ⟨w0, hw0⟩ : ∃ w0, w0 = w.alloc (.cells #[.string t] 9) := ⟨_, rfl⟩
  have z0 : w0.heap.size = w.heap.size + 1 := by rw [hw0]; simp
  have HC0 : Hid (Cap w0 w.heap.size t) := by unfold Hid Cap; rw [hw0, cell_of_row _ w.heap.size 0 _ _ (0, 0) (heap_alloc_last w _)]; rfl
  have HB0 : Hid (Below w.heap.size w w0) := by unfold Hid; rw [hw0]; exact (Below.refl _ _).alloc (Nat.le_refl _) _
  go_enter Try.func134, Try.ntmps134
  go_wp2_with (at_make; rw [← hw0]; refine wpList_make_full _ rfl (.tmp 6) (.tmp 6) 107 rfl w0.heap.size 3 i0 (.int .i64 0) 1 Try.underlying107 hi0 hz0 hz1 .i64 .i64 _ _ t.size rfl rfl (by simp) (by simp) (by rw [hz2]; omega) (by unfold maxLen; omega) (Nat.le_refl _) ?_; intro w1 hown1 hgrow1; have HT1 := hideO (Sh.made_rowK hown1); have hb1 := (Below.refl w0.heap.size w0).grown hgrow1 (Nat.le_refl _) (by simp); have HC1 : Hid (Cap w1 w.heap.size t) := HC0.out.block (hb1.block w.heap.size (by omega)); have HB1 := hideO (HB0.out.trans (hb1.mono (by omega))); have zz1 := HT1.out.lt; clear hown1 hgrow1 hb1)
  go_loopw [10] (fun i wr => ∃ k : Nat, i = .int .i64 k ∧ k ≤ t.size ∧ IsB wr (w.heap.size + 1) 3 .i64 t.size (fun j => ((iotaF k j : Nat) : Int)) ∧ Cap wr w.heap.size t ∧ Below w.heap.size w wr) (fun i _ => t.size - (intOf i).toNat)
  case atStart => exact ⟨0, rfl, Nat.zero_le _, by rw [← z0]; exact HT1.out.congr (fun j _ => by simp [iotaF]), HC1.out, HB1.out⟩
  case round =>
    obtain ⟨k, rfl, hk, hrow, hcap, hbel⟩ := hrel
    have T1 := hideO hrow
    have C1 := hideO hcap
    have GB := hideO hbel
    clear hbel hcap
    by_cases hlt : k < t.size
    · have c2 := hrow.cell (j := k) hlt
      have f2 := hrow.frozen k
      have hkz : (k : Int) < (t.size : Int) := by omega
      have TS := hideO ((hrow.set k (k : Nat)).congr (fun j _ => iotaF_next k j))
      have CS : Hid (Cap (wr.setCell ⟨w.heap.size + 1, k, none⟩ (.int .i64 (k : Nat))) w.heap.size t) := C1.out.block (heap_setCell_other _ _ _ _ (by simp))
      have BS := hideO (GB.out.setCell (p := ⟨w.heap.size + 1, k, none⟩) (by simp) (.int .i64 (k : Nat)))
      clear hrow
      go_wp2_with fail
      go_roundw
      case rel => exact ⟨k + 1, by go_num, by omega, TS.out, CS.out, BS.out⟩
      case measure => simp [intOf]; omega
    · obtain rfl : k = t.size := by omega
      have HS := hideO (sort_all t w.heap.size (w.heap.size + 1) wr hn T1.out C1.out (by omega))
      clear hrow
      go_wp2_with fail
      refine HS.out.mono ?_
      rintro e w2 ⟨rfl, hz, hc, hb⟩
      have HC := hideO hc
      have HB2 := hideO (GB.out.trans (hb.mono (by omega)))
      clear hc hb
      go_wp2_with fail
      go_ret
      exact ⟨_, rfl, by omega, hz, HC.out, HB2.out⟩
end Go.Proofs.Ytmkpakhpjgocjaa.So

/- What the program's Unbwt answers. -/
namespace Go.Proofs.Ytmkpakhpjgocjaa.So
open Go.RowKit Go.Sort Go.Proofs
open Go.Proofs.Ytmkpakhpjgocjaa.Sh (bt bt_get bt_lt strF IsB made_row)

set_option maxRecDepth 100000 in
set_option maxHeartbeats 1000000 in
theorem turnBack_impl (t : ByteArray) (a : Nat) (w : World) (hn : t.size ≤ 1048576) (ha : a < t.size ∨ t.size = 0) :
    Calls Try.prog 100 #[.string t, .int .i64 a] w fun e w' => e = .returned (.string (backT t a)) ∧ Below w.heap.size w w' := by
  obtain ⟨i0, hi0, hz0, hz1, hz2⟩ := info_parts Nu.Try.infoJ5
  have HPL := hideO (places_impl t w hn)
  go_enter Try.func100, Try.ntmps100
  go_wp2_with fail
  refine HPL.out.mono ?_
  rintro e w1 ⟨g, rfl, hg1, hg2, hc, hb1⟩
  have HC := hideO hc
  have HB1 := hideO hb1
  have z1 := hb1.size
  clear hc hb1
  go_wp2_with (at_make; refine wpList_make_full _ rfl (.tmp 12) (.tmp 12) 22 rfl w1.heap.size 5 i0 (.int .u8 0) 1 Try.underlying22 hi0 hz0 hz1 .i64 .i64 _ _ t.size rfl rfl (by simp) (by simp) (by rw [hz2]; omega) (by unfold maxLen; omega) (Nat.le_refl _) ?_; intro w2 hown2 hgrow2; have HT2 := hideO (made_row hown2); have HB2 := hideO ((Below.refl w1.heap.size w1).grown hgrow2 (Nat.le_refl _) (by simp)); clear hown2 hgrow2)
  go_loopw [17, 7] (fun i m wr => ∃ k : Nat, i = .int .i64 k ∧ k ≤ t.size ∧ m = .int .i64 (itR t a k : Nat) ∧ IsB wr w1.heap.size 5 .u8 t.size (fun j => ((fillK t a k j : Nat) : Int)) ∧ Below w1.heap.size w1 wr) (fun i _ _ => t.size - (intOf i).toNat)
  case atStart => exact ⟨0, rfl, Nat.zero_le _, rfl, HT2.out.congr (fun j _ => by simp [fillK]), HB2.out⟩
  case round =>
    obtain ⟨k, rfl, hk, rfl, hrow, hbel⟩ := hrel
    have T1 := hideO hrow
    have GB := hideO hbel
    have hsz := hrow.lt
    clear hbel
    by_cases hlt : k < t.size
    · have hat : a < t.size := by omega
      have hr1 := itR_lt t a k hat
      have hr2 := itR_lt t a (k + 1) hat
      have e0 : itR t a (k + 1) = plF t (itR t a k) := rfl
      have c1 : wr.cell? ⟨g, itR t a k, none⟩ = some (.int .i64 (itR t a (k + 1) : Nat)) := by
        rw [GB.out.cell (p := ⟨g, itR t a k, none⟩) hg2, e0]
        exact HC.out _ hr1
      have HN := hideO (fillK_next t a k)
      obtain ⟨p, hp⟩ : ∃ p, p = itR t a k := ⟨_, rfl⟩
      obtain ⟨q, hq⟩ : ∃ q, q = itR t a (k + 1) := ⟨_, rfl⟩
      have HQ := hideO hq
      rw [← hp, ← hq] at c1
      rw [← hq] at hr2 HN
      rw [← hp] at hr1 ⊢
      have hpz : (p : Int) < (t.size : Int) := by omega
      have hqz : (q : Int) < (t.size : Int) := by omega
      have hkz : (k : Int) < (t.size : Int) := by omega
      obtain ⟨y, hy, hyt⟩ : ∃ y : UInt8, t[q] = y ∧ y.toNat = bt t q := ⟨_, rfl, bt_get _ _ hr2⟩
      rw [← hyt] at HN
      have c2 := hrow.cell (j := k) hlt
      have f2 := hrow.frozen k
      have TS := hideO ((hrow.set k (y.toNat : Nat)).congr (fun j _ => HN.out j))
      have BS := hideO (GB.out.setCell (p := ⟨w1.heap.size, k, none⟩) (Nat.le_refl _) (.int .u8 (y.toNat : Nat)))
      clear hrow hp hq hyt e0 ha
      go_wp2_with fail
      go_roundw
      case rel => exact ⟨k + 1, by go_num, by omega, by rw [← HQ.out], TS.out, BS.out⟩
      case measure => simp [intOf]; omega
    · obtain rfl : k = t.size := by omega
      have hcv := hrow.str (P := Try.prog) (src := 22) (dst := 9) t.size t.size (Nat.le_refl _) (fun j _ => fillK_lt _ _ _ j) Try.underlying22 Try.underlying5 Try.underlying9
      rw [fillK_all] at hcv
      have BZ := hideO (HB1.out.trans (GB.out.mono z1))
      generalize itR t a t.size = m
      clear hrow ha
      go_wp2_with fail
      go_ret
      exact ⟨rfl, BZ.out⟩

set_option maxHeartbeats 1000000 in
theorem isPlace_impl (t : ByteArray) (a : Int) (w : World) :
    Calls Try.prog 99 #[.string t, .int .i64 a] w fun e w' => e = .returned (.bool (!decide (a < 0 ∨ ((t.size : Int) ≤ a ∧ 0 < a)))) ∧ w' = w := by
  by_cases h0 : a = 0
  · subst h0
    rw [decide_eq_false (by omega)]
    go_enter Try.func99, Try.ntmps99
    go_wp2_with fail
    go_ret
    exact ⟨rfl, rfl⟩
  · have hz : (a == 0) = false := beq_eq_false_iff_ne.2 h0
    by_cases h1 : 0 < a
    · have hd : decide (0 < a) = true := decide_eq_true h1
      by_cases h2 : a < (t.size : Int)
      · have hd2 : decide (a < (t.size : Int)) = true := decide_eq_true h2
        rw [decide_eq_false (by omega)]
        clear h0
        go_enter Try.func99, Try.ntmps99
        go_wp2_with fail
        go_ret
        exact ⟨rfl, rfl⟩
      · have hd2 : decide (a < (t.size : Int)) = false := decide_eq_false h2
        rw [decide_eq_true (by omega)]
        clear h0
        go_enter Try.func99, Try.ntmps99
        go_wp2_with fail
        go_ret
        exact ⟨rfl, rfl⟩
    · have hd : decide (0 < a) = false := decide_eq_false h1
      rw [decide_eq_true (by omega)]
      clear h0
      go_enter Try.func99, Try.ntmps99
      go_wp2_with fail
      go_ret
      exact ⟨rfl, rfl⟩
end Go.Proofs.Ytmkpakhpjgocjaa.So
