/- The walk of takeLeast. -/
import Derived.Test.YtmkpakhpjgocjaaCz3
namespace Go.Proofs.Ytmkpakhpjgocjaa.Hf
open Go.RowKit
open Go.Proofs.Ytmkpakhpjgocjaa.In (IsI irow)

/-- all but two blocks is as it was -/
structure Wr (g gl : Nat) (w w' : World) : Prop where
  os : w'.os = w.os
  tape : w'.tape = w.tape
  output : w'.output = w.output
  size : w.heap.size ≤ w'.heap.size
  block : ∀ k, k < w.heap.size → k ≠ g → k ≠ gl → w'.heap[k]? = w.heap[k]?
theorem Wr.refl (g gl : Nat) (w : World) : Wr g gl w w := ⟨rfl, rfl, rfl, Nat.le_refl _, fun _ _ _ _ => rfl⟩
theorem Wr.trans {g gl : Nat} {a b c : World} (h : Wr g gl a b) (k : Wr g gl b c) : Wr g gl a c :=
  ⟨k.os.trans h.os, k.tape.trans h.tape, k.output.trans h.output, Nat.le_trans h.size k.size, fun i hi h1 h2 => (k.block i (Nat.lt_of_lt_of_le hi h.size) h1 h2).trans (h.block i hi h1 h2)⟩
theorem Wr.of {g gl : Nat} {a b : World} (h : Below a.heap.size a b) : Wr g gl a b := ⟨h.os, h.tape, h.output, h.size, fun k hk _ _ => h.block k hk⟩
theorem Wr.more {g gl : Nat} {a b c : World} (h : Wr g gl a b) (k : Below b.heap.size b c) : Wr g gl a c := h.trans (Wr.of k)
theorem Wr.setg {g gl : Nat} {a b : World} (h : Wr g gl a b) (o : Nat) (vs : List Value) : Wr g gl a (b.setCells g o vs) := by
  have hk := World.keptBut_setCells g (may := fun _ => True) vs o b (fun _ _ => trivial)
  induction vs generalizing o b with
  | nil => exact h
  | cons v r ih =>
    refine ih (b := b.setCell ⟨g, o, none⟩ v) ⟨?_, ?_, ?_, ?_, ?_⟩ (o + 1) (World.keptBut_setCells g (may := fun _ => True) r (o + 1) _ (fun _ _ => trivial))
    · exact h.os
    · exact h.tape
    · exact h.output
    · show a.heap.size ≤ (b.setCell ⟨g, o, none⟩ v).heap.size
      simpa [World.setCell] using h.size
    · intro k hk h1 h2
      rw [heap_setCell_other b _ k v h1]
      exact h.block k hk h1 h2
theorem Wr.setl {g gl : Nat} {a b : World} (h : Wr g gl a b) (o : Nat) (v : Value) : Wr g gl a (b.setCell ⟨gl, o, none⟩ v) :=
  ⟨h.os, h.tape, h.output, by simpa [World.setCell] using h.size, fun k hk h1 h2 => by
    rw [heap_setCell_other b _ k v h2]
    exact h.block k hk h1 h2⟩
theorem Wr.new {g gl : Nat} {a b : World} (h : Wr g gl a b) {z : Nat} (hz : a.heap.size ≤ z) (o : Nat) (v : Value) : Wr g gl a (b.setCell ⟨z, o, none⟩ v) :=
  ⟨h.os, h.tape, h.output, by simpa [World.setCell] using h.size, fun k hk h1 h2 => by
    rw [heap_setCell_other b _ k v (by show k ≠ z; omega)]
    exact h.block k hk h1 h2⟩
def up (d : List Nat) : List Int := d.map fun (x : Nat) => (x : Int)
theorem up_length (d : List Nat) : (up d).length = d.length := List.length_map ..
theorem up_at (d : List Nat) (k : Nat) (h : k < d.length) : (up d)[k]'(by rw [up_length]; exact h) = ((d.getD k 0 : Nat) : Int) := by
  unfold up
  rw [List.getElem_map, List.getD_eq_getElem?_getD, List.getElem?_eq_getElem h]
  rfl
theorem up_set (d : List Nat) (k v : Nat) : (up d).set k (v : Int) = up (d.set k v) := by
  unfold up
  rw [List.map_set]
theorem incs_next (d s : List Nat) (j : Nat) (h : j < s.length) : incs d (s.take (j + 1)) = (incs d (s.take j)).set s[j] ((incs d (s.take j)).getD s[j] 0 + 1) := by
  rw [List.take_add_one, List.getElem?_eq_getElem h]
  unfold incs
  rw [List.foldl_append]
  rfl
theorem incs_le (s : List Nat) : ∀ (d : List Nat) (j : Nat), (∀ k ∈ s, k < d.length) → (incs d s).getD j 0 ≤ d.getD j 0 + s.length := by
  unfold incs
  induction s with
  | nil => intro d j _; exact Nat.le_refl _
  | cons k s ih =>
    intro d j hk
    rw [List.foldl_cons]
    have h1 := ih (d.set k (d.getD k 0 + 1)) j (fun x hx => by rw [List.length_set]; exact hk x (List.mem_cons_of_mem _ hx))
    rw [getD_set _ _ _ _ (hk k (List.mem_cons_self ..))] at h1
    rw [List.length_cons]
    split at h1
    · rename_i e
      subst e
      omega
    · omega
theorem sym_one {W : World} {v : Value} {s : List Nat} (h : Sym W v s) : v.oneCell' = true := by
  obtain ⟨g, cap, _, rfl, _⟩ := h
  rfl
theorem first_mt (m : List MT) (hl : least (mt m) m.length < m.length) : (m[least (mt m) m.length]).1 = first (mt m) := by
  unfold first at0
  rw [mt_length, List.getD_eq_getElem?_getD]
  unfold mt
  rw [List.getElem?_map, List.getElem?_eq_getElem (by unfold mt at hl; exact hl)]
  rfl
theorem erase_map : ∀ (m : List MT) (i : Nat), (m.eraseIdx i).map (fun x => x.fst) = (m.map fun x => x.fst).eraseIdx i
  | [], _ => rfl
  | _ :: _, 0 => rfl
  | x :: m, i + 1 => by
    rw [List.eraseIdx_cons_succ, List.map_cons, List.map_cons, List.eraseIdx_cons_succ, erase_map m i]
theorem rest_mt (m : List MT) : mt (m.eraseIdx (least (mt m) m.length)) = rest1 (mt m) := by
  unfold rest1
  rw [mt_length]
  unfold mt
  rw [erase_map]

set_option maxRecDepth 100000 in
set_option maxHeartbeats 2000000 in
theorem take_any (g gl k cap n capl : Nat) (m : List MT) (d : List Nat) (cur : Array Value) (w : World) (hn : m.length = k + 1) (hc : k + 1 ≤ cap) (h257 : k ≤ 256) (hb : w.heap[g]? = some (.cells cur 109 (0, 0))) (hs : cur.size = cap * 2) (ht : cur.toList.take ((k + 1) * 2) = cells m)
    (hy : Syms w m) (hsl : ∀ x ∈ m, x.1.2.length ≤ 257) (hlt : ∀ x ∈ m, ∀ s ∈ x.1.2, s < d.length) (hd : IsI w gl 2 (up d)) (hdn : d.length = n) (hdm : ∀ j, d.getD j 0 ≤ 3000000) (x : MT) (hx : m[least (mt m) (k + 1)]? = some x) :
    Calls Try.prog 124 #[.slice (some ⟨g, 0, none⟩) (k + 1) cap, .slice (some ⟨gl, 0, none⟩) n capl] w fun e w' =>
      e = .returned (.tuple #[.agg #[.int .i64 (x.1.1 : Nat), x.2], .slice (some ⟨g, 0, none⟩) k cap]) ∧ (∃ cur' : Array Value, w'.heap[g]? = some (.cells cur' 109 (0, 0)) ∧ cur'.size = cap * 2 ∧ cur'.toList.take (k * 2) = cells (m.eraseIdx (least (mt m) (k + 1)))) ∧ IsI w' gl 2 (up (incs d x.1.2)) ∧ Wr g gl w w' := by
  have hgl : g ≠ gl := by
    rintro rfl
    have := hd
    unfold IsI at this
    rw [hb] at this
    simp at this
  obtain ⟨hal, hxe⟩ := List.getElem?_eq_some_iff.1 hx
  have hle := least_le (mt m) (k + 1)
  have HDL := hideH (fun (W : World) (cur' : Array Value) h1 h2 h3 h4 => delete_any g k cap (least (mt m) (k + 1)) m cur' W hn (by omega) hc (by omega) h1 h2 h3 h4)
  have HGO := hideH (fun (cur' : Array Value) h1 h2 => gone_list cur' m (k + 1) cap (least (mt m) (k + 1)) hn (by omega) hc h1 h2 (.int .i64 0) (.slice none 0 0))
  have HER : Hid ((m.eraseIdx (least (mt m) (k + 1))).length = k) := by
    unfold Hid
    rw [List.length_eraseIdx, if_pos hal, hn]
    omega
  have HLE := hideH (fun (W : World) (h : Below w.heap.size w W) => least_any g (k + 1) cap m cur _ W hn (by omega) (by omega) ((h.block g (lt_row hb)).trans hb) (by rw [hn]; exact ht))
  have HROW := hideH (fun (W : World) (h : W.heap[g]? = some (.cells cur 109 (0, 0))) => row_at (m := m) h (by rw [hn]; exact ht) _ hal)
  rw [hxe] at HROW
  have hxm : x ∈ m := by rw [← hxe]; exact List.getElem_mem hal
  have HO1 := hideH (fun (y : MT) (hy' : y ∈ m) => sym_one (hy y hy'))
  have hsx := hy x hxm
  have hxl := hsl x hxm
  have hxt := hlt x hxm
  have HHT := hideH ht
  have HHS := hideH hs
  generalize least (mt m) (k + 1) = at_ at HDL HGO HER HLE HROW hle ⊢
  clear hx hxe hal hxm hsl hlt hy ht hs hn
  obtain ⟨⟨xw, xs⟩, xv⟩ := x
  simp only at HROW hsx hxl hxt ⊢
  obtain ⟨gs, cs, sc, rfl, hgs, hsc, hsv⟩ := hsx
  have hgsl : gs ≠ gl := by
    rintro rfl
    have := hd
    unfold IsI at this
    rw [hgs] at this
    simp at this
  have hdl := hd.lt
  have hgsz := lt_row hgs
  have hgz := lt_row hb
  have HXT := hideH hxt
  have HDN := hideH hdn
  have HDM := hideH hdm
  have HIN := hideH (fun j => incs_le (xs.take j) d)
  have HSV := hideH hsv
  obtain ⟨sl, hsl⟩ : ∃ sl, sl = xs.length := ⟨_, rfl⟩
  have HSL := hideH hsl
  rw [← hsl] at hxl hsc HROW ⊢
  clear hsl hxt hdn hdm hsv
  go_enter Try.func124, Try.ntmps124
  go_wp2_with fail
  have HB0 := hideH ((Below.refl w.heap.size w).alloc (Nat.le_refl _) (.cells #[.int .i64 0, .slice none 0 0] 109))
  refine (HLE.out _ HB0.out).mono ?_
  rintro e w1 ⟨rfl, hb1⟩
  have hz1 : w.heap.size + 1 ≤ w1.heap.size := by have := hb1.size; simpa using this
  have HB1 := hideH (HB0.out.trans (hb1.mono (by simp)))
  have HR1 : Hid (w1.heap[w.heap.size]? = some (.cells #[.int .i64 0, .slice none 0 0] 109 (0, 0))) := (hb1.block w.heap.size (by simp)).trans (heap_alloc_new w _)
  have HG1 := hideH ((HB1.out.block g hgz).trans hb)
  obtain ⟨r0, r1⟩ := HROW.out w1 HG1.out
  have ga : (at_ : Int) < (k : Int) + 1 := by omega
  clear hb1
  go_wp2_with fail
  have HW2 := hideH (show Below w1.heap.size w1 (w1.alloc (.cells #[.int .i64 (xw : Nat), .slice (some ⟨gs, 0, none⟩) sl cs] 109)) from (Below.refl _ _).alloc (Nat.le_refl _) _)
  have HR2 := hideH ((HW2.out.block w.heap.size (by omega)).trans HR1.out)
  have HG2 := hideH ((HW2.out.block g (by omega)).trans HG1.out)
  have HV2 : Hid ((w1.alloc (.cells #[.int .i64 (xw : Nat), .slice (some ⟨gs, 0, none⟩) sl cs] 109)).heap[w1.heap.size]? = some (.cells #[.int .i64 (xw : Nat), .slice (some ⟨gs, 0, none⟩) sl cs] 109 (0, 0))) := heap_alloc_new w1 _
  have HS2 := hideH ((HW2.out.block gs (by omega)).trans ((HB1.out.block gs hgsz).trans hgs))
  have HD2 : Hid (IsI (w1.alloc (.cells #[.int .i64 (xw : Nat), .slice (some ⟨gs, 0, none⟩) sl cs] 109)) gl 2 (up d)) := (hd.below HB1.out hdl).below HW2.out (by omega)
  have HB2 := hideH (HB1.out.trans (HW2.out.mono (by omega)))
  have hz2 : (w1.alloc (.cells #[.int .i64 (xw : Nat), .slice (some ⟨gs, 0, none⟩) sl cs] 109)).heap.size = w1.heap.size + 1 := by simp
  generalize w1.alloc (.cells #[.int .i64 (xw : Nat), .slice (some ⟨gs, 0, none⟩) sl cs] 109) = w2 at HW2 HR2 HG2 HV2 HS2 HD2 HB2 hz2 ⊢
  have HD0 : Hid (IsI w2 gl 2 (up (incs d (xs.take 0)))) := HD2.out
  clear r0 r1 hd hb hgs HLE
  go_loopw [19, 9] (fun iv _ wr => ∃ j : Nat, iv = .int .i64 j ∧ j ≤ sl ∧ IsI wr gl 2 (up (incs d (xs.take j))) ∧ Wr gl gl w2 wr) (fun iv _ _ => sl - (intOf iv).toNat)
  case atStart => exact ⟨0, rfl, Nat.zero_le _, HD0.out, Wr.refl _ _ _⟩
  case round =>
    obtain ⟨j, rfl, hj, hdj, hwr⟩ := hrel
    have HDJ := hideH hdj
    have HWR := hideH hwr
    clear hdj hwr
    by_cases hlt : j < sl
    · have hjx : j < xs.length := by rw [← HSL.out]; exact hlt
      have cs0 : wr.cell? ⟨gs, j, none⟩ = some (.int .i64 (xs[j] : Nat)) := (cell_of_row wr gs j _ _ _ ((HWR.out.block gs (by omega) hgsl hgsl).trans HS2.out)).trans (HSV.out j hjx)
      have hsy := HXT.out xs[j] (List.getElem_mem hjx)
      have HNX := hideH (incs_next d xs j hjx)
      have HBD := hideH (HIN.out j xs[j] (fun s hs => HXT.out s (List.mem_of_mem_take hs)))
      have HBM := hideH (HDM.out xs[j])
      generalize xs[j] = sy at cs0 hsy HNX HBD HBM
      have hlen : sy < (incs d (xs.take j)).length := by rw [incs_length]; exact hsy
      have cl0 : wr.cell? ⟨gl, sy, none⟩ = some (.int .i64 (((incs d (xs.take j)).getD sy 0 : Nat) : Int)) := by
        rw [HDJ.out.cell (j := sy) (by rw [up_length]; exact hlen), up_at _ _ hlen]
      have zl0 := HDJ.out.frozen sy
      have hsn : (sy : Int) < n := by have := HDN.out; omega
      have HTL : Hid ((xs.take j).length ≤ 257) := by
        unfold Hid
        rw [List.length_take]
        omega
      obtain ⟨dv, hdv⟩ : ∃ dv, dv = (incs d (xs.take j)).getD sy 0 := ⟨_, rfl⟩
      have hdvb : dv ≤ 3000257 := by have h1 := HBD.out; have h2 := HBM.out; have h3 := HTL.out; omega
      have HDV := hideH hdv
      rw [← hdv] at cl0
      clear hdv hjx hsy hlen HBD HBM HTL
      go_wp2_with fail
      go_roundw
      case rel =>
        refine ⟨j + 1, by go_num, by omega, ?_, HWR.out.setl _ _⟩
        have := HDJ.out.set sy ((dv : Int) + 1)
        rw [HNX.out, ← HDV.out, ← up_set]
        exact this
      case measure => simp [intOf]; omega
    · obtain rfl : j = sl := by omega
      have HDE : Hid (IsI wr gl 2 (up (incs d xs))) := by
        have := HDJ.out
        rw [HSL.out, List.take_length] at this
        exact this
      have hzw := HWR.out.size
      have HV := hideH ((HWR.out.block w1.heap.size (by omega) (by omega) (by omega)).trans HV2.out)
      have HR := hideH ((HWR.out.block w.heap.size (by omega) (by omega) (by omega)).trans HR2.out)
      have HG := hideH ((HWR.out.block g (by omega) hgl hgl).trans HG2.out)
      have HWW : Hid (Wr g gl w wr) := ⟨HWR.out.os.trans HB2.out.os, HWR.out.tape.trans HB2.out.tape, HWR.out.output.trans HB2.out.output, by omega, fun b h1 h2 h3 => (HWR.out.block b (by omega) h3 h3).trans (HB2.out.block b h1)⟩
      have c70 : wr.cell? ⟨w1.heap.size, 0, none⟩ = some (.int .i64 (xw : Nat)) := cell_of_row wr _ 0 _ _ _ HV.out
      have c71 : wr.cell? ⟨w1.heap.size, 1, none⟩ = some (.slice (some ⟨gs, 0, none⟩) j cs) := cell_of_row wr _ 1 _ _ _ HV.out
      have HK : Hid (∀ w5 : World, w5 = (wr.drew.drew.setCells g (0 + at_ * 2) (cells (m.drop (at_ + 1)))).setCells g (k * 2) [.int .i64 0, .slice none 0 0] → Wr g gl wr w5 ∧ ∃ cur' : Array Value, w5.heap[g]? = some (.cells cur' 109 (0, 0)) ∧ cur'.size = cap * 2 ∧ cur'.toList.take (k * 2) = cells (m.eraseIdx at_)) := by
        rintro w5 rfl
        refine ⟨((Wr.of (show Below wr.heap.size wr wr.drew.drew from (Below.refl _ _).drew.drew)).setg _ _).setg _ _, _, lays_heap g _ _ _ _ _ (lays_heap g _ _ _ _ _ HG.out), by rw [lays_size, lays_size]; exact HHS.out, ?_⟩
        have := HGO.out cur HHS.out HHT.out
        rw [HER.out, Nat.add_sub_cancel] at this
        rw [Nat.zero_add]
        exact this
      have HKE : Hid (∀ w5 : World, Wr g gl wr w5 → w5.heap[w.heap.size]? = some (.cells #[.int .i64 0, .slice none 0 0] 109 (0, 0)) ∧ w5.heap[w1.heap.size]? = some (.cells #[.int .i64 (xw : Nat), .slice (some ⟨gs, 0, none⟩) j cs] 109 (0, 0))) := fun w5 h =>
        ⟨(h.block w.heap.size (by omega) (by omega) (by omega)).trans HR.out, (h.block w1.heap.size (by omega) (by omega) (by omega)).trans HV.out⟩
      have HDK : Hid (∀ w5 : World, Wr g g wr w5 → IsI w5 gl 2 (up (incs d xs))) := fun w5 h => by
        unfold IsI
        rw [h.block gl (by omega) (fun e => hgl e.symm) (fun e => hgl e.symm)]
        exact HDE.out
      have HKG : Hid (∀ w5 : World, w5 = (wr.drew.drew.setCells g (0 + at_ * 2) (cells (m.drop (at_ + 1)))).setCells g (k * 2) [.int .i64 0, .slice none 0 0] → Wr g g wr w5) := by
        rintro w5 rfl
        exact ((Wr.of (show Below wr.heap.size wr wr.drew.drew from (Below.refl _ _).drew.drew)).setg _ _).setg _ _
      have ga1 : IntKind.i64.wrap ((at_ : Int) + 1) = (at_ : Int) + 1 := by rw [IntKind.wrap_i64]; omega
      clear HDJ HGO HER HXT HIN HSV HROW HV2 HR2 HG2 HS2 HD2 HD0 HB0 HB1 HR1 HG1 HW2
      go_wp2_with fail
      go_region_with (first | (go_at_call 147; (with_reducible refine (HDL.out _ cur ?_ HHS.out HHT.out HO1.out).mono ?_); (· exact HG.out); rintro e w5 ⟨rfl, hw5⟩; obtain ⟨hw5a, cur', hg5, hs5, ht5⟩ := HK.out w5 hw5; have HWA := hideH hw5a; have HG5 := hideH hg5; have HS5 := hideH hs5; have HT5 := hideH ht5; have HD5 := hideH (HDK.out w5 (HKG.out w5 hw5)); obtain ⟨hr5, hv5⟩ := HKE.out w5 hw5a; have c00 := cell_of_row w5 _ 0 _ _ _ hr5; have c01 := cell_of_row w5 _ 1 _ _ _ hr5; have z00 := frozen_of_row w5 _ 0 _ _ hr5; have z01 := frozen_of_row w5 _ 1 _ _ hr5; have d70 := cell_of_row w5 _ 0 _ _ _ hv5; have d71 := cell_of_row w5 _ 1 _ _ _ hv5; simp at c00 c01 d70 d71; clear hw5 hw5a hg5 hs5 ht5 hr5 hv5))
      all_goals (try go_wp2_with fail)
      all_goals exact bodyPost_ret (v := .tuple #[.agg #[.int .i64 (xw : Nat), .slice (some ⟨gs, 0, none⟩) j cs], .slice (some ⟨g, 0, none⟩) k cap]) (by simp [results, Try.results124, go_sem, c00, c01]) rfl ⟨rfl, ⟨cur', by rw [heap_setCell_other _ _ _ _ (by show g ≠ w.heap.size; omega), heap_setCell_other _ _ _ _ (by show g ≠ w.heap.size; omega)]; exact HG5.out, HS5.out, HT5.out⟩, (HD5.out.set_other _ _ (by show gl ≠ w.heap.size; omega)).set_other _ _ (by show gl ≠ w.heap.size; omega), ((HWW.out.trans HWA.out).new (Nat.le_refl _) _ _).new (Nat.le_refl _) _ _⟩
end Go.Proofs.Ytmkpakhpjgocjaa.Hf
