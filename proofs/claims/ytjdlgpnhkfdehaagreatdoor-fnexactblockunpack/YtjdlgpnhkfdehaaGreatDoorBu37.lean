/- Texts put together: GetNext, GetSpec2, GetTop3, OrdSpec. -/
import Derived.Test.YtjdlgpnhkfdehaaGreatDoorBu16
import Derived.Test.YtjdlgpnhkfdehaaGreatDoorBu23
import Derived.Test.YtjdlgpnhkfdehaaGreatDoorBu24
import Derived.BigRegion
import Derived.Test.YtjdlgpnhkfdehaaGreatDoorBu25
import Derived.Test.YtjdlgpnhkfdehaaGreatDoorBu14
import Derived.Test.YtjdlgpnhkfdehaaGreatDoorBu31
/- The walk of the specification's look for the next symbol. -/
namespace Go.Proofs.YtjdlgpnhkfdehaaGreatDoor.Bi
open Go.RowKit
open Go.Proofs.YtjdlgpnhkfdehaaGreatDoor.St (IsS Strs)
def wthK (l : List Int) (t : ByteArray) (k : Nat) : Bool := (List.range k).any fun i => decide (0 < l.getD i 0) && Lib.hasPrefix (codeOf l i).data.toList t.data.toList
theorem wthK_next (l : List Int) (t : ByteArray) (k : Nat) : wthK l t (k + 1) = (wthK l t k || (decide (0 < l.getD k 0) && Lib.hasPrefix (codeOf l k).data.toList t.data.toList)) := by
  unfold wthK
  rw [List.range_succ, List.any_append, List.any_cons, List.any_nil, Bool.or_false]
def nxt (l : List Int) (t : ByteArray) : Int := match sym l t with
  | some i => (i : Int)
  | none => if wth l t = true then -2 else -1
theorem toList_beq {x y : ByteArray} : (x.toList == y.toList) = true ↔ x = y := by
  rw [beq_iff_eq, ByteArray.toList_eq, ByteArray.toList_eq]
  constructor
  · intro h
    have h2 : x.data = y.data := Array.toList_inj.1 h
    cases x; cases y; simp at h2; rw [h2]
  · intro h; rw [h]
theorem pre_no {c t : ByteArray} (h : c.size ≤ t.size) (hne : ¬ t.extract 0 c.size = c) : Lib.hasPrefix c.data.toList t.data.toList = false := by
  rw [← Lib.hasPrefix_raw]
  by_cases hs : t.size ≤ c.size
  · rw [decide_eq_true hs, Bool.true_and]
    cases hb : ((c.extract 0 t.size).toList == t.toList) with
    | false => rfl
    | true =>
      have h1 := toList_beq.1 hb
      have h2 : t.size = c.size := by omega
      rw [h2, ByteArray.extract_zero_size] at h1
      exact absurd (by rw [h1]; exact ByteArray.extract_zero_size) hne
  · rw [decide_eq_false hs, Bool.false_and]
theorem pre_is {c t : ByteArray} (h : t.size < c.size) : ((c.extract 0 t.size).toList == t.toList) = Lib.hasPrefix c.data.toList t.data.toList := by
  rw [← Lib.hasPrefix_raw, decide_eq_true (by omega), Bool.true_and]
set_option maxRecDepth 100000 in
set_option maxHeartbeats 2000000 in
theorem next_spec (l : List Int) (t : ByteArray) (p : Nat) (x : Option Addr) (cap B : Nat) (w : World) (hs : Strs w B x (codesV l)) (hr : right l = true) (hp : p ≤ t.size) (ht : t.size ≤ 8000) :
    Calls Tryz.prog 224 #[.slice x l.length cap, .string t, .int .i64 p] w fun e w' => e = .returned (.int .i64 (nxt l (rst t p))) ∧ w' = w := by
  have hok := (within_yes (right_yes hr).1).2
  have hcs := (right_yes hr).2
  have hn := (within_yes (right_yes hr).1).1
  have HS := hideB hs
  have HK := hideB hok
  have HSO := hideB (fun (i : Nat) (h : mt l (rst t p) i) => sym_of hcs hok h)
  have HSN := hideB (fun (h : ∀ i, ¬ mt l (rst t p) i) => sym_none h)
  have HCL := hideB (codesV_length l)
  clear hs hok hcs hr
  obtain ⟨n, hln⟩ : ∃ n, n = l.length := ⟨_, rfl⟩
  have HLN := hideB hln
  rw [← hln] at hn HCL ⊢
  clear hln
  obtain ⟨r, hrr⟩ : ∃ r, r = rst t p := ⟨_, rfl⟩
  have hre : t.extract p t.size = r := hrr.symm
  have hrz : r.size ≤ 8000 := by rw [hrr, rst_size]; omega
  obtain ⟨rs, hrs⟩ : ∃ rs, rs = nxt l (rst t p) := ⟨_, rfl⟩
  have HRS := hideB hrs
  rw [← hrs]
  rw [← hrr] at HRS HSO HSN
  clear hrr hrs
  have hpi : (p : Int) ≤ t.size := by omega
  go_enter Tryz.func224, Tryz.ntmps224
  go_wp2_with fail
  go_loopw [9, 8] (fun i b wr => ∃ (k : Nat) (wb : Bool), i = .int .i64 k ∧ b = .bool wb ∧ k ≤ n ∧ wb = wthK l r k ∧ (∀ j, j < k → ¬ mt l r j) ∧ wr = w) (fun i _ _ => n - (intOf i).toNat)
  case atStart => exact ⟨0, false, rfl, rfl, Nat.zero_le _, rfl, fun j hj => absurd hj (Nat.not_lt_zero j), rfl⟩
  case round =>
    obtain ⟨k, wb, rfl, rfl, hk, hwb, hall, hw⟩ := hrel
    subst hw
    have HWB := hideB hwb
    have HA := hideB hall
    clear hwb hall
    by_cases hlt : k < n
    · have hkl : k < l.length := by rw [← HLN.out]; exact hlt
      have hkv : k < (codesV l).length := by rw [HCL.out]; exact hlt
      obtain ⟨b, off, rfl, hb, hc⟩ := HS.out.some (by omega)
      have ci := hc k hkv
      rw [codes_get l HK.out k hkv] at ci
      have HNX := hideB (wthK_next l r k)
      have HNONE := hideB (codeOf_none l k)
      have HSZ := hideB (codeOf_size l k)
      have hcl := codeOf_le l HK.out k
      have HMT : Hid (mt l r k ↔ 0 < l.getD k 0 ∧ wd l k ≤ r.size ∧ r.extract 0 (wd l k) = codeOf l k) := ⟨fun h => h.2, fun h => ⟨hkl, h⟩⟩
      rw [show (l.getD k 0).toNat = wd l k from rfl] at HSZ
      rw [← HSZ.out] at HMT
      obtain ⟨c, hcc⟩ : ∃ c, c = codeOf l k := ⟨_, rfl⟩
      rw [← hcc] at ci HNX HNONE hcl HMT
      have HS2 : Hid (c.size = wd l k) := by
        unfold Hid
        rw [hcc]
        exact HSZ.out
      clear hc hcc HSZ
      by_cases h0 : 0 < l.getD k 0
      · have hne : c.toList.isEmpty = false := nonempty c (by rw [HS2.out]; unfold wd; omega)
        rw [decide_eq_true h0, Bool.true_and] at HNX
        by_cases hge : c.size ≤ r.size
        · have hgi : (c.size : Int) ≤ r.size := by omega
          by_cases hm : r.extract 0 c.size = c
          · have hbq : ((r.extract 0 c.size).toList == c.toList) = true := toList_beq.2 hm
            have HE : Hid (rs = (k : Int)) := by
              unfold Hid
              rw [HRS.out]
              unfold nxt
              rw [HSO.out k (HMT.out.2 ⟨h0, hge, hm⟩)]
            clear hm h0
            go_wp2_with fail
            go_ret
            exact ⟨by rw [HE.out]; rfl, rfl⟩
          · have hbq : ((r.extract 0 c.size).toList == c.toList) = false := by
              cases hq : ((r.extract 0 c.size).toList == c.toList) with
              | false => rfl
              | true => exact absurd (toList_beq.1 hq) hm
            have HNO : Hid (∀ j, j < k + 1 → ¬ mt l r j) := fun j hj hmj => by
              by_cases e : j = k
              · subst e; exact hm (HMT.out.1 hmj).2.2
              · exact HA.out j (by omega) hmj
            have HW2 : Hid (wb = wthK l r (k + 1)) := by
              unfold Hid
              rw [HNX.out, pre_no hge hm, Bool.or_false]
              exact HWB.out
            have hlf : decide ((r.size : Int) < c.size) = false := decide_eq_false (by omega)
            clear hm h0
            cases wb with
            | true =>
              go_wp2_with fail
              go_roundw
              case rel => exact ⟨k + 1, true, by go_num, rfl, by omega, HW2.out, HNO.out, trivial⟩
              case measure => simp [intOf]; omega
            | false =>
              go_wp2_with fail
              go_roundw
              case rel => exact ⟨k + 1, false, by go_num, rfl, by omega, HW2.out, HNO.out, trivial⟩
              case measure => simp [intOf]; omega
        · have hgi : decide ((c.size : Int) ≤ r.size) = false := decide_eq_false (by omega)
          have hlt' : (r.size : Int) < c.size := by omega
          have hri : (r.size : Int) ≤ c.size := by omega
          have HNO : Hid (∀ j, j < k + 1 → ¬ mt l r j) := fun j hj hmj => by
            by_cases e : j = k
            · subst e; exact hge (HMT.out.1 hmj).2.1
            · exact HA.out j (by omega) hmj
          have hbq := pre_is (c := c) (t := r) (by omega)
          have HW2 : Hid ((wb || Lib.hasPrefix c.data.toList r.data.toList) = wthK l r (k + 1)) := by
            unfold Hid
            rw [HNX.out, HWB.out]
          generalize Lib.hasPrefix c.data.toList r.data.toList = pb at hbq HW2
          clear h0
          cases wb with
          | true =>
            go_wp2_with fail
            go_roundw
            case rel => exact ⟨k + 1, true, by go_num, rfl, by omega, HW2.out, HNO.out, trivial⟩
            case measure => simp [intOf]; omega
          | false =>
            cases pb with
            | true =>
              go_wp2_with fail
              go_roundw
              case rel => exact ⟨k + 1, true, by go_num, rfl, by omega, HW2.out, HNO.out, trivial⟩
              case measure => simp [intOf]; omega
            | false =>
              go_wp2_with fail
              go_roundw
              case rel => exact ⟨k + 1, false, by go_num, rfl, by omega, HW2.out, HNO.out, trivial⟩
              case measure => simp [intOf]; omega
      · have hce := HNONE.out h0
        have HNO : Hid (∀ j, j < k + 1 → ¬ mt l r j) := fun j hj hmj => by
          by_cases e : j = k
          · subst e; exact h0 (HMT.out.1 hmj).1
          · exact HA.out j (by omega) hmj
        have HW2 : Hid (wb = wthK l r (k + 1)) := by
          unfold Hid
          rw [HNX.out, decide_eq_false h0, Bool.false_and, Bool.or_false]
          exact HWB.out
        subst hce
        clear h0
        go_wp2_with fail
        go_roundw
        case rel => exact ⟨k + 1, wb, by go_num, rfl, by omega, HW2.out, HNO.out, trivial⟩
        case measure => simp [intOf]; omega
    · obtain rfl : k = n := by omega
      have HSY : Hid (sym l r = none) := HSN.out (fun i hm => HA.out i (by rw [HLN.out]; exact hm.1) hm)
      have HWT : Hid (wb = wth l r) := by
        unfold Hid
        rw [HWB.out, HLN.out]
        rfl
      cases wb with
      | true =>
        have HE : Hid (rs = -2) := by
          unfold Hid
          rw [HRS.out]
          unfold nxt
          rw [HSY.out]
          simp only [← HWT.out, if_true]
        go_wp2_with fail
        go_ret
        exact ⟨by rw [HE.out]; rfl, rfl⟩
      | false =>
        have HE : Hid (rs = -1) := by
          unfold Hid
          rw [HRS.out]
          unfold nxt
          rw [HSY.out]
          simp only [← HWT.out]
          rfl
        go_wp2_with fail
        go_ret
        exact ⟨by rw [HE.out]; rfl, rfl⟩
end Go.Proofs.YtjdlgpnhkfdehaaGreatDoor.Bi


/- The walk of the specification's CodeGet. -/
namespace Go.Proofs.YtjdlgpnhkfdehaaGreatDoor.Bi
open Go.RowKit
open Go.Proofs.YtjdlgpnhkfdehaaGreatDoor.In (Ints IsI OwnIn OwnI one_newI one_cellI)
open Go.Proofs.YtjdlgpnhkfdehaaGreatDoor.St (IsS Strs)
def OutV (w : World) (g : Nat) (v : Value) (p : Int) : Prop := w.heap[g]? = some (.cells #[v, .int .i64 p, .int .i64 0] 139 (0, 0))
theorem OutV.c0 {w : World} {g : Nat} {v : Value} {p : Int} (h : OutV w g v p) : w.cell? ⟨g, 0, none⟩ = some v := (cell_of_row w g 0 _ _ _ h).trans rfl
theorem OutV.c1 {w : World} {g : Nat} {v : Value} {p : Int} (h : OutV w g v p) : w.cell? ⟨g, 1, none⟩ = some (.int .i64 p) := (cell_of_row w g 1 _ _ _ h).trans rfl
theorem OutV.c2 {w : World} {g : Nat} {v : Value} {p : Int} (h : OutV w g v p) : w.cell? ⟨g, 2, none⟩ = some (.int .i64 0) := (cell_of_row w g 2 _ _ _ h).trans rfl
theorem OutV.fr {w : World} {g : Nat} {v : Value} {p : Int} (h : OutV w g v p) (j : Nat) : w.frozen? ⟨g, j, none⟩ = false := frozen_of_row w g j _ _ h
theorem OutV.lt {w : World} {g : Nat} {v : Value} {p : Int} (h : OutV w g v p) : g < w.heap.size := (Array.getElem?_eq_some_iff.1 h).1
theorem OutV.of_heap {w w' : World} {g : Nat} {v : Value} {p : Int} (h : OutV w g v p) (e : w'.heap[g]? = w.heap[g]?) : OutV w' g v p := by unfold OutV; rw [e]; exact h
theorem OutV.set0 {w : World} {g : Nat} {v : Value} {p : Int} (h : OutV w g v p) (v' : Value) : OutV (w.setCell ⟨g, 0, none⟩ v') g v' p := by unfold OutV; rw [heap_setCell_same w g 0 _ _ _ h]; rfl
theorem OutV.set1 {w : World} {g : Nat} {v : Value} {p : Int} (h : OutV w g v p) (q : Int) : OutV (w.setCell ⟨g, 1, none⟩ (.int .i64 q)) g v q := by unfold OutV; rw [heap_setCell_same w g 1 _ _ _ h]; rfl
theorem ownI_set {w : World} {base : Nat} {v : Value} {l : List Int} (h : OwnI w base v l) (a : Addr) (x : Value) (ha : a.block < base) : OwnI (w.setCell a x) base v l := by
  obtain ⟨hl, h⟩ := h
  refine ⟨hl, ?_⟩
  rcases h with h | ⟨g, cap, cur, hv, hg, hb, rest⟩
  · exact .inl h
  · exact .inr ⟨g, cap, cur, hv, hg, by rw [heap_setCell_other w a g x (by omega)]; exact hb, rest⟩
theorem ownI_alloc {w : World} {base : Nat} {v : Value} {l : List Int} (h : OwnI w base v l) (o : Obj) : OwnI (w.alloc o) base v l := World.ownsRow.alloc h o
theorem in_mono {w : World} {lo hi lo' hi' : Nat} {v : Value} {l : List Int} (h : OwnIn w lo hi v l) (h1 : lo' ≤ lo) (h2 : hi ≤ hi') : OwnIn w lo' hi' v l := by
  rcases h with h | ⟨g, cap, hv, hg, hh, ho⟩
  · exact .inl h
  · exact .inr ⟨g, cap, hv, by omega, by omega, ho⟩
theorem nxt_some {l : List Int} {t : ByteArray} {i : Nat} (h : sym l t = some i) : nxt l t = (i : Int) := by unfold nxt; rw [h]
theorem nxt_short {l : List Int} {t : ByteArray} (h : sym l t = none) (hw : wth l t = true) : nxt l t = -2 := by unfold nxt; rw [h]; simp only [hw, if_true]
theorem nxt_none {l : List Int} {t : ByteArray} (h : sym l t = none) (hw : wth l t = false) : nxt l t = -1 := by unfold nxt; rw [h]; simp only [hw]; rfl
set_option maxRecDepth 100000 in
set_option maxHeartbeats 2000000 in
theorem l04Get_any (l : List Int) (t : ByteArray) (m : Nat) (a : Option Addr) (cap : Nat) (w : World) (hl : Ints w w.heap.size a l) (h8 : t.size ≤ 8000) (hr : right l = true) (hm : m ≤ 400) :
    Calls Tryz.prog 178 #[.slice a l.length cap, .string t, .int .i64 m] w fun e w' => ∃ v, e = .returned (.agg #[v, .int .i64 (outS (st l t m)).2.1, .int .i64 (outS (st l t m)).2.2]) ∧ OwnIn w' w.heap.size w'.heap.size v (outS (st l t m)).1 ∧ Below w.heap.size w w' := by
  obtain ⟨i0, hi0, hz0, hz1, hz2⟩ := info_parts Tryz.infoG2
  obtain ⟨W0, hW0⟩ : ∃ W0, W0 = w.alloc (.cells #[.slice none 0 0, .int .i64 0, .int .i64 0] 139) := ⟨_, rfl⟩
  have z0 : W0.heap.size = w.heap.size + 1 := by rw [hW0]; simp
  have B0 := hideB (show Below w.heap.size w W0 by rw [hW0]; exact (Below.refl _ _).alloc (Nat.le_refl _) _)
  have O0 := hideB (show Out0 W0 w.heap.size by rw [hW0]; exact Out0.new w)
  have HCO := hideB (codes_spec l a cap W0.heap.size W0 ((hl.below B0.out).mono B0.out.size) (Nat.le_refl _) hr)
  have HL := hideB hl
  have HR := hideB hr
  have hn := (within_yes (right_yes hr).1).1
  clear hl hr
  obtain ⟨n, hln⟩ : ∃ n, n = l.length := ⟨_, rfl⟩
  have HLN := hideB hln
  rw [← hln] at hn HCO ⊢
  clear hln
  go_enter Tryz.func178, Tryz.ntmps178
  go_wp2_with fail
  rw [← hW0]
  have HW0 := hideB hW0
  clear hW0
  refine HCO.out.mono ?_
  rintro e w1 ⟨rfl, hx1, hb1⟩
  have X1 := hideB hx1
  have B1 := hideB (B0.out.trans (hb1.mono (by omega)))
  have O1 := hideB (O0.out.below hb1 (by omega))
  have z1 : W0.heap.size < w1.heap.size := hx1.lt
  clear hx1 hb1
  obtain ⟨b, hb⟩ : ∃ b, b = W0.heap.size := ⟨_, rfl⟩
  rw [← hb] at z0 z1 X1 ⊢
  have zb : w.heap.size < b := by omega
  clear hb HW0 O0 B0 z0 HCO
  go_wp2_with fail
  go_loopw [2] (fun mv wr => ∃ (k p : Nat) (xs : List Int) (v : Value), mv = .int .i64 ((m : Int) - k) ∧ k ≤ m ∧ st l t k = .inr (xs, p) ∧ OutV wr w1.heap.size v p ∧ OwnI wr (w1.heap.size + 1) v xs ∧ IsS wr b 9 (codesV l) ∧ Out0 wr w.heap.size ∧ Below w.heap.size w wr ∧ w1.heap.size < wr.heap.size) (fun mv _ => (intOf mv).toNat)
  case atStart => exact ⟨0, 0, [], .slice none 0 0, by go_num, Nat.zero_le _, rfl, heap_alloc_last w1 _, OwnI.nil _ _, X1.out.of_heapS (Below.heap_alloc w1 _ b z1), O1.out.below ((Below.refl w1.heap.size w1).alloc (Nat.le_refl _) _) (by omega), B1.out.alloc B1.out.size _, by simp⟩
  case round =>
    obtain ⟨k, p, xs, v, rfl, hk, hst, hov, hown, hx, ho, hbel, hz⟩ := hrel
    have HST := hideB hst
    have V3 := hideB hov
    have N3 := hideB hown
    have X3 := hideB hx
    have O3 := hideB ho
    have B3 := hideB hbel
    obtain ⟨hps, hxl⟩ := st_facts k p xs hst
    have HXL := hideB hxl
    obtain ⟨vx, vc, rfl, hvc, _⟩ := hown.ints
    clear hst hov hown hx ho hbel hxl
    have c0 := V3.out.c0
    have c1 := V3.out.c1
    have c2 := V3.out.c2
    have f0 := V3.out.fr 0
    have f1 := V3.out.fr 1
    have d0 := O3.out.c0
    have d1 := O3.out.c1
    have d2 := O3.out.c2
    have e0 := O3.out.fr 0
    have e1 := O3.out.fr 1
    have e2 := O3.out.fr 2
    obtain ⟨xl, hxl2⟩ : ∃ xl, xl = xs.length := ⟨_, rfl⟩
    have HX2 := hideB hxl2
    rw [← hxl2] at c0 V3 N3 hvc
    clear hxl2
    by_cases hlt : k < m
    · have hpos : (0 : Int) < (m : Int) - k := by omega
      have HNX := hideB (next_spec l t p (some ⟨b, 0, none⟩) n (b + 1) wr (X3.out.strs (Nat.lt_succ_self b)) HR.out hps h8)
      rw [← HLN.out] at HNX
      cases hs : sym l (rst t p) with
      | none =>
        have HB := hideB (st_bad HST.out hs)
        have HE : Hid (outS (st l t m) = ([], 0, why l (rst t p))) := by
          have h1 := st_stay HB.out (m - (k + 1))
          rw [show k + 1 + (m - (k + 1)) = m by omega] at h1
          unfold Hid
          rw [h1]
          rfl
        cases hw : wth l (rst t p) with
        | true =>
          rw [nxt_short hs hw] at HNX
          have HE2 : Hid (outS (st l t m) = ([], 0, 4)) := by
            unfold Hid
            rw [HE.out]
            unfold why
            rw [if_pos hw]
          clear hs hw
          go_wp2_with fail
          refine HNX.out.mono ?_
          rintro e w' ⟨rfl, hw'⟩
          subst w'
          go_wp2_with fail
          refine bodyPost_ret (v := .agg #[.slice none 0 0, .int .i64 0, .int .i64 4]) (by simp [results, Tryz.results178, go_sem, d0, d1, d2]) rfl ⟨.slice none 0 0, ?_, ?_, ?_⟩
          · rw [HE2.out]
          · rw [HE2.out]
            exact .inl ⟨rfl, rfl⟩
          · exact ((B3.out.setCell (Nat.le_refl _) _).setCell (Nat.le_refl _) _).setCell (Nat.le_refl _) _
        | false =>
          rw [nxt_none hs hw] at HNX
          have HE2 : Hid (outS (st l t m) = ([], 0, 3)) := by
            unfold Hid
            rw [HE.out]
            unfold why
            rw [if_neg (by rw [hw]; decide)]
          clear hs hw
          go_wp2_with fail
          refine HNX.out.mono ?_
          rintro e w' ⟨rfl, hw'⟩
          subst w'
          go_wp2_with fail
          refine bodyPost_ret (v := .agg #[.slice none 0 0, .int .i64 0, .int .i64 3]) (by simp [results, Tryz.results178, go_sem, d0, d1, d2]) rfl ⟨.slice none 0 0, ?_, ?_, ?_⟩
          · rw [HE2.out]
          · rw [HE2.out]
            exact .inl ⟨rfl, rfl⟩
          · exact ((B3.out.setCell (Nat.le_refl _) _).setCell (Nat.le_refl _) _).setCell (Nat.le_refl _) _
      | some i =>
        rw [nxt_some hs] at HNX
        have HSM := hideB (st_more HST.out hs)
        have hmt := sym_mt hs
        have hil : i < l.length := hmt.1
        have hin : i < n := by rw [HLN.out]; exact hil
        have hb1 : ((i : Int) == -1) = false := beq_eq_false_iff_ne.2 (by omega)
        have hb2 : ((i : Int) == -2) = false := beq_eq_false_iff_ne.2 (by omega)
        have hwl : wd l i ≤ 12 := by
          have := (within_yes (right_yes HR.out).1).2 _ (List.getElem_mem hil)
          unfold wd
          rw [getD_lt hil]
          omega
        have HLI : Hid (l[i] = ((wd l i : Nat) : Int)) := by
          unfold Hid
          rw [← getD_lt hil]
          exact wd_int hmt.2.1
        clear hs hmt
        have hown := N3.out
        go_wp2_with fail
        refine HNX.out.mono ?_
        rintro e w' ⟨rfl, hw'⟩
        subst w'
        go_wp2_with (at_builtin; refine wpList_append_own _ rfl (.tmp 30) (.tmp 32) 97 rfl (w1.heap.size + 1) 2 i0 (.int .i64 0) 1 8 Tryz.underlying97 hi0 hz0 hz1 hz2 rfl (by decide) _ _ _ rfl (ownI_alloc hown _) ⟨wr.heap.size, 0, none⟩ 1 1 [.int .i64 (i : Int)] rfl rfl (one_newI _ _ _) (one_cellI _) (by unfold maxLen; have h1 := HXL.out; have h2 := HX2.out; omega) (by have h1 := HXL.out; have h2 := HX2.out; omega) (by simp; omega) ?_)
        intro v' w5 hown' hgrow _
        have N5 := hideB (OwnI.snoc hown')
        have b5 : Below (w1.heap.size + 1) wr w5 := In.app_one (Below.refl _ _) (by omega) (Nat.le_refl _) hown hgrow
        have V5 := hideB (V3.out.of_heap (b5.block w1.heap.size (Nat.lt_succ_self _)))
        have X5 := hideB (X3.out.of_heapS (b5.block b (by omega)))
        have O5 := hideB (O3.out.below b5 (by omega))
        have B5 := hideB (B3.out.trans (b5.mono (by omega)))
        have z5 := b5.size
        obtain ⟨y, yc, rfl, hyc, _⟩ := N5.out.ints
        obtain ⟨yl, hyl⟩ : ∃ yl, yl = (xs ++ [(i : Int)]).length := ⟨_, rfl⟩
        have HYL := hideB hyl
        rw [← hyl] at N5 hyc ⊢
        clear hown' hgrow hown b5 hyl
        obtain ⟨W6, hW6⟩ : ∃ W6, W6 = w5.setCell ⟨w1.heap.size, 0, none⟩ (.slice y yl yc) := ⟨_, rfl⟩
        have V6 := hideB (show OutV W6 w1.heap.size (.slice y yl yc) p by rw [hW6]; exact V5.out.set0 _)
        have N6 := hideB (show OwnI W6 (w1.heap.size + 1) (.slice y yl yc) (xs ++ [(i : Int)]) by rw [hW6]; exact ownI_set N5.out _ _ (Nat.lt_succ_self _))
        have X6 := hideB (show IsS W6 b 9 (codesV l) by rw [hW6]; exact X5.out.set_other _ _ (by simp; omega))
        have O6 := hideB (show Out0 W6 w.heap.size by rw [hW6]; exact O5.out.set _ _ (by simp; omega))
        have B6 := hideB (show Below w.heap.size w W6 by rw [hW6]; exact B5.out.setCell (p := ⟨w1.heap.size, 0, none⟩) (by simp; omega) _)
        have z6 : w1.heap.size < W6.heap.size := by rw [hW6]; simp [World.setCell]; omega
        have HW6 := hideB hW6
        have g0 := V5.out.c0
        have g1 := V5.out.c1
        have h0 := V5.out.fr 0
        clear hW6 c0 c1 c2 f0 f1 d0 d1 d2 e0 e1 e2
        go_wp2_with fail
        rw [← HW6.out]
        clear g0 g1 h0
        obtain ⟨bl, offl, rfl, _, hcl⟩ := (HL.out.below B6.out).some (by omega)
        have cl := hcl i hil
        rw [HLI.out] at cl
        have k1 := V6.out.c1
        have j1 := V6.out.fr 1
        have V7 : Hid (OutV (W6.setCell ⟨w1.heap.size, 1, none⟩ (.int .i64 ((p : Int) + ((wd l i : Nat) : Int)))) w1.heap.size (.slice y yl yc) ((p + wd l i : Nat) : Int)) := by
          have := V6.out.set1 ((p : Int) + ((wd l i : Nat) : Int))
          unfold Hid
          rw [Int.natCast_add]
          exact this
        generalize wd l i = wv at cl HSM V7 hwl
        clear hcl HLI
        go_region
        all_goals (try go_wp2_with fail)
        all_goals go_roundw
        case rel => exact ⟨k + 1, p + wv, xs ++ [(i : Int)], .slice y yl yc, by go_num, by omega, HSM.out, V7.out, ownI_set N6.out _ _ (Nat.lt_succ_self _), X6.out.set_other _ _ (by simp; omega), O6.out.set _ _ (by simp; omega), Below.drew (B6.out.setCell (p := ⟨w1.heap.size, 1, none⟩) (by simp; omega) _), by simpa [World.setCell] using z6⟩
        case measure => simp [intOf]; omega
    · obtain rfl : k = m := by omega
      have HE : Hid (outS (st l t k) = (xs, (p : Int), 0)) := by
        unfold Hid
        rw [HST.out]
        rfl
      have hpos : ¬ (0 : Int) < (k : Int) - k := by omega
      go_wp2_with fail
      refine bodyPost_ret (v := .agg #[.slice vx xl vc, .int .i64 p, .int .i64 0]) (by simp [results, Tryz.results178, go_sem, d0, d1, d2]) rfl ⟨.slice vx xl vc, ?_, ?_, ?_⟩
      · rw [HE.out]
      · rw [HE.out]
        exact in_mono (OwnI.inn (ownI_set (ownI_set (ownI_set N3.out ⟨w.heap.size, 0, none⟩ _ (by simp; omega)) ⟨w.heap.size, 1, none⟩ _ (by simp; omega)) ⟨w.heap.size, 2, none⟩ _ (by simp; omega))) (by omega) (Nat.le_refl _)
      · exact ((B3.out.setCell (Nat.le_refl _) _).setCell (Nat.le_refl _) _).setCell (Nat.le_refl _) _
end Go.Proofs.YtjdlgpnhkfdehaaGreatDoor.Bi


/- What the specification's CodeGet answers; the laws' own helpers on such answers. -/
namespace Go.Proofs.YtjdlgpnhkfdehaaGreatDoor.Bi
open Go.RowKit
open Go.Proofs.YtjdlgpnhkfdehaaGreatDoor.In (Ints IsI OwnIn OwnI)
open Go.Proofs.YtjdlgpnhkfdehaaGreatDoor.St (Aft)
set_option maxRecDepth 100000 in
set_option maxHeartbeats 2000000 in
theorem get_spec (l : List Int) (t : ByteArray) (m : Int) (a : Option Addr) (cap : Nat) (w : World) (hl : Ints w w.heap.size a l) (hn : l.length ≤ 1048576) (ht : t.size ≤ 1048576) :
    Calls Tryz.prog 125 #[.slice a l.length cap, .string t, .int .i64 m] w fun e w' => ∃ v, e = .returned (.agg #[v, .int .i64 (getR l t m).2.1, .int .i64 (getR l t m).2.2]) ∧ OwnIn w' w.heap.size w'.heap.size v (getR l t m).1 ∧ Below w.heap.size w w' := by
  by_cases h4 : 400 < l.length
  · rw [getR_size (Or.inl h4)]
    clear hl
    generalize l.length = n at hn h4 ⊢
    go_enter Tryz.func125, Tryz.ntmps125
    go_wp2_with fail
    refine bodyPost_ret (v := .agg #[.slice none 0 0, .int .i64 0, .int .i64 2]) (by simp [results, Tryz.results125, go_sem]) rfl ⟨.slice none 0 0, rfl, nil_in _ _ _, (Below.refl _ _).alloc (Nat.le_refl _) _⟩
  · have hd4 : decide (400 < (l.length : Int)) = false := decide_eq_false (by omega)
    by_cases h8 : 8000 < t.size
    · rw [getR_size (Or.inr h8)]
      clear hl
      generalize l.length = n at hn h4 hd4 ⊢
      go_enter Tryz.func125, Tryz.ntmps125
      go_wp2_with fail
      refine bodyPost_ret (v := .agg #[.slice none 0 0, .int .i64 0, .int .i64 2]) (by simp [results, Tryz.results125, go_sem]) rfl ⟨.slice none 0 0, rfl, nil_in _ _ _, (Below.refl _ _).alloc (Nat.le_refl _) _⟩
    · have hd8 : decide (8000 < (t.size : Int)) = false := decide_eq_false (by omega)
      have hno : ¬ (400 < l.length ∨ 8000 < t.size) := by omega
      have B0 := hideB ((Below.refl w.heap.size w).alloc (Nat.le_refl _) (.cells #[.slice none 0 0, .int .i64 0, .int .i64 0] 139))
      have hl0 := (hl.below B0.out).mono (by simp : w.heap.size ≤ (w.alloc (.cells #[.slice none 0 0, .int .i64 0, .int .i64 0] 139)).heap.size)
      have HWH := hideB (l04Whole_any l a cap _ _ hl0 (by omega))
      have HGO := hideB (good_spec t (w.alloc (.cells #[.slice none 0 0, .int .i64 0, .int .i64 0] 139)) ht)
      cases hw : whole l with
      | false =>
        rw [getR_form hno (Or.inl hw)]
        rw [hw] at HWH
        clear hl hno hl0
        generalize l.length = n at hn h4 hd4 HWH ⊢
        go_enter Tryz.func125, Tryz.ntmps125
        go_wp2_with fail
        refine HWH.out.mono ?_
        rintro e w' ⟨rfl, hw'⟩
        subst w'
        go_wp2_with fail
        refine bodyPost_ret (v := .agg #[.slice none 0 0, .int .i64 0, .int .i64 1]) (by simp [results, Tryz.results125, go_sem]) rfl ⟨.slice none 0 0, rfl, nil_in _ _ _, (Below.refl _ _).alloc (Nat.le_refl _) _⟩
      | true =>
        cases hg : good t with
        | false =>
          rw [getR_form hno (Or.inr (Or.inl hg))]
          rw [hw] at HWH
          rw [hg] at HGO
          clear hl hno hw hl0
          generalize l.length = n at hn h4 hd4 HWH ⊢
          go_enter Tryz.func125, Tryz.ntmps125
          go_wp2_with fail
          refine HWH.out.mono ?_
          rintro e w' ⟨rfl, hw'⟩
          subst w'
          go_wp2_with fail
          refine HGO.out.mono ?_
          rintro e w' ⟨rfl, hw'⟩
          subst w'
          go_wp2_with fail
          refine bodyPost_ret (v := .agg #[.slice none 0 0, .int .i64 0, .int .i64 1]) (by simp [results, Tryz.results125, go_sem]) rfl ⟨.slice none 0 0, rfl, nil_in _ _ _, (Below.refl _ _).alloc (Nat.le_refl _) _⟩
        | true =>
          by_cases hm : m < 0 ∨ 400 < m
          · rw [getR_form hno (Or.inr (Or.inr hm))]
            have HIS := hideB (is_no m 0 400 (w.alloc (.cells #[.slice none 0 0, .int .i64 0, .int .i64 0] 139)) hm)
            rw [hw] at HWH
            rw [hg] at HGO
            clear hl hno hw hg hm hl0
            generalize l.length = n at hn h4 hd4 HWH ⊢
            go_enter Tryz.func125, Tryz.ntmps125
            go_wp2_with fail
            refine HWH.out.mono ?_
            rintro e w' ⟨rfl, hw'⟩
            subst w'
            go_wp2_with fail
            refine HGO.out.mono ?_
            rintro e w' ⟨rfl, hw'⟩
            subst w'
            go_wp2_with fail
            refine HIS.out.mono ?_
            rintro e w' ⟨rfl, hw'⟩
            subst w'
            go_wp2_with fail
            refine bodyPost_ret (v := .agg #[.slice none 0 0, .int .i64 0, .int .i64 1]) (by simp [results, Tryz.results125, go_sem]) rfl ⟨.slice none 0 0, rfl, nil_in _ _ _, (Below.refl _ _).alloc (Nat.le_refl _) _⟩
          · obtain ⟨k, rfl⟩ : ∃ k : Nat, m = k := ⟨m.toNat, by omega⟩
            have HIS := hideB (is_yes k 0 400 (w.alloc (.cells #[.slice none 0 0, .int .i64 0, .int .i64 0] 139)) (by omega) (by omega))
            have HGE := hideB (l04Get_any l t k a cap _ hl0 (by omega) (whole_right hw) (by omega))
            rw [getR_in hno hw hg (by omega)]
            rw [hw] at HWH
            rw [hg] at HGO
            have hz0 : (w.alloc (.cells #[.slice none 0 0, .int .i64 0, .int .i64 0] 139)).heap.size = w.heap.size + 1 := by simp
            have O0 := hideB (Out0.new w)
            clear hl hno hw hg hm hl0
            obtain ⟨q, hq⟩ : ∃ q, q = outS (st l t k) := ⟨_, rfl⟩
            rw [← hq] at HGE ⊢
            clear hq
            generalize l.length = n at hn h4 hd4 HWH HGE ⊢
            go_enter Tryz.func125, Tryz.ntmps125
            go_wp2_with fail
            refine HWH.out.mono ?_
            rintro e w' ⟨rfl, hw'⟩
            subst w'
            go_wp2_with fail
            refine HGO.out.mono ?_
            rintro e w' ⟨rfl, hw'⟩
            subst w'
            go_wp2_with fail
            refine HIS.out.mono ?_
            rintro e w' ⟨rfl, hw'⟩
            subst w'
            go_wp2_with fail
            refine HGE.out.mono ?_
            rintro e w2 ⟨v, rfl, hv, hb2⟩
            rw [hz0] at hv hb2
            have V2 := hideB hv
            have B2 := hideB (B0.out.trans (hb2.mono (Nat.le_succ _)))
            have O2 := hideB (O0.out.below hb2 (Nat.lt_succ_self _))
            obtain ⟨x, c, rfl, _⟩ := hv.ints
            obtain ⟨ql, hql⟩ : ∃ ql, ql = q.1.length := ⟨_, rfl⟩
            rw [← hql] at V2 ⊢
            clear hv hb2 hz0 hql
            have c0 := O2.out.c0
            have c1 := O2.out.c1
            have c2 := O2.out.c2
            have f0 := O2.out.fr 0
            have f1 := O2.out.fr 1
            have f2 := O2.out.fr 2
            go_wp2_with fail
            refine bodyPost_ret (v := .agg #[.slice x ql c, .int .i64 q.2.1, .int .i64 q.2.2]) (by simp [results, Tryz.results125, go_sem, c0, c1, c2]) rfl ⟨.slice x ql c, rfl, ?_, ?_⟩
            · have h1 := in_mono (hi' := w2.heap.size) V2.out (Nat.le_succ w.heap.size) (Nat.le_refl _)
              have h2 : OwnIn (((w2.setCell ⟨w.heap.size, 0, none⟩ (.slice x ql c)).setCell ⟨w.heap.size, 1, none⟩ (.int .i64 q.2.1)).setCell ⟨w.heap.size, 2, none⟩ (.int .i64 q.2.2)) (w.heap.size + 1) w2.heap.size (.slice x ql c) q.1 := by
                rcases V2.out with h | ⟨g, cc, hv, hg, hh, ho⟩
                · exact .inl h
                · exact .inr ⟨g, cc, hv, hg, hh, ((ho.of_heap (heap_setCell_other _ ⟨w.heap.size, 0, none⟩ g _ (by simp; omega))).of_heap (heap_setCell_other _ ⟨w.heap.size, 1, none⟩ g _ (by simp; omega))).of_heap (heap_setCell_other _ ⟨w.heap.size, 2, none⟩ g _ (by simp; omega))⟩
              exact in_mono h2 (Nat.le_succ _) (by simp [World.setCell])
            · exact ((B2.out.setCell (Nat.le_refl _) _).setCell (Nat.le_refl _) _).setCell (Nat.le_refl _) _
end Go.Proofs.YtjdlgpnhkfdehaaGreatDoor.Bi


/- What the specification's OrderOf answers. -/
namespace Go.Proofs.YtjdlgpnhkfdehaaGreatDoor.So
open Go.RowKit
open Go.Proofs.YtjdlgpnhkfdehaaGreatDoor.In (OwnI IsO one_newI one_cellI)
open Go.Proofs.YtjdlgpnhkfdehaaGreatDoor.In.Tryz (infoI2)
open Go.Proofs.YtjdlgpnhkfdehaaGreatDoor.Ze (own_some own_news own_cells)
set_option maxHeartbeats 1000000 in
theorem turn_spec (t : ByteArray) (k : Nat) (w : World) (ht : t.size ≤ 1048576) (hk : k ≤ t.size) :
    Calls Tryz.prog 246 #[.string t, .int .i64 k] w fun e w' => e = .returned (.string (turnV t k)) ∧ ∃ q, w' = w.drewN q := by
  have mixed := mixed
  unfold turnV
  have hq0 : (t.extract k t.size).size + (t.extract 0 k).size ≤ 9223372036854775807 := by simp; omega
  have hle : (k : Int) ≤ (t.size : Int) := by omega
  have hge : ¬ (t.size : Int) < (k : Int) := by omega
  go_enter Tryz.func246, Tryz.ntmps246
  go_wp2_with fail
  go_quiet (fail)
  go_wp2_with fail
  go_ret
  exact ⟨rfl, nq, rfl⟩
theorem below_drewN {B : Nat} {w w' : World} (h : Below B w w') (n : Nat) : Below B w (w'.drewN n) := ⟨h.os, h.tape, h.output, h.size, h.block⟩
theorem own_drewN {w : World} {base : Nat} {v : Value} {l : List Int} (h : OwnI w base v l) (n : Nat) : OwnI (w.drewN n) base v l :=
  h.below (below_drewN (Below.refl _ _) n)
theorem isO_take {w : World} {g : Nat} {l : List Nat} (h : IsO w g 2 (ints l)) (p : Nat) : IsO w g 2 (ints (l.take p)) := by
  obtain ⟨cur, hb, hc⟩ := h
  refine ⟨cur, hb, fun j hj => ?_⟩
  have hj2 : j < min p l.length := by simpa [ints] using hj
  have hj' : j < p ∧ j < l.length := by omega
  have := hc j (by rw [ints_len]; exact hj'.2)
  simpa [ints] using this
theorem isO_drop {w : World} {g : Nat} {l : List Nat} (h : IsO w g 2 (ints l)) (p : Nat) : ∀ (j : Nat) (u : Value), ((ints (l.drop p)).map (Value.int .i64))[j]? = some u → w.cell? ((⟨g, p, none⟩ : Addr).add j) = some u := by
  intro j u hj
  have hadd : (⟨g, p, none⟩ : Addr).add j = ⟨g, p + j, none⟩ := by unfold Addr.add; split <;> simp_all
  rw [hadd]
  simp only [ints, List.getElem?_map, List.getElem?_drop] at hj
  cases hl : l[p + j]? with
  | none => rw [hl] at hj; cases hj
  | some x =>
    rw [hl] at hj
    obtain ⟨hlt, hx⟩ := List.getElem?_eq_some_iff.1 hl
    rw [h.cell (j := p + j) (by rw [ints_len]; exact hlt)]
    simp [ints, hx] at hj ⊢
    exact hj
theorem block_spec (t : ByteArray) (w : World) (hn : t.size ≤ 1048576) : Calls Tryz.prog 68 #[.string t] w fun e w' => e = .returned (.bool (decide (t.size ≤ 48))) ∧ w' = w := by
  by_cases h : t.size ≤ 48
  · rw [decide_eq_true h]
    have h' : (t.size : Int) ≤ 48 := by omega
    go_enter Tryz.func68, Tryz.ntmps68
    go_wp2_with fail
    go_ret
    exact ⟨rfl, rfl⟩
  · rw [decide_eq_false h]
    have h' : decide ((t.size : Int) ≤ 48) = false := decide_eq_false (by omega)
    go_enter Tryz.func68, Tryz.ntmps68
    go_wp2_with fail
    go_ret
    exact ⟨rfl, rfl⟩
theorem own_ne {w : World} {base : Nat} {v : Value} {l : List Int} (h : OwnI w base v l) (hl : 0 < l.length) : v ≠ .slice none 0 0 := by
  rcases h.split with ⟨_, rfl⟩ | ⟨g, cap, rfl, _⟩
  · simp at hl
  · simp
set_option maxRecDepth 100000 in
set_option maxHeartbeats 2000000 in
theorem order_spec (t : ByteArray) (w : World) (ht : t.size ≤ 48) :
    Calls Tryz.prog 218 #[.string t] w fun e w' => ∃ v l, e = .returned v ∧ OwnI w' w.heap.size v (ints l) ∧ OrdOk t l ∧ v ≠ .slice none 0 0 ∧ Below w.heap.size w w' := by
  have mixed := mixed
  obtain ⟨i0, hi0, hz0, hz1, hz2⟩ := info_parts infoI2
  have HW := hideO (Ze.OwnI.empty w)
  have HT := hideO (fun (k : Nat) (W : World) (hk : k ≤ t.size) => turn_spec t k W (by omega) hk)
  have htz : (t.size : Int) ≤ 48 := by omega
  go_enter Tryz.func218, Tryz.ntmps218
  go_wp2_with fail
  go_loopw [4, 3] (fun i u wr => ∃ (k : Nat) (l : List Nat), i = .int .i64 k ∧ k ≤ t.size ∧ l.Perm (List.range k) ∧ l.Pairwise (lx (clT (turnV t))) ∧ OwnI wr w.heap.size u (ints l) ∧ u ≠ .slice none 0 0 ∧ Below w.heap.size w wr) (fun i _ _ => t.size - (intOf i).toNat)
  case atStart => exact ⟨0, [], rfl, Nat.zero_le _, List.Perm.refl _, List.Pairwise.nil, HW.out, by simp, (Below.refl _ _).alloc (Nat.le_refl _) _⟩
  case round =>
    obtain ⟨k, l, rfl, hk, hp, hs, hown, hne, hbel⟩ := hrel
    have HP := hideO hp
    have HS := hideO hs
    have GB := hideO hbel
    have hsz := hbel.size
    have hlk : l.length = k := by have := hp.length_eq; simpa using this
    have HL := hideO hlk
    have G1 := hideO hown
    obtain ⟨g, cap, rfl, hg, hgl, ho⟩ := own_some hown hne
    rw [ints_len, hlk] at G1 ⊢
    have HO := hideO ho
    have hcap : k ≤ cap := by
      obtain ⟨_, h⟩ := hown
      rcases h with ⟨h, _⟩ | ⟨g', cap', cur, hv, _, _, hle, _⟩
      · cases h
      · simp at hv
        rw [ints_len, hlk] at hle
        omega
    have hcm : cap ≤ maxLen := by
      obtain ⟨_, h⟩ := hown
      rcases h with ⟨h, _⟩ | ⟨g', cap', cur, hv, _, _, _, hle, _⟩
      · cases h
      · simp at hv
        omega
    clear hown hne hbel hp hs ho hlk
    by_cases hlt : k < t.size
    · have hlt' : (k : Int) < (t.size : Int) := by omega
      obtain ⟨wo, hwo⟩ : ∃ wo, wo = wr := ⟨_, rfl⟩
      subst hwo
      go_wp2_with fail
      go_loopw [5] (fun i wr2 => ∃ (p q : Nat), i = .int .i64 p ∧ p ≤ k ∧ (∀ j (h : j < l.length), p ≤ j → clT (turnV t) k l[j] = true) ∧ wr2 = wo.drewN q) (fun i _ => (intOf i).toNat)
      case atStart => exact ⟨k, 0, rfl, Nat.le_refl _, fun j h1 h2 => absurd h1 (by have := HL.out; omega), rfl⟩
      case round =>
        obtain ⟨p, q, rfl, hpk, hhi, hwr⟩ := hrel
        have HHI := hideO hhi
        have HWR := hideO hwr
        have hO2 : IsO wr g 2 (ints l) := by rw [hwr]; exact HO.out.of_heap rfl
        clear hhi hwr
        by_cases hp0 : 0 < p
        · obtain ⟨pp, hpp⟩ : ∃ pp, p = pp + 1 := ⟨p - 1, by omega⟩
          have hppl : pp < l.length := by have := HL.out; omega
          have c0 := hO2.cell (j := pp) (by rw [ints_len]; exact hppl)
          have ey : (ints l)[pp]'(by rw [ints_len]; exact hppl) = ((l[pp] : Nat) : Int) := by simp [ints]
          rw [ey] at c0
          have hyk : l[pp] < k := by
            have := HP.out.mem_iff.1 (List.getElem_mem hppl)
            simpa using this
          obtain ⟨y, hy⟩ : ∃ y, y = l[pp] := ⟨_, rfl⟩
          rw [← hy] at c0 hyk
          have c1 := fun n' => (show (wr.drewN n').cell? ⟨g, pp, none⟩ = some (.int .i64 (y : Nat)) from c0)
          have HTK := hideO (fun W => HT.out k W (by omega))
          have HTY := hideO (fun W => HT.out y W (by omega))
          have HCL : Hid (Op.bytesLess (turnV t k).toList (turnV t y).toList = clT (turnV t) k y) := rfl
          have e1 : (p : Int) - 1 = (pp : Int) := by omega
          have hwp : IntKind.i64.wrap (pp : Int) = (pp : Int) := by rw [IntKind.wrap_i64]; omega
          have hpz : (pp : Int) < (k : Int) := by omega
          have hp0' : (0 : Int) < (p : Int) := by omega
          have hpd : decide ((0 : Int) < (p : Int)) = true := decide_eq_true hp0'
          have HPP := hideO hpp
          have HY := hideO hy
          generalize turnV t k = A at HTK HCL
          generalize turnV t y = B at HTY HCL
          clear c0 ey hpp hy hO2
          cases hcb : clT (turnV t) k y with
          | true =>
            have hbl : Op.bytesLess A.toList B.toList = true := HCL.out.trans hcb
            have HC2 : Hid (∀ j (h : j < l.length), pp ≤ j → clT (turnV t) k l[j] = true) := fun j h1 h2 => by
              rcases Nat.eq_or_lt_of_le h2 with e | e
              · subst e
                rw [← HY.out]
                exact hcb
              · exact HHI.out j h1 (by have := HPP.out; omega)
            go_wp2_with fail
            go_quiet (first | (go_at_call 246; (with_reducible refine Calls.quiet_of (HTK.out _))) | (go_at_call 246; (with_reducible refine Calls.quiet_of (HTY.out _))))
            all_goals (try go_wp2_with fail)
            go_roundw
            case rel => exact ⟨pp, q + nq, rfl, by omega, HC2.out, by rw [HWR.out]; exact World.drewN_drewN _ _ _⟩
            case measure => have := HPP.out; simp [intOf]; omega
          | false =>
            have hbl : Op.bytesLess A.toList B.toList = false := HCL.out.trans hcb
            go_wp2_with fail
            go_quiet (first | (go_at_call 246; (with_reducible refine Calls.quiet_of (HTK.out _))) | (go_at_call 246; (with_reducible refine Calls.quiet_of (HTY.out _))))
            have HQ := hideO (ord_put (clT_weak (turnV t)) HP.out HS.out (show p ≤ l.length by have := HL.out; omega) HHI.out (by
              have := HPP.out
              exact Or.inr ⟨by omega, by
                have e : l[p - 1]'(by omega) = y := by rw [HY.out]; congr 1; omega
                rw [e]
                exact hcb⟩))
            have G4 := hideO (own_drewN G1.out (q + nq))
            have O4 : Hid (IsO (wo.drewN (q + nq)) g 2 (ints l)) := HO.out.of_heap rfl
            have B4 := hideO (below_drewN GB.out (q + nq))
            have hW : wr.drewN nq = wo.drewN (q + nq) := by rw [HWR.out]; exact World.drewN_drewN _ _ _
            have z4 : g < (wo.drewN (q + nq)).heap.size := hgl
            have zs4 : w.heap.size ≤ (wo.drewN (q + nq)).heap.size := hsz
            rw [hW]
            clear hW
            generalize wo.drewN (q + nq) = W at G4 O4 B4 z4 zs4 ⊢
            have HEM := hideO (Ze.OwnI.empty W)
            have HTA : Hid ((ints l).length = k) := by
              unfold Hid
              rw [ints_len, HL.out]
            have hpc : (p : Int) ≤ (cap : Int) := by omega
            have hpk' : (p : Int) ≤ (k : Int) := by omega
            go_wp2_with (at_builtin; refine wpList_append_own _ rfl (.tmp 33) (.tmp 36) 97 rfl W.heap.size 2 i0 (.int .i64 0) 1 8 Tryz.underlying97 hi0 hz0 hz1 hz2 rfl (by decide) _ 0 [] rfl HEM.out ⟨g, 0, none⟩ p cap ((ints (l.take p)).map (Value.int .i64)) rfl ?len1 ?new1 (own_cells _) (by unfold maxLen; omega) (by omega) (by simp) ?_)
            case len1 => simp [ints_len]; have := HL.out; omega
            case new1 => exact own_news (isO_take (O4.out.below ((Below.refl _ W).alloc (Nat.le_refl _) _) z4) p)
            intro v1 w1 hown1 hgrow1 _
            have HO1 : Hid (OwnI w1 W.heap.size v1 (ints (l.take p))) := by
              have e : (ints (l.take p)).length = p := by simp [ints_len]; have := HL.out; omega
              unfold Hid OwnI
              rw [e]
              exact hown1
            have hb1 : Below W.heap.size W w1 := ((Below.refl W.heap.size W).alloc (Nat.le_refl _) _).grown hgrow1 (by simp) (fun k hk => by simp [Value.ownBlock] at hk; omega)
            have z1 := hb1.size
            have O1 := hideO (O4.out.below hb1 z4)
            have B1 := hideO hb1
            clear hown1 hgrow1 hb1
            have HLT : Hid ((ints (l.take p)).length = p) := by
              unfold Hid
              simp [ints_len]
              have := HL.out
              omega
            go_wp2_with (at_builtin; refine wpList_append_own _ rfl (.tmp 38) (.tmp 40) 97 rfl W.heap.size 2 i0 (.int .i64 0) 1 8 Tryz.underlying97 hi0 hz0 hz1 hz2 rfl (by decide) _ _ _ rfl (Ze.OwnI.alloc HO1.out _) ⟨w1.heap.size, 0, none⟩ 1 1 [.int .i64 (k : Nat)] rfl rfl (one_newI _ _ _) (one_cellI _) (by rw [HLT.out]; unfold maxLen; omega) (by rw [HLT.out]; omega) (by simp; omega) ?_)
            intro v2 w2 hown2 hgrow2 _
            have HO2 : Hid (OwnI w2 W.heap.size v2 (ints (l.take p ++ [k]))) := by
              unfold Hid
              rw [ints_snoc]
              exact In.OwnI.snoc hown2
            have hb2 := In.app_one B1.out z1 (Nat.le_refl _) HO1.out hgrow2
            have z2 := hb2.size
            have O2 := hideO (O4.out.below hb2 z4)
            have B2 := hideO hb2
            clear hown2 hgrow2 hb2 B1 O1
            have HLT2 : Hid ((ints (l.take p ++ [k])).length = p + 1) := by
              unfold Hid
              simp [ints_len]
              have := HL.out
              omega
            have HLD : Hid ((ints (l.drop p)).length = k - p) := by
              unfold Hid
              simp [ints_len, HL.out]
            have HFIN : Hid (∀ v3 w3, w3.ownsRow W.heap.size 2 1 v3 (p + 1 + (k - p)) ((ints (l.take p ++ [k])).map (Value.int .i64) ++ (ints (l.drop p)).map (Value.int .i64)) → OwnI w3 W.heap.size v3 (ints (l.take p ++ [k] ++ l.drop p))) := fun v3 w3 h => by
              have e : ints (l.take p ++ [k] ++ l.drop p) = ints (l.take p ++ [k]) ++ ints (l.drop p) := by simp [ints]
              rw [e]
              apply Ze.OwnI.joined
              rw [HLT2.out, HLD.out]
              exact h
            have HOW2 : Hid (w2.ownsRow W.heap.size 2 1 v2 (p + 1) ((ints (l.take p ++ [k])).map (Value.int .i64))) := by
              have := HO2.out
              unfold OwnI at this
              rw [HLT2.out] at this
              exact this
            have hv2 : v2 ≠ .slice none 0 0 := own_ne HO2.out (by rw [HLT2.out]; omega)
            by_cases hkp : p = k
            · have HD0 : Hid (ints (l.drop p) = []) := by
                unfold Hid
                rw [hkp, ← HL.out, List.drop_length]
                rfl
              subst hkp
              by_cases hcp : cap = p
              · subst hcp
                go_wp2_with (at_builtin; refine wpList_append_own _ rfl (.tmp 42) (.tmp 45) 97 rfl W.heap.size 2 i0 (.int .i64 0) 1 8 Tryz.underlying97 hi0 hz0 hz1 hz2 rfl (by decide) _ _ _ rfl HOW2.out _ 0 _ [] rfl rfl (by intro j u hj; simp at hj) (by intro u hu; simp at hu) (by unfold maxLen; omega) (by omega) (by omega) ?_)
                intro v3 w3 hown3 hgrow3 _
                have HO3 := hideO (HFIN.out v3 w3 (by rw [HD0.out, Nat.sub_self, List.map_nil, List.append_nil]; exact hown3))
                have HN3 := hideO (own_ne HO3.out (by simp [ints_len]; omega))
                have hb3 := hideO (Ze.app_row B2.out z2 (Nat.le_refl _) HO2.out hgrow3)
                clear hown3 hgrow3
                go_wp2_with fail
                go_roundw
                case rel => exact ⟨cap + 1, _, by go_num, by omega, HQ.out.1, HQ.out.2, HO3.out.mono zs4, HN3.out, B4.out.trans (hb3.out.mono zs4)⟩
                case measure => simp [intOf]; omega
              · have hcp1 : ¬ (cap : Int) = (p : Int) := by omega
                have hcp2 : p < cap := by omega
                go_wp2_with (at_builtin; refine wpList_append_own _ rfl (.tmp 42) (.tmp 45) 97 rfl W.heap.size 2 i0 (.int .i64 0) 1 8 Tryz.underlying97 hi0 hz0 hz1 hz2 rfl (by decide) _ _ _ rfl HOW2.out _ 0 _ [] rfl rfl (by intro j u hj; simp at hj) (by intro u hu; simp at hu) (by unfold maxLen; omega) (by omega) (by omega) ?_)
                intro v3 w3 hown3 hgrow3 _
                have HO3 := hideO (HFIN.out v3 w3 (by rw [HD0.out, Nat.sub_self, List.map_nil, List.append_nil]; exact hown3))
                have HN3 := hideO (own_ne HO3.out (by simp [ints_len]; omega))
                have hb3 := hideO (Ze.app_row B2.out z2 (Nat.le_refl _) HO2.out hgrow3)
                clear hown3 hgrow3
                go_wp2_with fail
                go_roundw
                case rel => exact ⟨p + 1, _, by go_num, by omega, HQ.out.1, HQ.out.2, HO3.out.mono zs4, HN3.out, B4.out.trans (hb3.out.mono zs4)⟩
                case measure => simp [intOf]; omega
            · have hpk2 : p < k := by omega
              have hcp0 : ¬ cap = p := by omega
              have hcp1 : ¬ (cap : Int) = (p : Int) := by omega
              obtain ⟨dl, hdl⟩ : ∃ dl, dl = k - p := ⟨_, rfl⟩
              have edl : (k : Int) - (p : Int) = (dl : Int) := by omega
              have edl2 : k - p = dl := hdl.symm
              rw [← hdl] at HFIN HLD
              clear hkp hdl
              go_wp2_with (at_builtin; refine wpList_append_own _ rfl (.tmp 42) (.tmp 45) 97 rfl W.heap.size 2 i0 (.int .i64 0) 1 8 Tryz.underlying97 hi0 hz0 hz1 hz2 rfl (by decide) _ _ _ rfl HOW2.out ⟨g, p, none⟩ dl _ ((ints (l.drop p)).map (Value.int .i64)) rfl ?len3 ?new3 (own_cells _) ?c31 ?c32 (by omega) ?_)
              case len3 => rw [List.length_map, HLD.out, Nat.mul_one]
              case new3 => exact isO_drop O2.out p
              case c31 => have := HLD.out; unfold maxLen; omega
              case c32 => have := HLD.out; omega
              intro v3 w3 hown3 hgrow3 _
              have HO3 := hideO (HFIN.out v3 w3 hown3)
              have HN3 := hideO (own_ne HO3.out (by simp [ints_len]; omega))
              have hb3 := hideO (Ze.app_row B2.out z2 (Nat.le_refl _) HO2.out hgrow3)
              clear hown3 hgrow3
              go_wp2_with fail
              go_roundw
              case rel => exact ⟨k + 1, _, by go_num, by omega, HQ.out.1, HQ.out.2, HO3.out.mono zs4, HN3.out, B4.out.trans (hb3.out.mono zs4)⟩
              case measure => simp [intOf]; omega
        · have hpd : decide ((0 : Int) < (p : Int)) = false := decide_eq_false (by omega)
          have hpn : ¬ (0 : Int) < (p : Int) := by omega
          clear hO2
          go_wp2_with fail
          go_quiet (fail)
          have HQ := hideO (ord_put (clT_weak (turnV t)) HP.out HS.out (show p ≤ l.length by have := HL.out; omega) HHI.out (by exact Or.inl (by omega)))
          have G4 := hideO (own_drewN G1.out (q + nq))
          have O4 : Hid (IsO (wo.drewN (q + nq)) g 2 (ints l)) := HO.out.of_heap rfl
          have B4 := hideO (below_drewN GB.out (q + nq))
          have hW : wr.drewN nq = wo.drewN (q + nq) := by rw [HWR.out]; exact World.drewN_drewN _ _ _
          have z4 : g < (wo.drewN (q + nq)).heap.size := hgl
          have zs4 : w.heap.size ≤ (wo.drewN (q + nq)).heap.size := hsz
          rw [hW]
          clear hW
          generalize wo.drewN (q + nq) = W at G4 O4 B4 z4 zs4 ⊢
          have HEM := hideO (Ze.OwnI.empty W)
          have HTA : Hid ((ints l).length = k) := by
            unfold Hid
            rw [ints_len, HL.out]
          have hpc : (p : Int) ≤ (cap : Int) := by omega
          have hpk' : (p : Int) ≤ (k : Int) := by omega
          go_wp2_with (at_builtin; refine wpList_append_own _ rfl (.tmp 33) (.tmp 36) 97 rfl W.heap.size 2 i0 (.int .i64 0) 1 8 Tryz.underlying97 hi0 hz0 hz1 hz2 rfl (by decide) _ 0 [] rfl HEM.out ⟨g, 0, none⟩ p cap ((ints (l.take p)).map (Value.int .i64)) rfl ?len1 ?new1 (own_cells _) (by unfold maxLen; omega) (by omega) (by simp) ?_)
          case len1 => simp [ints_len]; have := HL.out; omega
          case new1 => exact own_news (isO_take (O4.out.below ((Below.refl _ W).alloc (Nat.le_refl _) _) z4) p)
          intro v1 w1 hown1 hgrow1 _
          have HO1 : Hid (OwnI w1 W.heap.size v1 (ints (l.take p))) := by
            have e : (ints (l.take p)).length = p := by simp [ints_len]; have := HL.out; omega
            unfold Hid OwnI
            rw [e]
            exact hown1
          have hb1 : Below W.heap.size W w1 := ((Below.refl W.heap.size W).alloc (Nat.le_refl _) _).grown hgrow1 (by simp) (fun k hk => by simp [Value.ownBlock] at hk; omega)
          have z1 := hb1.size
          have O1 := hideO (O4.out.below hb1 z4)
          have B1 := hideO hb1
          clear hown1 hgrow1 hb1
          have HLT : Hid ((ints (l.take p)).length = p) := by
            unfold Hid
            simp [ints_len]
            have := HL.out
            omega
          go_wp2_with (at_builtin; refine wpList_append_own _ rfl (.tmp 38) (.tmp 40) 97 rfl W.heap.size 2 i0 (.int .i64 0) 1 8 Tryz.underlying97 hi0 hz0 hz1 hz2 rfl (by decide) _ _ _ rfl (Ze.OwnI.alloc HO1.out _) ⟨w1.heap.size, 0, none⟩ 1 1 [.int .i64 (k : Nat)] rfl rfl (one_newI _ _ _) (one_cellI _) (by rw [HLT.out]; unfold maxLen; omega) (by rw [HLT.out]; omega) (by simp; omega) ?_)
          intro v2 w2 hown2 hgrow2 _
          have HO2 : Hid (OwnI w2 W.heap.size v2 (ints (l.take p ++ [k]))) := by
            unfold Hid
            rw [ints_snoc]
            exact In.OwnI.snoc hown2
          have hb2 := In.app_one B1.out z1 (Nat.le_refl _) HO1.out hgrow2
          have z2 := hb2.size
          have O2 := hideO (O4.out.below hb2 z4)
          have B2 := hideO hb2
          clear hown2 hgrow2 hb2 B1 O1
          have HLT2 : Hid ((ints (l.take p ++ [k])).length = p + 1) := by
            unfold Hid
            simp [ints_len]
            have := HL.out
            omega
          have HLD : Hid ((ints (l.drop p)).length = k - p) := by
            unfold Hid
            simp [ints_len, HL.out]
          have HFIN : Hid (∀ v3 w3, w3.ownsRow W.heap.size 2 1 v3 (p + 1 + (k - p)) ((ints (l.take p ++ [k])).map (Value.int .i64) ++ (ints (l.drop p)).map (Value.int .i64)) → OwnI w3 W.heap.size v3 (ints (l.take p ++ [k] ++ l.drop p))) := fun v3 w3 h => by
            have e : ints (l.take p ++ [k] ++ l.drop p) = ints (l.take p ++ [k]) ++ ints (l.drop p) := by simp [ints]
            rw [e]
            apply Ze.OwnI.joined
            rw [HLT2.out, HLD.out]
            exact h
          have HOW2 : Hid (w2.ownsRow W.heap.size 2 1 v2 (p + 1) ((ints (l.take p ++ [k])).map (Value.int .i64))) := by
            have := HO2.out
            unfold OwnI at this
            rw [HLT2.out] at this
            exact this
          have hv2 : v2 ≠ .slice none 0 0 := own_ne HO2.out (by rw [HLT2.out]; omega)
          by_cases hkp : p = k
          · have HD0 : Hid (ints (l.drop p) = []) := by
              unfold Hid
              rw [hkp, ← HL.out, List.drop_length]
              rfl
            subst hkp
            by_cases hcp : cap = p
            · subst hcp
              go_wp2_with (at_builtin; refine wpList_append_own _ rfl (.tmp 42) (.tmp 45) 97 rfl W.heap.size 2 i0 (.int .i64 0) 1 8 Tryz.underlying97 hi0 hz0 hz1 hz2 rfl (by decide) _ _ _ rfl HOW2.out _ 0 _ [] rfl rfl (by intro j u hj; simp at hj) (by intro u hu; simp at hu) (by unfold maxLen; omega) (by omega) (by omega) ?_)
              intro v3 w3 hown3 hgrow3 _
              have HO3 := hideO (HFIN.out v3 w3 (by rw [HD0.out, Nat.sub_self, List.map_nil, List.append_nil]; exact hown3))
              have HN3 := hideO (own_ne HO3.out (by simp [ints_len]; omega))
              have hb3 := hideO (Ze.app_row B2.out z2 (Nat.le_refl _) HO2.out hgrow3)
              clear hown3 hgrow3
              go_wp2_with fail
              go_roundw
              case rel => exact ⟨cap + 1, _, by go_num, by omega, HQ.out.1, HQ.out.2, HO3.out.mono zs4, HN3.out, B4.out.trans (hb3.out.mono zs4)⟩
              case measure => simp [intOf]; omega
            · have hcp1 : ¬ (cap : Int) = (p : Int) := by omega
              have hcp2 : p < cap := by omega
              go_wp2_with (at_builtin; refine wpList_append_own _ rfl (.tmp 42) (.tmp 45) 97 rfl W.heap.size 2 i0 (.int .i64 0) 1 8 Tryz.underlying97 hi0 hz0 hz1 hz2 rfl (by decide) _ _ _ rfl HOW2.out _ 0 _ [] rfl rfl (by intro j u hj; simp at hj) (by intro u hu; simp at hu) (by unfold maxLen; omega) (by omega) (by omega) ?_)
              intro v3 w3 hown3 hgrow3 _
              have HO3 := hideO (HFIN.out v3 w3 (by rw [HD0.out, Nat.sub_self, List.map_nil, List.append_nil]; exact hown3))
              have HN3 := hideO (own_ne HO3.out (by simp [ints_len]; omega))
              have hb3 := hideO (Ze.app_row B2.out z2 (Nat.le_refl _) HO2.out hgrow3)
              clear hown3 hgrow3
              go_wp2_with fail
              go_roundw
              case rel => exact ⟨p + 1, _, by go_num, by omega, HQ.out.1, HQ.out.2, HO3.out.mono zs4, HN3.out, B4.out.trans (hb3.out.mono zs4)⟩
              case measure => simp [intOf]; omega
          · have hpk2 : p < k := by omega
            have hcp0 : ¬ cap = p := by omega
            have hcp1 : ¬ (cap : Int) = (p : Int) := by omega
            obtain ⟨dl, hdl⟩ : ∃ dl, dl = k - p := ⟨_, rfl⟩
            have edl : (k : Int) - (p : Int) = (dl : Int) := by omega
            have edl2 : k - p = dl := hdl.symm
            rw [← hdl] at HFIN HLD
            clear hkp hdl
            go_wp2_with (at_builtin; refine wpList_append_own _ rfl (.tmp 42) (.tmp 45) 97 rfl W.heap.size 2 i0 (.int .i64 0) 1 8 Tryz.underlying97 hi0 hz0 hz1 hz2 rfl (by decide) _ _ _ rfl HOW2.out ⟨g, p, none⟩ dl _ ((ints (l.drop p)).map (Value.int .i64)) rfl ?len3 ?new3 (own_cells _) ?c31 ?c32 (by omega) ?_)
            case len3 => rw [List.length_map, HLD.out, Nat.mul_one]
            case new3 => exact isO_drop O2.out p
            case c31 => have := HLD.out; unfold maxLen; omega
            case c32 => have := HLD.out; omega
            intro v3 w3 hown3 hgrow3 _
            have HO3 := hideO (HFIN.out v3 w3 hown3)
            have HN3 := hideO (own_ne HO3.out (by simp [ints_len]; omega))
            have hb3 := hideO (Ze.app_row B2.out z2 (Nat.le_refl _) HO2.out hgrow3)
            clear hown3 hgrow3
            go_wp2_with fail
            go_roundw
            case rel => exact ⟨k + 1, _, by go_num, by omega, HQ.out.1, HQ.out.2, HO3.out.mono zs4, HN3.out, B4.out.trans (hb3.out.mono zs4)⟩
            case measure => simp [intOf]; omega
    · obtain rfl : k = t.size := by omega
      go_wp2_with fail
      go_ret
      exact ⟨_, l, rfl, G1.out, ⟨HP.out, HS.out⟩, by simp, GB.out⟩
end Go.Proofs.YtjdlgpnhkfdehaaGreatDoor.So

