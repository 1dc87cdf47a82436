/- Texts put together: CodeMap, CodeWhy, PackWalks, GetImpl2, GetTop2, OpenWalks, SoInsI. -/
import Derived.Test.YthbpenanelbbcaaGreatDoorBz24
import Derived.Test.YthbpenanelbbcaaGreatDoorBz31
import Derived.Maps.RangeWalk
import Derived.Maps.OwnSet
import Derived.StringKeys
import Derived.Shelf.Strings.Prefix
import Derived.Test.YthbpenanelbbcaaGreatDoorBz20
import Derived.Test.YthbpenanelbbcaaGreatDoorBz17
import Derived.Laws.AppendOwn
import Derived.BigRegion
import Derived.Test.YthbpenanelbbcaaGreatDoorBz30
import Derived.Maps.OwnOps
import Derived.Test.YthbpenanelbbcaaGreatDoorBz27
/- The walks of the program's own helpers on a map of codes. -/
namespace Go.Proofs.YthbpenanelbbcaaGreatDoor.Bi
open Go.RowKit Go.Maps
open Go.WideMaps (keyOf_string_mk string_of_keyOf)
open Go.Proofs.YthbpenanelbbcaaGreatDoor.In (Ints)
open Go.Proofs.YthbpenanelbbcaaGreatDoor.St (IsS)
open Go.Proofs.YthbpenanelbbcaaGreatDoor.Nu (ret_strJ)
abbrev DU := DataW Unit
theorem _root_.Go.Proofs.YthbpenanelbbcaaGreatDoor.St.IsS.of_heapS {w w' : World} {g t : Nat} {l : List ByteArray} (h : IsS w g t l) (e : w'.heap[g]? = w.heap[g]?) : IsS w' g t l := by
 unfold IsS
 rw [e]
 exact h
theorem lawS : Keyed Tryz.prog 9 := string_keyed Tryz.underlying9
theorem zeroI (w : World) : (zeroValue 2).run Tryz.prog w = .ok (.int .i64 0) w := by kernel_rfl
def kl (c : ByteArray) : Lit := .string c.data.toList
theorem kl_inj {c d : ByteArray} (h : kl c = kl d) : c = d := by
 unfold kl at h
 have : c.data.toList = d.data.toList := by simpa using h
 have h2 : c.data = d.data := Array.toList_inj.1 this
 cases c; cases d; simp at h2; rw [h2]
def CM (l : List Int) (D : DU) (k : Nat) : Prop :=
 (∀ z, Maps.has D z = true ↔ ∃ i, i < k ∧ i < l.length ∧ 0 < l.getD i 0 ∧ z = kl (codeOf l i)) ∧
 (∀ i, i < k → i < l.length → 0 < l.getD i 0 → ∀ z, D.atKey (kl (codeOf l i)) z = .lit (.int .i64 (i : Int)))
theorem CM.start (l : List Int) : CM l (.map []) 0 := by
 refine ⟨fun z => ⟨fun h => ?_, fun ⟨i, hi, _⟩ => absurd hi (Nat.not_lt_zero i)⟩, fun i hi => absurd hi (Nat.not_lt_zero i)⟩
 simp [Maps.has] at h
theorem CM.skip {l : List Int} {D : DU} {k : Nat} (h : CM l D k) (h0 : ¬ 0 < l.getD k 0) : CM l D (k + 1) := by
 refine ⟨fun z => (h.1 z).trans ⟨fun ⟨i, a, b⟩ => ⟨i, by omega, b⟩, fun ⟨i, a, b, c, d⟩ => ⟨i, ?_, b, c, d⟩⟩, fun i hi => ?_⟩
 ·by_cases e : i = k
  ·subst e; exact absurd c h0
  ·omega
 ·intro hl hp
  by_cases e : i = k
  ·subst e; exact absurd hp h0
  ·exact h.2 i (by omega) hl hp
theorem code_ne {l : List Int} (hr : csum l ≤ 4096) (hok : ∀ x ∈ l, 0 ≤ x ∧ x ≤ 12) {i j : Nat} (hi : i < l.length) (hj : j < l.length) (h0 : 0 < l.getD i 0) (h0' : 0 < l.getD j 0) (h : codeOf l i = codeOf l j) : i = j := by
 have hs : (codeOf l i).size = wd l i := codeOf_size l i
 have hs' : (codeOf l j).size = wd l j := codeOf_size l j
 have m1 : mt l (codeOf l i) i := ⟨hi, h0, by omega, by rw [← hs]; exact ByteArray.extract_zero_size⟩
 have m2 : mt l (codeOf l i) j := ⟨hj, h0', by rw [h]; omega, by rw [h, ← hs']; exact ByteArray.extract_zero_size⟩
 exact mt_one hr hok m1 m2
theorem CM.put {l : List Int} {D : DU} {k : Nat} (h : CM l D k) (hD : IsMap D) (hr : csum l ≤ 4096) (hok : ∀ x ∈ l, 0 ≤ x ∧ x ≤ 12) (hk : k < l.length) (h0 : 0 < l.getD k 0) : CM l (D.put (kl (codeOf l k)) (.lit (.int .i64 (k : Int)))) (k + 1) := by
 have hK : WideAt.IsKeyLit (kl (codeOf l k)) := trivial
 refine ⟨fun z => ?_, fun i hi hl hp z => ?_⟩
 ·by_cases e : z = kl (codeOf l k)
  ·subst e
   rw [has_put_same hD hK]
   exact ⟨fun _ => ⟨k, by omega, hk, h0, rfl⟩, fun _ => rfl⟩
  ·rw [has_put_other e, h.1 z]
   refine ⟨fun ⟨i, a, b⟩ => ⟨i, by omega, b⟩, fun ⟨i, a, b, c, d⟩ => ⟨i, ?_, b, c, d⟩⟩
   by_cases e2 : i = k
   ·subst e2; exact absurd d e
   ·omega
 ·by_cases e : i = k
  ·subst e
   exact atKey_put_same hD hK _ _
  ·have hne : kl (codeOf l i) ≠ kl (codeOf l k) := fun x => e (code_ne hr hok hl hk hp h0 (kl_inj x))
   rw [atKey_put_other hne]
   exact h.2 i (by omega) hl hp z
set_option maxRecDepth 100000 in
set_option maxHeartbeats 4000000 in
theorem symbols_any (l : List Int) (a : Option Addr) (cap : Nat) (w : World) (hl : Ints w w.heap.size a l) (hr : right l = true) :
  Calls Tryz.prog 144 #[.slice a l.length cap] w fun e w' => ∃ D : DU, e = .returned (.map (some w.heap.size)) ∧ w'.ownsMap Tryz.prog 9 (plainElem Tryz.prog 2) w.heap.size l.length D ∧ CM l D l.length ∧ Below w.heap.size w w' := by
 have hok := (within_yes (right_yes hr).1).2
 have hcs := (right_yes hr).2
 have hn := (within_yes (right_yes hr).1).1
 have HC := hideB (codes_yes l a cap w.heap.size (w.alloc (.map #[] 0)) (hl.below ((Below.refl _ _).alloc (Nat.le_refl _) _)) (by simp) hr)
 have HK := hideB hok
 have HS := hideB hcs
 have HCL := hideB (codesV_length l)
 clear hl hr hok hcs
 obtain ⟨n, hln⟩ : ∃ n, n = l.length := ⟨_, rfl⟩
 have HLN := hideB hln
 rw [← hln] at hn HC HCL ⊢
 clear hln
 have hmm := @run_makeMap Tryz.prog
 go_enter Tryz.func144, Tryz.ntmps144
 go_wp2_with fail
 refine HC.out.mono ?_
 rintro e w1 ⟨rfl, hi1, hb1⟩
 have z0 : (w.alloc (.map #[] 0)).heap.size = w.heap.size + 1 := by simp
 rw [z0] at hi1 hb1
 have X1 := hideB hi1
 have M1 := hideB (show w1.ownsMap Tryz.prog 9 (plainElem (H := Unit) Tryz.prog 2) w.heap.size 0 (.map []) from World.ownsMap.kept (World.ownsMap_made w _ _ _) (row := none) ⟨hb1.os, hb1.tape, hb1.output, hb1.size, fun i hi _ => hb1.block i (by rw [z0] at hi; exact hi)⟩ (by simp))
 have B1 := hideB (Below.trans ((Below.refl w.heap.size w).alloc (Nat.le_refl _) (.map #[] 0)) (hb1.mono (Nat.le_succ _)))
 have z1 : w.heap.size + 1 < w1.heap.size := hi1.lt
 rw [z0]
 clear hi1 hb1 z0 hmm
 go_wp2_with fail
 go_loopw [10] (fun i wr => ∃ (k : Nat) (D : DU), i = .int .i64 k ∧ k ≤ n ∧ wr.ownsMap Tryz.prog 9 (plainElem Tryz.prog 2) w.heap.size k D ∧ CM l D k ∧ IsS wr (w.heap.size + 1) 9 (codesV l) ∧ Below w.heap.size w wr) (fun i _ => n - (intOf i).toNat)
 case atStart => exact ⟨0, _, rfl, Nat.zero_le _, M1.out, CM.start l, X1.out, B1.out⟩
 case round =>
  obtain ⟨k, D, rfl, hk, hown, hcm, hx, hbel⟩ := hrel
  have HO := hideB hown
  have HM := hideB hcm
  have HX := hideB hx
  have GB := hideB hbel
  clear hown hcm hx hbel
  by_cases hlt : k < n
  ·have hkl : k < l.length := by rw [← HLN.out]; exact hlt
   have hkv : k < (codesV l).length := by rw [HCL.out]; exact hlt
   have ci := HX.out.cell hkv
   rw [codes_get l HK.out k hkv] at ci
   have HNONE := hideB (codeOf_none l k)
   have HSZ := hideB (codeOf_size l k)
   have hcl := codeOf_le l HK.out k
   have HPUT := hideB (fun h0 => CM.put HM.out HO.out.isMap HS.out HK.out hkl h0)
   have HSKIP := hideB (fun h0 => CM.skip HM.out (k := k) h0)
   obtain ⟨c, hc⟩ : ∃ c, c = codeOf l k := ⟨_, rfl⟩
   rw [← hc] at ci HNONE HSZ hcl HPUT
   clear hc
   by_cases h0 : 0 < l.getD k 0
   ·have hne : c.toList.isEmpty = false := nonempty c (by rw [HSZ.out]; omega)
    have hkey : keyOf Tryz.prog 9 (.string c) = some (kl c) := keyOf_string_mk Tryz.underlying9 (by unfold maxLen; omega)
    have HP2 := hideB (HPUT.out h0)
    have hown := HO.out
    clear h0 hcl
    go_wp2_with (first | (at_mapUpdate; refine wpList_mapUpdate_own _ rfl _ _ _ 168 rfl 9 2 lawS Tryz.underlying168 _ w.heap.size k _ rfl hown (by unfold maxLen; omega) _ _ _ rfl rfl hkey _ [] (plainElem_int Tryz.underlying2 (WalkArith.wf_i64 (by omega))) ?_; intro w2 hown2 hgrow2; have HO2 := hideB hown2; have HX2 := hideB (HX.out.of_heapS (hgrow2.block (w.heap.size + 1) HX.out.lt (by simp))); have GB2 := hideB (GB.out.grown hgrow2 GB.out.size (fun j hj => by cases hj; exact Nat.le_refl _)); clear hown2 hgrow2; go_frame))
    go_wp2_with fail
    go_roundw
    case rel => exact ⟨k + 1, _, by go_num, by omega, HO2.out, HP2.out, HX2.out, GB2.out⟩
    case measure => simp [intOf]; omega
   ·have hce := HNONE.out h0
    have HP2 := hideB (HSKIP.out h0)
    have HO2 := hideB (HO.out.mono (Nat.le_succ k))
    subst hce
    clear h0 hcl
    go_wp2_with fail
    go_roundw
    case rel => exact ⟨k + 1, D, by go_num, by omega, HO2.out, HP2.out, HX.out, GB.out⟩
    case measure => simp [intOf]; omega
  ·obtain rfl : k = n := by omega
   go_wp2_with fail
   go_ret
   exact ⟨D, rfl, HO.out, HM.out, GB.out⟩
def preR : Go.Shelf.Ren := ⟨fun | 99 => 56 | 206 => 87 | n => n, fun | 9 => 9 | 4 => 4 | 3 => 3 | n => n, fun | n => n⟩
theorem preL : Go.Proofs.Lays.n99 Tryz.prog preR := {
 mixed := by kernel_rfl
 f99 := Tryz.func56.trans (congrArg some (by kernel_rfl))
 f206 := Tryz.func87.trans (congrArg some (by kernel_rfl))
 t3 := Tryz.underlying3
 a3 := Tryz.isAgg3
 z3 := Tryz.sizeOf3
 v3 := Tryz.zeroValue3
 t4 := Tryz.underlying4
 a4 := Tryz.isAgg4
 z4 := Tryz.sizeOf4
 v4 := Tryz.zeroValue4
 t9 := Tryz.underlying9
 a9 := Tryz.isAgg9
 z9 := Tryz.sizeOf9
 v9 := Tryz.zeroValue9 }
theorem prefix_any (s p : ByteArray) (w : World) :
  Calls Tryz.prog 56 #[.string s, .string p] w fun e w' => e = .returned (.bool (Lib.hasPrefix s.data.toList p.data.toList)) ∧ w' = w := Any.strings_HasPrefix preL s p w
def symT (l : List Int) (t : ByteArray) : ByteArray := match sym l t with
 | some i => codeOf l i
 | none => ⟨#[]⟩
set_option maxRecDepth 100000 in
set_option maxHeartbeats 4000000 in
theorem first_any (l : List Int) (t : ByteArray) (b n : Nat) (D : DU) (w : World) (hown : w.ownsMap Tryz.prog 9 (plainElem Tryz.prog 2) b n D) (hcm : CM l D l.length) (hr : right l = true) (ht : t.size ≤ 8000) :
  Calls Tryz.prog 145 #[.map (some b), .string t] w fun e w' => e = .returned (.string (symT l t)) ∧ w' = w := by
 have hok := (within_yes (right_yes hr).1).2
 have hcs := (right_yes hr).2
 have w12 : ∀ k, k < l.length → wd l k ≤ 12 := fun k hk => by
  have := hok _ (List.getElem_mem hk)
  unfold wd
  rw [getD_lt hk]
  omega
 have HSYM := hideB (fun (i : Nat) (h : mt l t i) => sym_of hcs hok h)
 have HNONE := hideB (fun (h : ∀ i, ¬ mt l t i) => sym_none h)
 have HCM := hideB hcm
 have HW := hideB w12
 clear hok hcs w12 hcm hr
 obtain ⟨r, hrr⟩ : ∃ r, r = symT l t := ⟨_, rfl⟩
 have HR := hideB hrr
 rw [← hrr]
 clear hrr
 go_enter Tryz.func145, Tryz.ntmps145
 go_wp2_with fail
 go_loopw [5] (fun i wr => ∃ v : Nat, i = .int .i64 v ∧ 1 ≤ v ∧ v ≤ 13 ∧ v ≤ t.size + 1 ∧ (∀ j, mt l t j → v ≤ wd l j) ∧ wr = w) (fun i _ => 13 - (intOf i).toNat)
 case atStart => exact ⟨1, rfl, Nat.le_refl _, by omega, by omega, fun j hj => by have := hj.2.1; unfold wd; omega, rfl⟩
 case round =>
  obtain ⟨v, rfl, hv1, hv13, hvt, hall, hw⟩ := hrel
  subst hw
  have HA := hideB hall
  clear hall
  by_cases hA : v ≤ 12 ∧ v ≤ t.size
  ·obtain ⟨hv12, hvs⟩ := hA
   have hvi : (v : Int) ≤ 12 := by omega
   have hvsi : (v : Int) ≤ t.size := by omega
   have hmn : (v : Int) ≤ min 12 (t.size : Int) := by omega
   have hes : (t.extract 0 v).size = v := by rw [ByteArray.size_extract]; omega
   have HES := hideB hes
   have hkey : keyOf Tryz.prog 9 (.string (t.extract 0 v)) = some (kl (t.extract 0 v)) := keyOf_string_mk Tryz.underlying9 (by unfold maxLen; omega)
   have HHAS := hideB (HCM.out.1 (kl (t.extract 0 v)))
   clear hes
   cases hh : Maps.has D (kl (t.extract 0 v)) with
   | true =>
    have HE : Hid (t.extract 0 v = r) := by
     unfold Hid
     obtain ⟨i, h1, h2, h3, h4⟩ := HHAS.out.1 hh
     have h5 := kl_inj h4
     have h6 : wd l i = v := by rw [← HES.out, h5]; exact (codeOf_size l i).symm
     have hm : mt l t i := ⟨h2, h3, by omega, by rw [h6]; exact h5⟩
     rw [HR.out, h5]
     unfold symT
     rw [HSYM.out i hm]
    go_wp2_with (first | (at_lookup; refine wpList_lookup_own_ok_int _ rfl _ _ 168 rfl 9 2 .i64 lawS Tryz.underlying168 Tryz.underlying2 (zeroI _) b n D rfl hown _ _ rfl hkey ?_; intro c hat hwc; rw [hh]; clear hat hwc))
    go_ret
    exact ⟨ret_strJ HE.out, rfl⟩
   | false =>
    have HN : Hid (∀ j, mt l t j → v + 1 ≤ wd l j) := fun j hj => by
     have h1 := HA.out j hj
     by_cases e : wd l j = v
     ·have h2 : Maps.has D (kl (t.extract 0 v)) = true := HHAS.out.2 ⟨j, hj.1, hj.1, hj.2.1, by rw [← e]; rw [hj.2.2.2]⟩
      rw [hh] at h2
      cases h2
     ·omega
    go_wp2_with (first | (at_lookup; refine wpList_lookup_own_ok_int _ rfl _ _ 168 rfl 9 2 .i64 lawS Tryz.underlying168 Tryz.underlying2 (zeroI _) b n D rfl hown _ _ rfl hkey ?_; intro c hat hwc; rw [hh]; clear hat hwc))
    go_wp2_with fail
    go_roundw
    case rel => exact ⟨v + 1, by go_num, by omega, by omega, by omega, HN.out, trivial⟩
    case measure => simp [intOf]; omega
  ·have hmn : decide ((v : Int) ≤ min 12 (t.size : Int)) = false := decide_eq_false (by omega)
   have HE : Hid (r = ⟨#[]⟩) := by
    unfold Hid
    rw [HR.out]
    unfold symT
    rw [HNONE.out (fun i hm => hA ⟨by have h1 := HA.out i hm; have h2 := HW.out i hm.1; omega, by have h1 := HA.out i hm; have h2 := hm.2.2.1; omega⟩)]
   clear hA
   go_wp2_with fail
   go_ret
   exact ⟨ret_strJ HE.out.symm, rfl⟩
end Go.Proofs.YthbpenanelbbcaaGreatDoor.Bi


/- The walk of impl.whyNoCode: a range over the map of codes, out of which those go that do not begin with the bits. -/
namespace Go.Proofs.YthbpenanelbbcaaGreatDoor.Bi
open Go.RowKit Go.Maps
open Go.WideMaps (keyOf_string_mk string_of_keyOf)
def pf (t : ByteArray) : Lit → Bool
 | .string bs => Lib.hasPrefix bs t.data.toList
 | _ => false
theorem pf_kl (t c : ByteArray) : pf t (kl c) = Lib.hasPrefix c.data.toList t.data.toList := rfl
def Swept (D D' : DU) (t : ByteArray) (left : Lit → Bool) : Prop := ∀ z, Maps.has D' z = (Maps.has D z && (left z || pf t z))
theorem Swept.start (D : DU) (t : ByteArray) : Swept D D t (Maps.has D) := fun z => by cases Maps.has D z <;> simp
theorem same_kl (c : ByteArray) : (kl c).sameKey (kl c) = true := by simp [kl, Lit.sameKey]
theorem Swept.stays {D D' : DU} {t : ByteArray} {left : Lit → Bool} {c : ByteArray} (h : Swept D D' t left) (hp : Lib.hasPrefix c.data.toList t.data.toList = true) : Swept D D' t (fun z => left z && !z.sameKey (kl c)) := fun z => by
 rw [h z]
 by_cases e : z = kl c
 ·subst e
  rw [pf_kl, hp]
  simp
 ·simp only [sameKey_ne e]
  simp
theorem Swept.goes {D D' : DU} {t : ByteArray} {left : Lit → Bool} {c : ByteArray} (h : Swept D D' t left) (hp : Lib.hasPrefix c.data.toList t.data.toList = false) : Swept D (D'.del (kl c)) t (fun z => left z && !z.sameKey (kl c)) := fun z => by
 by_cases e : z = kl c
 ·subst e
  rw [has_del_same, pf_kl, hp]
  simp only [same_kl]
  simp
 ·rw [has_del_other e, h z]
  simp only [sameKey_ne e]
  simp
theorem size_none {D : DU} (hD : IsMap D) (h : ∀ z, Maps.has D z = false) (hk : ∀ es, D = .map es → ∀ p ∈ es, WideAt.IsKeyLit p.1) : Maps.size D = 0 := by
 obtain ⟨es, rfl⟩ := hD
 cases es with
 | nil => rfl
 | cons p es =>
  exfalso
  have h1 := hk _ rfl p List.mem_cons_self
  have h2 := h p.1
  rw [has_eq, List.any_cons] at h2
  have h3 : p.1.sameKey p.1 = true := by
   obtain ⟨k, d⟩ := p
   cases k <;> simp_all [Lit.sameKey, WideAt.IsKeyLit]
  rw [h3] at h2
  simp at h2
theorem size_some {D : DU} (hD : IsMap D) {z : Lit} (h : Maps.has D z = true) : 0 < Maps.size D := by
 obtain ⟨es, rfl⟩ := hD
 cases es with
 | nil => simp [Maps.has] at h
 | cons p es => simp [size_eq]
set_option maxRecDepth 100000 in
set_option maxHeartbeats 4000000 in
theorem why_any (l : List Int) (t : ByteArray) (b n B : Nat) (D : DU) (w : World) (hown : w.ownsMap Tryz.prog 9 (plainElem Tryz.prog 2) b n D) (hcm : CM l D l.length) (hB : B ≤ b) (hBw : B ≤ w.heap.size) :
  Calls Tryz.prog 146 #[.map (some b), .string t] w fun e w' => e = .returned (.int .i64 (why l t)) ∧ Below B w w' := by
 have HCM := hideB hcm
 clear hcm
 have hbw := hown.lt
 go_enter Tryz.func146, Tryz.ntmps146
 go_wp2_with (first | (at_range; refine wpList_range_own _ rfl _ 168 rfl 9 2 lawS Tryz.underlying168 _ b n _ rfl hown ?_; intro w0 hrg0 hg0 hs0))
 have HB0 := hideB ((Below.refl B w).grown hg0 hBw (fun j hj => by cases hj))
 go_frame
 go_loopw [5] (fun _ wr => ∃ (left : Lit → Bool) (cnt : Nat) (D' : DU), wr.ranges Tryz.prog 9 (plainElem Tryz.prog 2) b w.heap.size n D' left cnt ∧ Swept D D' t left ∧ Below B w wr) (fun _ wr => wr.rangeLeft b w.heap.size)
 case atStart => exact ⟨_, _, D, hrg0, Swept.start D t, HB0.out⟩
 case round =>
  obtain ⟨left, cnt, D', hrg, hsw, hbel⟩ := hrel
  have HSW := hideB hsw
  have GB := hideB hbel
  clear hsw hbel
  go_wp2_with (first | (at_next; refine wpList_next_ranges _ rfl _ rfl 9 lawS (plainElem Tryz.prog 2) Value.string (Value.int .i64) (fun key kl hkey => by obtain ⟨s, rfl, _⟩ := string_of_keyOf Tryz.underlying9 hkey; exact ⟨s, rfl⟩) (fun v y hv => by obtain ⟨c, rfl, _⟩ := plainElem_int_inv Tryz.underlying2 hv; exact ⟨c, rfl⟩) b w.heap.size n D' left cnt rfl hrg ?_ ?_))
  ·intro _ hl0
   have hown' := hrg.owns
   have HPF : Hid (∀ z, Maps.has D' z = (Maps.has D z && pf t z)) := fun z => by
    rw [HSW.out z, hl0 z, Bool.false_or]
   cases hw : wth l t with
   | true =>
    have hz : (((Maps.size D' : Nat) : Int) == 0) = false := by
     obtain ⟨i, h1, h2, h3⟩ := wth_yes hw
     have h4 : Maps.has D' (kl (codeOf l i)) = true := by
      rw [HPF.out, (HCM.out.1 _).2 ⟨i, h1, h1, h2, rfl⟩, pf_kl, h3]
      rfl
     have h5 := size_some hown'.isMap h4
     exact beq_eq_false_iff_ne.2 (by omega)
    have HE : Hid (why l t = 4) := by
     unfold Hid why
     rw [if_pos hw]
    clear hw hl0 hrg
    go_wp2_with (first | (at_len; refine wpList_len_own _ rfl _ 168 rfl 9 2 Tryz.underlying168 _ b n D' rfl hown' ?_))
    go_ret
    exact ⟨by rw [HE.out]; rfl, GB.out⟩
   | false =>
    have hz : Maps.size D' = 0 := by
     obtain ⟨es, hes, _, hks⟩ := hown'.entries lawS
     refine size_none hown'.isMap (fun z => ?_) (fun es' he' p hp => by rw [hes] at he'; cases he'; exact hks p hp)
     rw [HPF.out]
     cases hh : Maps.has D z with
     | false => rfl
     | true =>
      obtain ⟨i, h1, h2, h3, rfl⟩ := (HCM.out.1 z).1 hh
      rw [pf_kl, Bool.true_and]
      cases hp : Lib.hasPrefix (codeOf l i).data.toList t.data.toList with
      | false => rfl
      | true => rw [wth_of h2 h3 hp] at hw; cases hw
    have HE : Hid (why l t = 3) := by
     unfold Hid why
     rw [if_neg (by rw [hw]; decide)]
    clear hw hl0 hrg
    go_wp2_with (first | (at_len; refine wpList_len_own _ rfl _ 168 rfl 9 2 Tryz.underlying168 _ b n D' rfl hown' ?_; rw [hz]))
    go_ret
    exact ⟨by rw [HE.out]; rfl, GB.out⟩
  ·intro x c klx y1 y2 w1 cnt1 hkey hlx hRv hat hrg1 hlt hg1 hs1 hen
   obtain ⟨s, es, hk2, hsz⟩ := string_of_keyOf Tryz.underlying9 hkey
   obtain rfl : x = s := by simpa using es
   obtain rfl : klx = kl x := hk2
   have GB1 := hideB (GB.out.grown hg1 (Nat.le_trans hBw GB.out.size) (fun j hj => by cases hj; exact hBw))
   have HPX := hideB (prefix_any x t w1)
   cases hp : Lib.hasPrefix x.data.toList t.data.toList with
   | true =>
    have HS1 := hideB (HSW.out.stays hp)
    rw [hp] at HPX
    clear hp es hRv hat
    go_wp2_with fail
    refine HPX.out.mono ?_
    rintro e w' ⟨rfl, hw⟩
    subst w'
    go_wp2_with fail
    go_roundw
    case rel => exact ⟨_, cnt1, D', hrg1, HS1.out, GB1.out⟩
    case measure => rw [hrg1.left_eq, hrg.left_eq]; exact hlt
   | false =>
    have HS1 := hideB (HSW.out.goes hp)
    rw [hp] at HPX
    clear hp es hRv hat
    go_wp2_with fail
    refine HPX.out.mono ?_
    rintro e w' ⟨rfl, hw⟩
    subst w'
    go_wp2_with (first | (at_delete; refine wpList_delete_ranges _ rfl _ _ 168 9 rfl 2 lawS Tryz.underlying168 _ b w.heap.size n _ _ _ rfl hrg1 _ _ rfl hkey ?_; intro w2 cnt2 hrg2 hle hturn; go_frame))
    rw [strike_twice] at hrg2
    have GB2 := hideB (GB1.out.grown hturn.grown (Nat.le_trans hBw GB1.out.size) (fun j hj => by cases hj; exact hB))
    go_roundw
    case rel => exact ⟨_, cnt2, _, hrg2, HS1.out, GB2.out⟩
    case measure => rw [hrg2.left_eq, hrg.left_eq]; omega
end Go.Proofs.YthbpenanelbbcaaGreatDoor.Bi


/- The walks of both BitsPack. -/
namespace Go.Proofs.YthbpenanelbbcaaGreatDoor.Bi
open Go.RowKit
open Go.Proofs.YthbpenanelbbcaaGreatDoor.Sh
open Go.Proofs.YthbpenanelbbcaaGreatDoor.Nu (ret_strJ bv own_string app_below)
theorem byte_at (t : ByteArray) (j : Nat) (h : j < t.size) : ∃ y : UInt8, t[j] = y ∧ y.toNat = bt t j := ⟨t[j], rfl, bt_get t j h⟩
theorem all_more (t : ByteArray) (k : Nat) (h : ∀ j, j < k → bt t j = 48 ∨ bt t j = 49) (hk : bt t k = 48 ∨ bt t k = 49) : ∀ j, j < k + 1 → bt t j = 48 ∨ bt t j = 49 := by
 intro j hj
 by_cases e : j = k
 ·rw [e]; exact hk
 ·exact h j (by omega)
set_option maxHeartbeats 1000000 in
theorem good_impl (t : ByteArray) (w : World) (ht : t.size ≤ 1048576) :
  Calls Tryz.prog 81 #[.string t] w fun e w' => e = .returned (.bool (good t)) ∧ w' = w := by
 go_enter Tryz.func81, Tryz.ntmps81
 go_wp2_with fail
 go_loopw [6] (fun i wr => ∃ k : Nat, i = .int .i64 k ∧ k ≤ t.size ∧ (∀ j, j < k → bt t j = 48 ∨ bt t j = 49) ∧ wr = w) (fun i _ => t.size - (intOf i).toNat)
 case atStart => exact ⟨0, rfl, Nat.zero_le _, fun j hj => absurd hj (Nat.not_lt_zero j), rfl⟩
 case round =>
  obtain ⟨k, rfl, hk, hall, hw⟩ := hrel
  subst hw
  have HA := hideB hall
  clear hall
  by_cases hlt : k < t.size
  ·obtain ⟨y, b0, hy⟩ := byte_at t k hlt
   have HY := hideB hy
   by_cases e8 : (y.toNat : Int) = 48
   ·have n8 : ((y.toNat : Int) != 48) = false := by rw [e8]; rfl
    have HM : Hid (∀ j, j < k + 1 → bt t j = 48 ∨ bt t j = 49) := all_more t k HA.out (by rw [← HY.out]; omega)
    clear hy e8
    go_wp2_with fail
    go_roundw
    case rel => exact ⟨k + 1, by go_num, by omega, HM.out, trivial⟩
    case measure => simp [intOf]; omega
   ·have n8 : ((y.toNat : Int) != 48) = true := by rw [bne_iff_ne]; exact e8
    by_cases e9 : (y.toNat : Int) = 49
    ·have n9 : ((y.toNat : Int) != 49) = false := by rw [e9]; rfl
     have HM : Hid (∀ j, j < k + 1 → bt t j = 48 ∨ bt t j = 49) := all_more t k HA.out (by rw [← HY.out]; omega)
     clear hy e8 e9
     go_wp2_with fail
     go_roundw
     case rel => exact ⟨k + 1, by go_num, by omega, HM.out, trivial⟩
     case measure => simp [intOf]; omega
    ·have n9 : ((y.toNat : Int) != 49) = true := by rw [bne_iff_ne]; exact e9
     have HN := hideB (good_not hlt (by rw [← HY.out]; omega) (by rw [← HY.out]; omega))
     clear hy e8 e9
     go_wp2_with fail
     go_ret
     exact ⟨ret_boolB HN.out.symm, rfl⟩
  ·have HG := hideB (good_of (t := t) (fun j hj => HA.out j (by omega)))
   go_wp2_with fail
   go_ret
   exact ⟨ret_boolB HG.out.symm, rfl⟩
set_option maxHeartbeats 1000000 in
theorem good_spec (t : ByteArray) (w : World) (ht : t.size ≤ 1048576) :
  Calls Tryz.prog 99 #[.string t] w fun e w' => e = .returned (.bool (good t)) ∧ w' = w := by
 go_enter Tryz.func99, Tryz.ntmps99
 go_wp2_with fail
 go_loopw [3] (fun i wr => ∃ k : Nat, i = .int .i64 k ∧ k ≤ t.size ∧ (∀ j, j < k → bt t j = 48 ∨ bt t j = 49) ∧ wr = w) (fun i _ => t.size - (intOf i).toNat)
 case atStart => exact ⟨0, rfl, Nat.zero_le _, fun j hj => absurd hj (Nat.not_lt_zero j), rfl⟩
 case round =>
  obtain ⟨k, rfl, hk, hall, hw⟩ := hrel
  subst hw
  have HA := hideB hall
  clear hall
  by_cases hlt : k < t.size
  ·obtain ⟨y, b0, hy⟩ := byte_at t k hlt
   have HY := hideB hy
   by_cases e8 : (y.toNat : Int) = 48
   ·have n8 : ((y.toNat : Int) != 48) = false := by rw [e8]; rfl
    have HM : Hid (∀ j, j < k + 1 → bt t j = 48 ∨ bt t j = 49) := all_more t k HA.out (by rw [← HY.out]; omega)
    clear hy e8
    go_wp2_with fail
    go_roundw
    case rel => exact ⟨k + 1, by go_num, by omega, HM.out, trivial⟩
    case measure => simp [intOf]; omega
   ·have n8 : ((y.toNat : Int) != 48) = true := by rw [bne_iff_ne]; exact e8
    by_cases e9 : (y.toNat : Int) = 49
    ·have n9 : ((y.toNat : Int) != 49) = false := by rw [e9]; rfl
     have HM : Hid (∀ j, j < k + 1 → bt t j = 48 ∨ bt t j = 49) := all_more t k HA.out (by rw [← HY.out]; omega)
     clear hy e8 e9
     go_wp2_with fail
     go_roundw
     case rel => exact ⟨k + 1, by go_num, by omega, HM.out, trivial⟩
     case measure => simp [intOf]; omega
    ·have n9 : ((y.toNat : Int) != 49) = true := by rw [bne_iff_ne]; exact e9
     have HN := hideB (good_not hlt (by rw [← HY.out]; omega) (by rw [← HY.out]; omega))
     clear hy e8 e9
     go_wp2_with fail
     go_ret
     exact ⟨ret_boolB HN.out.symm, rfl⟩
  ·have HG := hideB (good_of (t := t) (fun j hj => HA.out j (by omega)))
   go_wp2_with fail
   go_ret
   exact ⟨ret_boolB HG.out.symm, rfl⟩
set_option maxRecDepth 100000 in
set_option maxHeartbeats 2000000 in
theorem pack_yes (t : ByteArray) (w : World) (ht : ¬ 8000 < t.size) (hg : good t = true) :
  Calls Tryz.prog 47 #[.string t] w fun e w' => e = .returned (.string (packV t)) ∧ Below w.heap.size w w' := by
 obtain ⟨i0, hi, hz0, hz1, hz2⟩ := info_parts Nu.Tryz.infoJ5
 obtain ⟨m, hm⟩ : ∃ m, m = (t.size + 7) / 8 := ⟨_, rfl⟩
 have hmi : ((t.size : Int) + 8 - 1) / 8 = (m : Int) := by omega
 have HMM := hideB hm
 have HMI := hideB hmi
 have hd8 : decide (8000 < (t.size : Int)) = false := decide_eq_false (by omega)
 clear hmi
 have HG := hideB (good_impl t w (by omega))
 rw [hg] at HG
 have HA := hideB (good_yes hg)
 clear hm hg
 have hm2 : m ≤ 1001 := by have := HMM.out; omega
 go_enter Tryz.func47, Tryz.ntmps47
 go_wp2_with fail
 refine HG.out.mono ?_
 rintro e w' ⟨rfl, hw⟩
 subst w'
 go_wp2_with (at_make; refine wpList_make_full _ rfl (.tmp 17) (.tmp 17) 22 rfl w.heap.size 5 i0 (.int .u8 0) 1 Tryz.underlying22 hi hz0 hz1 .i64 .i64 _ _ m rfl rfl HMI.out HMI.out (by rw [hz2]; omega) (by unfold maxLen; omega) (Nat.le_refl _) ?_; intro w1 hown1 hgrow1; have HR := hideB (made_row hown1); have HB := hideB ((Below.refl w.heap.size w).grown hgrow1 (Nat.le_refl _) (by simp)); clear hown1 hgrow1)
 go_loopw [21] (fun i wr => ∃ k : Nat, i = .int .i64 k ∧ k ≤ t.size ∧ IsB wr w.heap.size 5 .u8 m (fun j => (pkK t k j : Nat)) ∧ Below w.heap.size w wr) (fun i _ => t.size - (intOf i).toNat)
 case atStart => exact ⟨0, rfl, by omega, IsB.congr HR.out (fun j hj => by rw [pkK_zero]; rfl), HB.out⟩
 case round =>
  obtain ⟨k, rfl, hk, hr, hbel⟩ := hrel
  have HR2 := hideB hr
  by_cases hlt : k < t.size
  ·obtain ⟨y, b0, hy⟩ := byte_at t k hlt
   have h01 := HA.out k hlt
   rw [← hy] at h01
   have HY := hideB hy
   clear hy
   by_cases e9 : (y.toNat : Int) = 49
   ·have n9 : ((y.toNat : Int) == 49) = true := by rw [e9]; rfl
    have HO : Hid (one t k = 1) := by
     unfold Hid one
     rw [if_pos ⟨hlt, by rw [← HY.out]; omega⟩]
    obtain ⟨q, hq⟩ : ∃ q : Nat, q = k / 8 := ⟨_, rfl⟩
    obtain ⟨r, hrr⟩ : ∃ r : Nat, r = k % 8 := ⟨_, rfl⟩
    have hqi : (k : Int) / 8 = q := by omega
    have hri : (k : Int) % 8 = r := by omega
    have hqm : q < m := by have := HMM.out; omega
    have hr8 : r < 8 := by omega
    have ce := hr.cell (j := q) hqm
    have cf := hr.frozen q
    obtain ⟨s, hs⟩ : ∃ s : Nat, s = 7 - r := ⟨_, rfl⟩
    have hsi : (7 : Int) - r = s := by omega
    have HV : Hid (bits BinOp.or IntKind.u8 ((pkK t k q : Nat) : Int) ((2 : Int) ^ s) = ((pk t (k / 8) (k % 8) + 2 ^ (7 - k % 8) : Nat) : Int)) := by
     unfold Hid
     rw [hq, pkK_here, ← hrr, ← hs]
     have := pk_or t (k / 8) r hr8
     rw [← hs] at this
     rw [← this]
     simp
    have hpw : (2 : Int) ^ s < 256 := by
     have := Nat.pow_le_pow_right (n := 2) (by decide) (show s ≤ 7 by omega)
     have hcast : ((2 ^ s : Nat) : Int) = (2 : Int) ^ s := by simp
     omega
    have hpw0 : (0 : Int) < (2 : Int) ^ s := by
     have := Nat.pow_pos (n := s) (a := 2) (by decide)
     have hcast : ((2 ^ s : Nat) : Int) = (2 : Int) ^ s := by simp
     omega
    have HQ := hideB hq
    clear hr e9 h01 hq hrr hs
    generalize pkK t k q = pv at ce HV
    go_wp2_with fail
    go_region
    all_goals (try go_wp2_with fail)
    all_goals go_roundw
    case rel => exact ⟨k + 1, by go_num, by omega, IsB.congr (HR2.out.set q _) (fun j hj => by rw [HQ.out]; exact pkK_set t k j _ HO.out HV.out), Below.drew (hbel.setCell (Nat.le_refl _) _)⟩
    case measure => simp [intOf]; omega
   ·have n9 : ((y.toNat : Int) == 49) = false := by rw [beq_eq_false_iff_ne]; exact e9
    have HO : Hid (one t k = 0) := by
     unfold Hid one
     rw [if_neg (by rw [← HY.out]; omega)]
    clear hr e9 h01
    go_wp2_with fail
    go_roundw
    case rel => exact ⟨k + 1, by go_num, by omega, IsB.congr HR2.out (fun j hj => pkK_skip t k j HO.out), hbel⟩
    case measure => simp [intOf]; omega
  ·obtain rfl : k = t.size := by omega
   have hcv := hr.str (P := Tryz.prog) (src := 22) (dst := 9) m m (Nat.le_refl _) (fun j _ => pkK_lt t t.size j) Tryz.underlying22 Tryz.underlying5 Tryz.underlying9
   rw [HMM.out, pack_all, ← HMM.out] at hcv
   clear hr
   go_wp2_with fail
   go_ret
   exact ⟨rfl, hbel⟩
set_option maxHeartbeats 1000000 in
theorem pack_impl (t : ByteArray) (w : World) (ht : t.size ≤ 1048576) :
  Calls Tryz.prog 47 #[.string t] w fun e w' => e = .returned (.string (packR t)) ∧ Below w.heap.size w w' := by
 by_cases h : 8000 < t.size
 ·have HE := hideB (packR_no t (Or.inl h))
  go_enter Tryz.func47, Tryz.ntmps47
  go_wp2_with fail
  go_ret
  exact ⟨ret_strJ HE.out.symm, Below.refl _ _⟩
 ·cases hg : good t with
  | false =>
   have HE := hideB (packR_no t (Or.inr hg))
   have HG := hideB (good_impl t w (by omega))
   rw [hg] at HG
   go_enter Tryz.func47, Tryz.ntmps47
   go_wp2_with fail
   refine HG.out.mono ?_
   rintro e w' ⟨rfl, hw⟩
   subst w'
   go_wp2_with fail
   go_ret
   exact ⟨ret_strJ HE.out.symm, Below.refl _ _⟩
  | true =>
   rw [packR_yes t h hg]
   exact pack_yes t w h hg
end Go.Proofs.YthbpenanelbbcaaGreatDoor.Bi


/- The walk of impl.CodeGet. -/
namespace Go.Proofs.YthbpenanelbbcaaGreatDoor.Bi
open Go.RowKit Go.Maps
open Go.WideMaps (keyOf_string_mk string_of_keyOf)
open Go.Proofs.YthbpenanelbbcaaGreatDoor.In (Ints IsI OwnIn made_ints)
open Go.Proofs.YthbpenanelbbcaaGreatDoor.Nu (ret_strJ)
theorem Tryz.infoG2 : (Tryz.prog.info? 2).map (fun i => (i.zero, i.size, i.bytes)) = some (some (.int .i64 0), 1, 8) := by kernel_rfl
def fill (xs : List Int) (m : Nat) : List Int := xs ++ List.replicate (m - xs.length) 0
theorem fill_length (xs : List Int) (m : Nat) (h : xs.length ≤ m) : (fill xs m).length = m := by simp [fill]; omega
theorem fill_next (xs : List Int) (m : Nat) (x : Int) (h : xs.length < m) : (fill xs m).set xs.length x = fill (xs ++ [x]) m := by
 unfold fill
 rw [List.set_append, if_neg (by omega), Nat.sub_self, List.length_append]
 obtain ⟨d, hd⟩ : ∃ d, m - xs.length = d + 1 := ⟨m - xs.length - 1, by omega⟩
 rw [hd, show m - (xs.length + [x].length) = d by simp; omega, List.replicate_succ, List.set_cons_zero]
 simp
theorem fill_all (xs : List Int) (m : Nat) (h : xs.length = m) : fill xs m = xs := by simp [fill, h]
theorem fill_none (m : Nat) : fill [] m = List.replicate m 0 := by simp [fill]
def Out0 (w : World) (g : Nat) : Prop := w.heap[g]? = some (.cells #[.slice none 0 0, .int .i64 0, .int .i64 0] 83 (0, 0))
theorem Out0.c0 {w : World} {g : Nat} (h : Out0 w g) : w.cell? ⟨g, 0, none⟩ = some (.slice none 0 0) := (cell_of_row w g 0 _ _ _ h).trans rfl
theorem Out0.c1 {w : World} {g : Nat} (h : Out0 w g) : w.cell? ⟨g, 1, none⟩ = some (.int .i64 0) := (cell_of_row w g 1 _ _ _ h).trans rfl
theorem Out0.c2 {w : World} {g : Nat} (h : Out0 w g) : w.cell? ⟨g, 2, none⟩ = some (.int .i64 0) := (cell_of_row w g 2 _ _ _ h).trans rfl
theorem Out0.fr {w : World} {g : Nat} (h : Out0 w g) (j : Nat) : w.frozen? ⟨g, j, none⟩ = false := frozen_of_row w g j _ _ h
theorem Out0.lt {w : World} {g : Nat} (h : Out0 w g) : g < w.heap.size := (Array.getElem?_eq_some_iff.1 h).1
theorem Out0.below {w w' : World} {g B : Nat} (h : Out0 w g) (b : Below B w w') (hg : g < B) : Out0 w' g := by unfold Out0; rw [b.block g hg]; exact h
theorem Out0.set {w : World} {g : Nat} (h : Out0 w g) (a : Addr) (v : Value) (ha : g ≠ a.block) : Out0 (w.setCell a v) g := by unfold Out0; rw [heap_setCell_other w a g v ha]; exact h
theorem Out0.new (w : World) : Out0 (w.alloc (.cells #[.slice none 0 0, .int .i64 0, .int .i64 0] 83)) w.heap.size := heap_alloc_last w _
set_option maxRecDepth 100000 in
set_option maxHeartbeats 1000000 in
theorem get_yes (l : List Int) (t : ByteArray) (m : Nat) (a : Option Addr) (cap : Nat) (w : World) (hl : Ints w w.heap.size a l) (h4 : ¬ 400 < l.length) (h8 : ¬ 8000 < t.size) (hw : whole l = true) (hg : good t = true) (hm : m ≤ 400) :
  Calls Tryz.prog 122 #[.slice a l.length cap, .string t, .int .i64 m] w fun e w' => ∃ v, e = .returned (.agg #[v, .int .i64 (outS (st l t m)).2.1, .int .i64 (outS (st l t m)).2.2]) ∧ OwnIn w' w.heap.size w'.heap.size v (outS (st l t m)).1 ∧ Below w.heap.size w w' := by
 obtain ⟨i0, hi0, hz0, hz1, hz2⟩ := info_parts Tryz.infoG2
 have hd4 : decide (400 < (l.length : Int)) = false := decide_eq_false (by omega)
 have hd8 : decide (8000 < (t.size : Int)) = false := decide_eq_false (by omega)
 have hdm : decide ((m : Int) < 0) = false := decide_eq_false (by omega)
 have hdm4 : decide ((400 : Int) < m) = false := decide_eq_false (by omega)
 obtain ⟨W0, hW0⟩ : ∃ W0, W0 = w.alloc (.cells #[.slice none 0 0, .int .i64 0, .int .i64 0] 83) := ⟨_, rfl⟩
 have z0 : W0.heap.size = w.heap.size + 1 := by rw [hW0]; simp
 have B0 := hideB (show Below w.heap.size w W0 by rw [hW0]; exact (Below.refl _ _).alloc (Nat.le_refl _) _)
 have O0 := hideB (show Out0 W0 w.heap.size by rw [hW0]; exact Out0.new w)
 have hl0 := (hl.below B0.out).mono B0.out.size
 have HWH := hideB (whole_impl l a cap W0.heap.size W0 hl0 (by omega))
 rw [hw] at HWH
 have HGO := hideB (good_impl t W0 (by omega))
 rw [hg] at HGO
 have HSY := hideB (symbols_any l a cap W0 hl0 (whole_right hw))
 have HR := hideB (whole_right hw)
 clear hl hl0 hw hg h4
 obtain ⟨n, hln⟩ : ∃ n, n = l.length := ⟨_, rfl⟩
 have HLN := hideB hln
 rw [← hln] at hd4 HWH HSY ⊢
 clear hln
 go_enter Tryz.func122, Tryz.ntmps122
 go_wp2_with fail
 rw [← hW0]
 have HW0 := hideB hW0
 clear hW0
 refine HWH.out.mono ?_
 rintro e w' ⟨rfl, hw'⟩
 subst w'
 go_wp2_with fail
 refine HGO.out.mono ?_
 rintro e w' ⟨rfl, hw'⟩
 subst w'
 go_wp2_with fail
 refine HSY.out.mono ?_
 rintro e w1 ⟨D, rfl, hown1, hcm, hb1⟩
 have M1 := hideB hown1
 have HCM := hideB hcm
 have B1 := hideB (B0.out.trans (hb1.mono (by omega)))
 have O1 := hideB (O0.out.below hb1 (by omega))
 have z1 : W0.heap.size < w1.heap.size := hown1.lt
 clear hown1 hcm hb1 HWH HGO HSY
 obtain ⟨b, hb⟩ : ∃ b, b = W0.heap.size := ⟨_, rfl⟩
 rw [← hb] at z0 z1 M1 ⊢
 have zb : w.heap.size < b := by omega
 clear z0
 clear hb HW0 O0 B0
 go_wp2_with (at_make; refine wpList_make_full _ rfl (.tmp 40) (.tmp 40) 59 rfl w1.heap.size 2 i0 (.int .i64 0) 1 Tryz.underlying59 hi0 hz0 hz1 .i64 .i64 _ _ m rfl rfl (by simp) (by simp) (by rw [hz2]; omega) (by unfold maxLen; omega) (Nat.le_refl _) ?_; intro w2 hown2 hgrow2; have R2 := hideB (made_ints hown2); have b2 := (Below.refl w1.heap.size w1).grown hgrow2 (Nat.le_refl _) (by simp); have B2 := hideB (B1.out.trans (b2.mono B1.out.size)); have O2 := hideB (O1.out.below b2 (by omega)); have M2 := hideB (M1.out.kept hgrow2 (by simp)); clear hown2 hgrow2 b2)
 go_loopw [43, 9] (fun i at_ wr => ∃ (k p : Nat) (xs : List Int), i = .int .i64 k ∧ at_ = .int .i64 p ∧ k ≤ m ∧ st l t k = .inr (xs, p) ∧ wr.ownsMap Tryz.prog 9 (plainElem Tryz.prog 2) b n D ∧ IsI wr w1.heap.size 2 (fill xs m) ∧ Out0 wr w.heap.size ∧ Below w.heap.size w wr) (fun i _ _ => m - (intOf i).toNat)
 case atStart => exact ⟨0, 0, [], rfl, rfl, Nat.zero_le _, rfl, M2.out, by rw [fill_none]; exact R2.out, O2.out, B2.out⟩
 case round =>
  obtain ⟨k, p, xs, rfl, rfl, hk, hst, hown, hi, ho, hbel⟩ := hrel
  have HST := hideB hst
  have M3 := hideB hown
  have I3 := hideB hi
  have O3 := hideB ho
  have B3 := hideB hbel
  obtain ⟨hps, hxl⟩ := st_facts k p xs hst
  have HXL := hideB hxl
  clear hst hown hi ho hbel hxl
  by_cases hlt : k < m
  ·have hpi : (p : Int) ≤ t.size := by omega
   have HFI := hideB (first_any l (rst t p) b n D wr M3.out (by rw [← HLN.out]; exact HCM.out) HR.out (by rw [rst_size]; omega))
   have HRE : Hid (rst t p = t.extract p t.size) := rfl
   cases hs : sym l (rst t p) with
   | none =>
    have HT : Hid (symT l (rst t p) = ⟨#[]⟩) := by
     unfold Hid symT
     rw [hs]
    rw [HT.out, HRE.out] at HFI
    have HB := hideB (st_bad HST.out hs)
    have HE : Hid (outS (st l t m) = ([], 0, why l (rst t p))) := by
     have h1 := st_stay HB.out (m - (k + 1))
     rw [show k + 1 + (m - (k + 1)) = m by omega] at h1
     unfold Hid
     rw [h1]
     rfl
    have HWY := hideB (why_any l (rst t p) b n b D wr M3.out (by rw [← HLN.out]; exact HCM.out) (Nat.le_refl _) (Nat.le_of_lt M3.out.lt))
    rw [HRE.out] at HWY HE
    generalize why l (t.extract p t.size) = wy at HWY HE
    clear hs
    go_wp2_with fail
    refine HFI.out.mono ?_
    rintro e w' ⟨rfl, hw'⟩
    subst w'
    go_wp2_with fail
    refine HWY.out.mono ?_
    rintro e w4 ⟨rfl, hb4⟩
    have O4 := hideB (O3.out.below hb4 (by omega))
    have B4 := hideB (B3.out.trans (hb4.mono (by omega)))
    have c0 := O4.out.c0
    have c1 := O4.out.c1
    have c2 := O4.out.c2
    have f0 := O4.out.fr 0
    have f1 := O4.out.fr 1
    have f2 := O4.out.fr 2
    clear hb4
    go_wp2_with fail
    refine bodyPost_ret (v := .agg #[.slice none 0 0, .int .i64 0, .int .i64 wy]) (by simp [results, Tryz.results122, go_sem, c0, c1, c2]) rfl ⟨.slice none 0 0, ?_, ?_, ?_⟩
    ·rw [HE.out]
    ·rw [HE.out]
     exact .inl ⟨rfl, rfl⟩
    ·exact ((B4.out.setCell (Nat.le_refl _) _).setCell (Nat.le_refl _) _).setCell (Nat.le_refl _) _
   | some i =>
    have HT : Hid (symT l (rst t p) = codeOf l i) := by
     unfold Hid symT
     rw [hs]
    have hmt := sym_mt hs
    have HSM := hideB (st_more HST.out hs)
    have HCO := hideB (codeOf_size l i)
    have hcl := codeOf_le l (within_yes (right_yes HR.out).1).2 i
    have HAT := hideB (HCM.out.2 i (by rw [HLN.out]; exact hmt.1) hmt.1 hmt.2.1)
    have hw1 : 1 ≤ wd l i := by have := hmt.2.1; unfold wd; omega
    rw [show (l.getD i 0).toNat = wd l i from rfl] at HCO
    rw [← HCO.out] at HSM hw1
    rw [HT.out, HRE.out] at HFI
    obtain ⟨c, hc⟩ : ∃ c, c = codeOf l i := ⟨_, rfl⟩
    rw [← hc] at HFI HSM hw1 hcl HAT
    have hne : c.toList.isEmpty = false := nonempty c hw1
    have hkey : keyOf Tryz.prog 9 (.string c) = some (kl c) := keyOf_string_mk Tryz.underlying9 (by unfold maxLen; omega)
    have hkf : k < (fill xs m).length := by rw [fill_length xs m (by have := HXL.out; omega)]; exact hlt
    have cf := I3.out.frozen k
    obtain ⟨v0, ce⟩ : ∃ v0, wr.cell? ⟨w1.heap.size, k, none⟩ = some (.int .i64 v0) := ⟨_, I3.out.cell hkf⟩
    have HFN : Hid ((fill xs m).set k (i : Int) = fill (xs ++ [(i : Int)]) m) := by
     have h1 := HXL.out
     unfold Hid
     rw [← h1]
     exact fill_next xs m i (by omega)
    have hown := M3.out
    clear hs hmt hc hkf HT
    go_wp2_with fail
    refine HFI.out.mono ?_
    rintro e w' ⟨rfl, hw'⟩
    subst w'
    go_wp2_with (first | (at_lookup; refine wpList_lookup_own_int _ rfl _ _ 168 rfl 9 2 .i64 lawS Tryz.underlying168 Tryz.underlying2 (zeroI _) b n D rfl hown _ _ rfl hkey ?_; intro c' hat hwc; have hci : c' = (i : Int) := (by rw [HAT.out] at hat; simpa using hat.symm); subst hci; clear hat hwc))
    go_wp2_with fail
    go_roundw
    case rel => exact ⟨k + 1, p + c.size, xs ++ [(i : Int)], by go_num, by go_num, by omega, HSM.out, M3.out.setCell (a := ⟨w1.heap.size, k, none⟩) (by simp; omega) _, by rw [← HFN.out]; exact I3.out.set k _, O3.out.set _ _ (by simp; omega), B3.out.setCell (p := ⟨w1.heap.size, k, none⟩) (by simp; omega) _⟩
    case measure => simp [intOf]; omega
  ·obtain rfl : k = m := by omega
   have HE : Hid (outS (st l t k) = (xs, (p : Int), 0)) := by
    unfold Hid
    rw [HST.out]
    rfl
   have HI : Hid (IsI wr w1.heap.size 2 xs) := by
    have := I3.out
    rw [fill_all xs k HXL.out] at this
    exact this
   have c0 := O3.out.c0
   have c1 := O3.out.c1
   have c2 := O3.out.c2
   have f0 := O3.out.fr 0
   have f1 := O3.out.fr 1
   have f2 := O3.out.fr 2
   have HXK : Hid (k = xs.length) := HXL.out.symm
   go_wp2_with fail
   refine bodyPost_ret (v := .agg #[.slice (some ⟨w1.heap.size, 0, none⟩) k k, .int .i64 p, .int .i64 0]) (by simp [results, Tryz.results122, go_sem, c0, c1, c2]) rfl ⟨.slice (some ⟨w1.heap.size, 0, none⟩) k k, ?_, ?_, ?_⟩
   ·rw [HE.out]
   ·rw [HE.out]
    refine .inr ⟨w1.heap.size, k, by rw [← HXK.out], by omega, ?_, ?_⟩
    ·have := HI.out.lt
     simpa [World.setCell] using this
    ·exact (((HI.out.set_other ⟨w.heap.size, 0, none⟩ _ (by simp; omega)).set_other ⟨w.heap.size, 1, none⟩ _ (by simp; omega)).set_other ⟨w.heap.size, 2, none⟩ _ (by simp; omega)).own
   ·exact ((B3.out.setCell (Nat.le_refl _) _).setCell (Nat.le_refl _) _).setCell (Nat.le_refl _) _
end Go.Proofs.YthbpenanelbbcaaGreatDoor.Bi


/- What impl.CodeGet answers; the specification's look for the next symbol. -/
namespace Go.Proofs.YthbpenanelbbcaaGreatDoor.Bi
open Go.RowKit Go.Maps
open Go.Proofs.YthbpenanelbbcaaGreatDoor.In (Ints IsI OwnIn)
open Go.Proofs.YthbpenanelbbcaaGreatDoor.St (IsS Strs)
theorem nil_in (w : World) (lo hi : Nat) : OwnIn w lo hi (.slice none 0 0) [] := .inl ⟨rfl, rfl⟩
set_option maxRecDepth 100000 in
set_option maxHeartbeats 2000000 in
theorem get_impl (l : List Int) (t : ByteArray) (m : Int) (a : Option Addr) (cap : Nat) (w : World) (hl : Ints w w.heap.size a l) (hn : l.length ≤ 1048576) (ht : t.size ≤ 1048576) :
  Calls Tryz.prog 122 #[.slice a l.length cap, .string t, .int .i64 m] w fun e w' => ∃ v, e = .returned (.agg #[v, .int .i64 (getR l t m).2.1, .int .i64 (getR l t m).2.2]) ∧ OwnIn w' w.heap.size w'.heap.size v (getR l t m).1 ∧ Below w.heap.size w w' := by
 by_cases h4 : 400 < l.length
 ·rw [getR_size (Or.inl h4)]
  clear hl
  generalize l.length = n at hn h4 ⊢
  go_enter Tryz.func122, Tryz.ntmps122
  go_wp2_with fail
  refine bodyPost_ret (v := .agg #[.slice none 0 0, .int .i64 0, .int .i64 2]) (by simp [results, Tryz.results122, go_sem]) rfl ⟨.slice none 0 0, rfl, nil_in _ _ _, (Below.refl _ _).alloc (Nat.le_refl _) _⟩
 ·have hd4 : decide (400 < (l.length : Int)) = false := decide_eq_false (by omega)
  by_cases h8 : 8000 < t.size
  ·rw [getR_size (Or.inr h8)]
   clear hl
   generalize l.length = n at hn h4 hd4 ⊢
   go_enter Tryz.func122, Tryz.ntmps122
   go_wp2_with fail
   refine bodyPost_ret (v := .agg #[.slice none 0 0, .int .i64 0, .int .i64 2]) (by simp [results, Tryz.results122, go_sem]) rfl ⟨.slice none 0 0, rfl, nil_in _ _ _, (Below.refl _ _).alloc (Nat.le_refl _) _⟩
  ·have hd8 : decide (8000 < (t.size : Int)) = false := decide_eq_false (by omega)
   have hno : ¬ (400 < l.length ∨ 8000 < t.size) := by omega
   have hl0 := (hl.below ((Below.refl w.heap.size w).alloc (Nat.le_refl _) (.cells #[.slice none 0 0, .int .i64 0, .int .i64 0] 83))).mono (by simp : w.heap.size ≤ (w.alloc (.cells #[.slice none 0 0, .int .i64 0, .int .i64 0] 83)).heap.size)
   have HWH := hideB (whole_impl l a cap _ _ hl0 hn)
   have HGO := hideB (good_impl t (w.alloc (.cells #[.slice none 0 0, .int .i64 0, .int .i64 0] 83)) ht)
   clear hl0
   cases hw : whole l with
   | false =>
    rw [getR_form hno (Or.inl hw)]
    rw [hw] at HWH
    clear hl hno
    generalize l.length = n at hn h4 hd4 HWH ⊢
    go_enter Tryz.func122, Tryz.ntmps122
    go_wp2_with fail
    refine HWH.out.mono ?_
    rintro e w' ⟨rfl, hw'⟩
    subst w'
    go_wp2_with fail
    refine bodyPost_ret (v := .agg #[.slice none 0 0, .int .i64 0, .int .i64 1]) (by simp [results, Tryz.results122, go_sem]) rfl ⟨.slice none 0 0, rfl, nil_in _ _ _, (Below.refl _ _).alloc (Nat.le_refl _) _⟩
   | true =>
    cases hg : good t with
    | false =>
     rw [getR_form hno (Or.inr (Or.inl hg))]
     rw [hw] at HWH
     rw [hg] at HGO
     clear hl hno hw
     generalize l.length = n at hn h4 hd4 HWH ⊢
     go_enter Tryz.func122, Tryz.ntmps122
     go_wp2_with fail
     refine HWH.out.mono ?_
     rintro e w' ⟨rfl, hw'⟩
     subst w'
     go_wp2_with fail
     refine HGO.out.mono ?_
     rintro e w' ⟨rfl, hw'⟩
     subst w'
     go_wp2_with fail
     refine bodyPost_ret (v := .agg #[.slice none 0 0, .int .i64 0, .int .i64 1]) (by simp [results, Tryz.results122, go_sem]) rfl ⟨.slice none 0 0, rfl, nil_in _ _ _, (Below.refl _ _).alloc (Nat.le_refl _) _⟩
    | true =>
     by_cases hm : m < 0
     ·rw [getR_form hno (Or.inr (Or.inr (Or.inl hm)))]
      rw [hw] at HWH
      rw [hg] at HGO
      clear hl hno hw hg
      generalize l.length = n at hn h4 hd4 HWH ⊢
      go_enter Tryz.func122, Tryz.ntmps122
      go_wp2_with fail
      refine HWH.out.mono ?_
      rintro e w' ⟨rfl, hw'⟩
      subst w'
      go_wp2_with fail
      refine HGO.out.mono ?_
      rintro e w' ⟨rfl, hw'⟩
      subst w'
      go_wp2_with fail
      refine bodyPost_ret (v := .agg #[.slice none 0 0, .int .i64 0, .int .i64 1]) (by simp [results, Tryz.results122, go_sem]) rfl ⟨.slice none 0 0, rfl, nil_in _ _ _, (Below.refl _ _).alloc (Nat.le_refl _) _⟩
     ·by_cases hm4 : 400 < m
      ·rw [getR_form hno (Or.inr (Or.inr (Or.inr hm4)))]
       have hdm : decide (m < 0) = false := decide_eq_false hm
       rw [hw] at HWH
       rw [hg] at HGO
       clear hl hno hw hg
       generalize l.length = n at hn h4 hd4 HWH ⊢
       go_enter Tryz.func122, Tryz.ntmps122
       go_wp2_with fail
       refine HWH.out.mono ?_
       rintro e w' ⟨rfl, hw'⟩
       subst w'
       go_wp2_with fail
       refine HGO.out.mono ?_
       rintro e w' ⟨rfl, hw'⟩
       subst w'
       go_wp2_with fail
       refine bodyPost_ret (v := .agg #[.slice none 0 0, .int .i64 0, .int .i64 1]) (by simp [results, Tryz.results122, go_sem]) rfl ⟨.slice none 0 0, rfl, nil_in _ _ _, (Below.refl _ _).alloc (Nat.le_refl _) _⟩
      ·obtain ⟨k, rfl⟩ : ∃ k : Nat, m = k := ⟨m.toNat, by omega⟩
       rw [getR_in hno hw hg (by omega)]
       exact get_yes l t k a cap w hl h4 h8 hw hg (by omega)
end Go.Proofs.YthbpenanelbbcaaGreatDoor.Bi


/- The walks of both BitsOpen, and of the law. -/
namespace Go.Proofs.YthbpenanelbbcaaGreatDoor.Bi
open Go.RowKit
open Go.Proofs.YthbpenanelbbcaaGreatDoor.Sh
open Go.Proofs.YthbpenanelbbcaaGreatDoor.Nu (ret_strJ)
set_option maxRecDepth 100000 in
set_option maxHeartbeats 2000000 in
theorem open_yes (t : ByteArray) (m : Nat) (w : World) (ht : ¬ 8000 < t.size) (hm : m ≤ 8 * t.size) :
  Calls Tryz.prog 121 #[.string t, .int .i64 m] w fun e w' => e = .returned (.string (openV t m)) ∧ Below w.heap.size w w' := by
 obtain ⟨i0, hi, hz0, hz1, hz2⟩ := info_parts Nu.Tryz.infoJ5
 have hd8 : decide (8000 < (t.size : Int)) = false := decide_eq_false (by omega)
 have hd0 : decide ((m : Int) < 0) = false := decide_eq_false (by omega)
 have hd1 : decide (8 * (t.size : Int) < m) = false := decide_eq_false (by omega)
 go_enter Tryz.func121, Tryz.ntmps121
 go_wp2_with (at_make; refine wpList_make_full _ rfl (.tmp 21) (.tmp 21) 22 rfl w.heap.size 5 i0 (.int .u8 0) 1 Tryz.underlying22 hi hz0 hz1 .i64 .i64 _ _ m rfl rfl (by simp) (by simp) (by rw [hz2]; omega) (by unfold maxLen; omega) (Nat.le_refl _) ?_; intro w1 hown1 hgrow1; have HR := hideB (made_row hown1); have HB := hideB ((Below.refl w.heap.size w).grown hgrow1 (Nat.le_refl _) (by simp)); clear hown1 hgrow1)
 go_loopw [24] (fun i wr => ∃ k : Nat, i = .int .i64 k ∧ k ≤ m ∧ IsB wr w.heap.size 5 .u8 m (fun j => (opK t k j : Nat)) ∧ Below w.heap.size w wr) (fun i _ => m - (intOf i).toNat)
 case atStart => exact ⟨0, rfl, by omega, IsB.congr HR.out (fun j hj => by rw [opK_zero]; rfl), HB.out⟩
 case round =>
  obtain ⟨k, rfl, hk, hr, hbel⟩ := hrel
  have HR2 := hideB hr
  by_cases hlt : k < m
  ·obtain ⟨q, hq⟩ : ∃ q : Nat, q = k / 8 := ⟨_, rfl⟩
   have hqi : (k : Int) / 8 = q := by omega
   have hqt : q < t.size := by omega
   obtain ⟨y, b0, hy⟩ := byte_at t q hqt
   obtain ⟨s, hs⟩ : ∃ s : Nat, s = 7 - k % 8 := ⟨_, rfl⟩
   have hsi : (7 : Int) - (k : Int) % 8 = s := by omega
   have ce := hr.cell (j := k) (by omega)
   have cf := hr.frozen k
   have hy2 : (y.toNat : Int) < 256 := by have := y.toNat_lt; omega
   have HO := hideB (bitOf_any y.toNat s wr (by omega))
   have HV : Hid (((bitB y.toNat s : Nat) : Int) = ((bitB (bt t (k / 8)) (7 - k % 8) : Nat) : Int)) := by
    unfold Hid
    rw [hy, hs, hq]
   clear hr hy hs hq
   go_wp2_with fail
   refine HO.out.mono ?_
   rintro e w' ⟨rfl, hw⟩
   subst w'
   go_wp2_with fail
   go_roundw
   case rel =>
    exact ⟨k + 1, by go_num, by omega, IsB.congr (HR2.out.set k _) (fun j hj => opK_next t k j _ HV.out), hbel.setCell (Nat.le_refl _) _⟩
   case measure => simp [intOf]; omega
  ·obtain rfl : k = m := by omega
   have hcv := hr.str (P := Tryz.prog) (src := 22) (dst := 9) k k (Nat.le_refl _) (fun j _ => opK_lt t k j) Tryz.underlying22 Tryz.underlying5 Tryz.underlying9
   rw [opK_all] at hcv
   clear hr
   go_wp2_with fail
   go_ret
   exact ⟨rfl, hbel⟩
set_option maxHeartbeats 1000000 in
theorem open_impl (t : ByteArray) (m : Int) (w : World) (ht : t.size ≤ 1048576) :
  Calls Tryz.prog 121 #[.string t, .int .i64 m] w fun e w' => e = .returned (.string (openR t m)) ∧ Below w.heap.size w w' := by
 by_cases h : 8000 < t.size
 ·have HE := hideB (openR_no t m (Or.inl h))
  go_enter Tryz.func121, Tryz.ntmps121
  go_wp2_with fail
  go_ret
  exact ⟨ret_strJ HE.out.symm, Below.refl _ _⟩
 ·have hd8 : decide (8000 < (t.size : Int)) = false := decide_eq_false (by omega)
  by_cases h0 : m < 0
  ·have HE := hideB (openR_no t m (Or.inr (Or.inl h0)))
   go_enter Tryz.func121, Tryz.ntmps121
   go_wp2_with fail
   go_ret
   exact ⟨ret_strJ HE.out.symm, Below.refl _ _⟩
  ·by_cases h1 : 8 * (t.size : Int) < m
   ·have HE := hideB (openR_no t m (Or.inr (Or.inr h1)))
    have hd0 : decide (m < 0) = false := decide_eq_false (by omega)
    go_enter Tryz.func121, Tryz.ntmps121
    go_wp2_with fail
    go_ret
    exact ⟨ret_strJ HE.out.symm, Below.refl _ _⟩
   ·obtain ⟨k, rfl⟩ : ∃ k : Nat, m = k := ⟨m.toNat, by omega⟩
    rw [openR_yes t k h (by omega)]
    exact open_yes t k w h (by omega)
theorem lit8 (W : World) (t : TypeId) (r : Nat) (h : r < 8) : ∃ p : Int, (W.alloc (Obj.cells #[Value.int IntKind.i64 128, Value.int IntKind.i64 64, Value.int IntKind.i64 32, Value.int IntKind.i64 16, Value.int IntKind.i64 8, Value.int IntKind.i64 4, Value.int IntKind.i64 2, Value.int IntKind.i64 1] t)).cell? ⟨W.heap.size, r, none⟩ = some (.int .i64 p) ∧ p = (2 : Int) ^ (7 - r) ∧ 0 < p ∧ p ≤ 128 := by
 have h8 : r = 0 ∨ r = 1 ∨ r = 2 ∨ r = 3 ∨ r = 4 ∨ r = 5 ∨ r = 6 ∨ r = 7 := by omega
 rcases h8 with rfl | rfl | rfl | rfl | rfl | rfl | rfl | rfl
 ·exact ⟨128, (cell_of_row _ _ 0 _ t (0, 0) (heap_alloc_last W _)).trans rfl, by decide, by decide⟩
 ·exact ⟨64, (cell_of_row _ _ 1 _ t (0, 0) (heap_alloc_last W _)).trans rfl, by decide, by decide⟩
 ·exact ⟨32, (cell_of_row _ _ 2 _ t (0, 0) (heap_alloc_last W _)).trans rfl, by decide, by decide⟩
 ·exact ⟨16, (cell_of_row _ _ 3 _ t (0, 0) (heap_alloc_last W _)).trans rfl, by decide, by decide⟩
 ·exact ⟨8, (cell_of_row _ _ 4 _ t (0, 0) (heap_alloc_last W _)).trans rfl, by decide, by decide⟩
 ·exact ⟨4, (cell_of_row _ _ 5 _ t (0, 0) (heap_alloc_last W _)).trans rfl, by decide, by decide⟩
 ·exact ⟨2, (cell_of_row _ _ 6 _ t (0, 0) (heap_alloc_last W _)).trans rfl, by decide, by decide⟩
 ·exact ⟨1, (cell_of_row _ _ 7 _ t (0, 0) (heap_alloc_last W _)).trans rfl, by decide, by decide⟩
theorem quo_pow (y s : Nat) (v : Int) (hv : v = (2 : Int) ^ s) : (48 + (y : Int) / v % 2) % 256 = ((bitB y s : Nat) : Int) := by
 subst hv
 rw [div_cast]
 unfold bitB
 omega
set_option maxRecDepth 100000 in
set_option maxHeartbeats 4000000 in
theorem openS_yes (t : ByteArray) (m : Nat) (w : World) (ht : ¬ 8000 < t.size) (hm : m ≤ 8 * t.size) :
  Calls Tryz.prog 63 #[.string t, .int .i64 m] w fun e w' => e = .returned (.string (openV t m)) ∧ Below w.heap.size w w' := by
 obtain ⟨i0, hi, hz0, hz1, hz2⟩ := info_parts Nu.Tryz.infoJ5
 have hd8 : decide (8000 < (t.size : Int)) = false := decide_eq_false (by omega)
 have HI := hideB (is_yes m 0 (8 * (t.size : Int)) w (by omega) (by omega))
 go_enter Tryz.func63, Tryz.ntmps63
 go_wp2_with fail
 refine HI.out.mono ?_
 rintro e w' ⟨rfl, hw⟩
 subst w'
 go_wp2_with (at_make; refine wpList_make_full _ rfl (.tmp 19) (.tmp 19) 22 rfl w.heap.size 5 i0 (.int .u8 0) 1 Tryz.underlying22 hi hz0 hz1 .i64 .i64 _ _ m rfl rfl (by simp) (by simp) (by rw [hz2]; omega) (by unfold maxLen; omega) (Nat.le_refl _) ?_; intro w1 hown1 hgrow1; have HR := hideB (made_row hown1); have HB := hideB ((Below.refl w.heap.size w).grown hgrow1 (Nat.le_refl _) (by simp)); clear hown1 hgrow1)
 go_loopw [6] (fun i wr => ∃ k : Nat, i = .int .i64 k ∧ k ≤ m ∧ IsB wr w.heap.size 5 .u8 m (fun j => (opK t k j : Nat)) ∧ Below w.heap.size w wr) (fun i _ => m - (intOf i).toNat)
 case atStart => exact ⟨0, rfl, by omega, IsB.congr HR.out (fun j hj => by rw [opK_zero]; rfl), HB.out⟩
 case round =>
  obtain ⟨k, rfl, hk, hr, hbel⟩ := hrel
  have HR2 := hideB hr
  have GB := hideB hbel
  have hsz := hbel.size
  clear hbel
  by_cases hlt : k < m
  ·obtain ⟨q, hq⟩ : ∃ q : Nat, q = k / 8 := ⟨_, rfl⟩
   have hqi : (k : Int) / 8 = q := by omega
   have hqt : q < t.size := by omega
   obtain ⟨y, b0, hy⟩ := byte_at t q hqt
   have HY := hideB hy
   have HQ := hideB hq
   have ce : ∀ o, (wr.alloc o).cell? ⟨w.heap.size, k, none⟩ = some (.int .u8 ((opK t k k : Nat) : Int)) := fun o => (hr.alloc o).cell (by omega)
   have cf : ∀ o, (wr.alloc o).frozen? ⟨w.heap.size, k, none⟩ = false := fun o => (hr.alloc o).frozen k
   clear hr hy hq
   have hy2 : (y.toNat : Int) < 256 := by have := y.toNat_lt; omega
   obtain ⟨r, hr8⟩ : ∃ r : Nat, r = k % 8 := ⟨_, rfl⟩
   have hri : (k : Int) % 8 = r := by omega
   have hrl : r < 8 := by omega
   obtain ⟨p, hp, hp2, hp3⟩ := lit8 wr 2 r hrl
   have HV : Hid ((48 + (y.toNat : Int) / p % 2) % 256 = ((bitB (bt t (k / 8)) (7 - k % 8) : Nat) : Int)) := by
    unfold Hid
    rw [quo_pow y.toNat (7 - r) p hp2, ← hr8, HY.out, HQ.out]
   have HV2 : Hid (48 + (y.toNat : Int) / p % 2 = ((bitB (bt t (k / 8)) (7 - k % 8) : Nat) : Int)) := by
    unfold Hid
    rw [← HV.out]
    omega
   have hpz : (p == 0) = false := by rw [beq_eq_false_iff_ne]; omega
   have hq0 : 0 ≤ (y.toNat : Int) / p := Int.ediv_nonneg (by omega) (by omega)
   have hq1 : (y.toNat : Int) / p < 256 := Int.lt_of_le_of_lt (Int.ediv_le_self _ (by omega)) hy2
   clear hp2 hr8
   go_wp2_with fail
   go_region
   all_goals (try go_wp2_with fail)
   all_goals go_roundw
   case rel => exact ⟨k + 1, by go_num, by omega, IsB.congr (IsB.set (IsB.of_heap (w' := World.drew (World.alloc wr _)) (IsB.alloc HR2.out _) rfl) k _) (fun j hj => opK_next t k j _ (by first | exact HV.out | exact HV2.out)), Below.setCell (Below.drew (GB.out.alloc hsz _)) (Nat.le_refl _) _⟩
   case measure => simp [intOf]; omega
  ·obtain rfl : k = m := by omega
   have hcv := hr.str (P := Tryz.prog) (src := 22) (dst := 9) k k (Nat.le_refl _) (fun j _ => opK_lt t k j) Tryz.underlying22 Tryz.underlying5 Tryz.underlying9
   rw [opK_all] at hcv
   clear hr
   go_wp2_with fail
   go_ret
   exact ⟨rfl, GB.out⟩
set_option maxHeartbeats 1000000 in
theorem open_spec (t : ByteArray) (m : Int) (w : World) (ht : t.size ≤ 1048576) :
  Calls Tryz.prog 63 #[.string t, .int .i64 m] w fun e w' => e = .returned (.string (openR t m)) ∧ Below w.heap.size w w' := by
 by_cases h : 8000 < t.size
 ·have HE := hideB (openR_no t m (Or.inl h))
  go_enter Tryz.func63, Tryz.ntmps63
  go_wp2_with fail
  go_ret
  exact ⟨ret_strJ HE.out.symm, Below.refl _ _⟩
 ·have hd8 : decide (8000 < (t.size : Int)) = false := decide_eq_false (by omega)
  by_cases h0 : m < 0 ∨ 8 * (t.size : Int) < m
  ·have HE := hideB (openR_no t m (Or.inr h0))
   have HI := hideB (is_no m 0 (8 * (t.size : Int)) w h0)
   clear h0
   go_enter Tryz.func63, Tryz.ntmps63
   go_wp2_with fail
   refine HI.out.mono ?_
   rintro e w' ⟨rfl, hw⟩
   subst w'
   go_wp2_with fail
   go_ret
   exact ⟨ret_strJ HE.out.symm, Below.refl _ _⟩
  ·obtain ⟨k, rfl⟩ : ∃ k : Nat, m = k := ⟨m.toNat, by omega⟩
   rw [openR_yes t k h (by omega)]
   exact openS_yes t k w h (by omega)
end Go.Proofs.YthbpenanelbbcaaGreatDoor.Bi


/- The walk of a stable sort's insertion at places. -/
namespace Go.Proofs.YthbpenanelbbcaaGreatDoor.So
open Go.RowKit Go.Sort Go.Proofs
set_option maxRecDepth 100000 in
set_option maxHeartbeats 2000000 in
theorem insertion_I (T : ByteArray) (cc : Nat) (blk cap a b : Nat) (d : Array Nat) (w : World) (hH : HoldsK encI 1 w blk 0 d) (hblk : blk < w.heap.size) (hab : a ≤ b) (hb : b ≤ d.size) (hsz : d.size ≤ 1048576) (hcap : Cap w cc T) (hcb0 : cc ≠ blk) (hbd : ∀ i, dF d i < T.size)
  (hrise : ∀ i j, a ≤ i → i < j → j < b → dF d i < dF d j) :
  Calls Tryz.prog 165 #[.slice (some ⟨blk, 0, none⟩) d.size cap, .int .i64 a, .int .i64 b, .func (.func 160) #[] #[.pointer (some ⟨cc, 0, none⟩)]] w fun e w' =>
   e = .returned (.tuple #[]) ∧ ∃ n d' os, w' = sortWorldK encI 1 w blk 0 n d' os ∧ d'.size = d.size ∧ PermF a b (dF d) (dF d') ∧ Ris (clI T) a b (dF d') := by
 have mixed := mixed
 have HST := hideO (world_self hH)
 have HH := hideO hH
 have HCP : Hid (∀ (m : Nat) (dk : Array Nat) (os : Array Obj), Cap (sortWorldK encI 1 w blk 0 m dk os) cc T) := fun m dk os => hcap.block (world_block m dk os hcap.lt hcb0)
 have HBD := hideO hbd
 clear hcap hcb0 hbd
 have HRI := hideO hrise
 clear hH hrise
 obtain ⟨z, hz⟩ : ∃ z, z = d.size := ⟨_, rfl⟩
 have HZ := hideO hz
 rw [← hz] at hb hsz ⊢
 clear hz
 by_cases hE : a = b
 ·subst hE
  go_enter Tryz.func165, Tryz.ntmps165
  go_wp2_with fail
  go_loopw [8] (fun i wr => i = .int .i64 ((a : Int) + 1) ∧ wr = w) (fun _ _ => 0)
  case atStart => exact ⟨by go_num, rfl⟩
  case round =>
   obtain ⟨rfl, rfl⟩ := hrel
   go_wp2_with fail
   refine bodyPost_end (v := .tuple #[]) (by simp [results, Tryz.results165, go_sem]) rfl ⟨rfl, 0, d, #[], HST.out, HZ.out.symm, PermF.refl _ _ _, fun i j h1 h2 h3 => absurd h3 (by omega)⟩
 ·have hlt0 : a < b := by omega
  clear hE hab
  go_enter Tryz.func165, Tryz.ntmps165
  go_wp2_with fail
  go_loopw [8] (fun vi wr => ∃ (i n : Nat) (dk : Array Nat) (os : Array Obj), vi = .int .i64 i ∧ a < i ∧ i ≤ b ∧ dk.size = z ∧ PermF a i (dF d) (dF dk) ∧ Ris (clI T) a i (dF dk) ∧ wr = sortWorldK encI 1 w blk 0 n dk os) (fun vi _ => b - (intOf vi).toNat)
  case atStart => exact ⟨a + 1, 0, d, #[], by go_num, by omega, by omega, HZ.out.symm, PermF.refl _ _ _, fun i j h1 h2 h3 => absurd h3 (by omega), HST.out⟩
  case round =>
   obtain ⟨i, n, dk, os, rfl, hai, hib, hsk, hperm, hris, hwr⟩ := hrel
   have HSK := hideO hsk
   have HPM := hideO hperm
   have HRS := hideO hris
   have HW := hideO hwr
   clear hsk hperm hris hwr
   by_cases hlt : i < b
   ·obtain ⟨f, hf⟩ : ∃ f, f = dF dk := ⟨_, rfl⟩
    rw [← hf] at HPM HRS
    have HFD := hideO hf
    have HBF : Hid (∀ i, f i < T.size) := HPM.out.bd HBD.out
    have HPL : Hid (∀ k, a ≤ k → k < i → f k < f i) := fun k h1 h2 => by
     have e : f i = dF d i := HPM.out.2 i (Or.inr (Nat.le_refl _))
     rw [e]
     exact HPM.out.all (p := fun v => v < dF d i) (fun j h3 h4 => HRI.out j i h3 h4 hlt) k h1 h2
    clear hf
    go_wp2_with fail
    go_loopw [9] (fun vj wr2 => ∃ (j m : Nat) (dj : Array Nat) (oj : Array Obj), vj = .int .i64 j ∧ a ≤ j ∧ j ≤ i ∧ dj.size = z ∧ dF dj = rotF j i (i + 1) f ∧ (∀ k, j ≤ k → k < i → clI T (f i) (f k) = true) ∧ wr2 = sortWorldK encI 1 w blk 0 m dj oj) (fun vj _ => (intOf vj).toNat)
    case atStart => exact ⟨i, n, dk, os, rfl, by omega, Nat.le_refl _, HSK.out, by rw [rot_down0]; exact HFD.out.symm, fun k h1 h2 => absurd h2 (by omega), HW.out⟩
    case round =>
     obtain ⟨j, m, dj, oj, rfl, haj, hji, hsj, hfj, hcl, hwr⟩ := hrel
     have HSJ := hideO hsj
     have HFJ := hideO hfj
     have HCL := hideO hcl
     have HWJ := hideO hwr
     -- the end of the inner loop
     have OUT : Hid ((∀ k, a ≤ k → k < j → lx (clI T) (f k) (f i)) → PermF a (i + 1) (dF d) (dF dj) ∧ Ris (clI T) a (i + 1) (dF dj)) := fun hlo => by
      rw [HFJ.out]
      refine ⟨?_, ?_⟩
      ·have h1 := HPM.out.mono (Nat.le_refl a) (Nat.le_of_lt hai) (Nat.le_succ i)
       exact h1.trans ((rot_perm f hji (Nat.le_succ i)).mono haj (by omega) (Nat.le_refl _))
      ·exact down_ris (clI_weak T) HRS.out haj hji hlo (fun k h1 h2 => lx_yes (HCL.out k h1 h2))
     clear hsj hfj hcl
     by_cases hja : a < j
     ·obtain ⟨jp, hjp⟩ : ∃ jp, j = jp + 1 := ⟨j - 1, by omega⟩
      have HJP := hideO hjp
      have hHj : HoldsK encI 1 wr blk 0 dj := by rw [hwr]; exact world_holds HH.out hblk m dj oj (HSJ.out.trans HZ.out)
      have hbw : blk < wr.heap.size := by rw [hwr]; exact Nat.lt_of_lt_of_le hblk (world_size m dj oj)
      obtain ⟨x0c, x0f⟩ := cells_I hHj (i := j) (by have := HSJ.out; omega)
      obtain ⟨y0c, y0f⟩ := cells_I hHj (i := jp) (by have := HSJ.out; omega)
      have ex : dj[j]! = f i := by
       have : dF dj j = f i := by
        rw [HFJ.out, rot_first f j (Nat.le_refl _) (by omega)]
        congr 1
        omega
       exact this
      have ey : dj[jp]! = f jp := by
       have : dF dj jp = f jp := by rw [HFJ.out, rot_out f jp (Or.inl (by omega)) hji (Nat.le_succ i)]
       exact this
      rw [ex] at x0c
      rw [ey] at y0c
      obtain ⟨x, hx⟩ : ∃ x, x = f i := ⟨_, rfl⟩
      obtain ⟨y, hy⟩ : ∃ y, y = f jp := ⟨_, rfl⟩
      have HXY : Hid (x = f i ∧ y = f jp) := ⟨hx, hy⟩
      rw [← hx] at x0c
      rw [← hy] at y0c
      have g0 := fun n' os' => cell_grown (a := ⟨blk, j, none⟩) hbw x0c n' os'
      have g2 := fun n' os' => cell_grown (a := ⟨blk, jp, none⟩) hbw y0c n' os'
      have hcc : wr.cell? ⟨cc, 0, none⟩ = some (.string T) := by rw [hwr]; exact HCP.out _ _ _
      have hcw : cc < wr.heap.size := Cap.lt hcc
      have gc := fun n' os' => cell_grown (a := ⟨cc, 0, none⟩) hcw hcc n' os'
      clear hcc hcw
      have HCM : Hid (∀ W, Cap W cc T → Calls Tryz.prog 160 #[.int .i64 x, .int .i64 y, .pointer (some ⟨cc, 0, none⟩)] W fun e w' => e = .returned (.int .i64 (cfI T x y)) ∧ ∃ q os', w' = grow (W.drewN q) os') := fun W hW => cmp_I T cc x y W hW (by rw [HXY.out.1]; exact HBF.out _) (by rw [HXY.out.2]; exact HBF.out _)
      have hneg := cfI_neg T x y
      obtain ⟨r, hr⟩ : ∃ r, r = cfI T x y := ⟨_, rfl⟩
      rw [← hr] at hneg HCM
      have e1 : (j : Int) - 1 = (jp : Int) := by omega
      have hwp : IntKind.i64.wrap (jp : Int) = (jp : Int) := by rw [IntKind.wrap_i64]; omega
      have jz : (j : Int) < (z : Int) := by omega
      have jz1 : (jp : Int) < (z : Int) := by omega
      have hjaz : (a : Int) < (j : Int) := by omega
      have hjad : decide ((a : Int) < (j : Int)) = true := decide_eq_true hjaz
      have HCLS := hideO (fun n' os' => sortWorldK_grown_c encI 1 w blk 0 m n' dj oj os')
      rw [← hwr] at HCLS
      clear hr ex ey hx hy hjp hwr
      cases hcb : clI T x y with
      | true =>
       rw [hcb] at hneg
       have hlv : r < 0 := of_decide_eq_true hneg
       clear hneg
       go_wp2_with fail
       go_quiet_grown (first | (go_at_call 160; refine Calls.grown_of (HCM.out _ (gc _ _))))
       have hW2 : grow (wr.drewN nq) osq = sortWorldK encI 1 w blk 0 (m + nq) dj (oj ++ osq) := HCLS.out nq osq
       dsimp only
       clear g0 g2 gc x0c x0f y0c y0f hHj hbw
       generalize grow (wr.drewN nq) osq = W2 at hW2 ⊢
       have hH2 : HoldsK encI 1 W2 blk 0 dj := by rw [hW2]; exact world_holds HH.out hblk (m + nq) dj (oj ++ osq) (HSJ.out.trans HZ.out)
       obtain ⟨x0c, x0f⟩ := cells_I hH2 (i := j) (by have := HSJ.out; omega)
       obtain ⟨y0c, y0f⟩ := cells_I hH2 (i := jp) (by have := HSJ.out; omega)
       have ex : dj[j]! = x := by
        have : dF dj j = x := by
         rw [HXY.out.1, HFJ.out, rot_first f j (Nat.le_refl _) (by omega)]
         congr 1
         omega
        exact this
       have ey : dj[jp]! = y := by
        have : dF dj jp = y := by rw [HXY.out.2, HFJ.out, rot_out f jp (Or.inl (by have := HJP.out; omega)) hji (Nat.le_succ i)]
        exact this
       have hsw := sortWorldK_swp_c encI 1 w blk 0 encI_len (m + nq) dj (oj ++ osq) hblk j jp (by have := HSJ.out; omega) (by have := HSJ.out; omega)
       rw [ex, ey, ← hW2, Nat.zero_add, Nat.zero_add, Nat.mul_one, Nat.mul_one] at hsw
       rw [ex] at x0c
       rw [ey] at y0c
       have HSW := hideO hsw
       have hjne : jp < j := by have := HJP.out; omega
       have HROT : Hid (So.swp (rotF j i (i + 1) f) j jp = rotF jp i (i + 1) f) := by
        unfold Hid
        rw [HJP.out]
        exact rot_down jp i f (by have := HJP.out; omega)
       clear hW2 hH2 ex ey hsw
       go_wp2_with fail
       go_region
       all_goals (try go_wp2_with fail)
       all_goals go_roundw
       case rel =>
        refine ⟨jp, m + nq + 1, Go.Sort.swp dj j jp, oj ++ osq, rfl, by have := HJP.out; omega, by omega, by rw [Go.Sort.size_swp]; exact HSJ.out, ?_, fun k h1 h2 => ?_, HSW.out⟩
        ·rw [dF_swp dj j jp (by have := HSJ.out; omega) (by have := HSJ.out; omega), HFJ.out]
         exact HROT.out
        ·rcases Nat.eq_or_lt_of_le h1 with e | e
         ·rw [← e, ← HXY.out.1, ← HXY.out.2]
          exact hcb
         ·exact HCL.out k (by have := HJP.out; omega) h2
       case measure => have := HJP.out; simp [intOf]; omega
      | false =>
       rw [hcb] at hneg
       have hlv : ¬ r < 0 := of_decide_eq_false hneg
       have HO := hideO (OUT.out (fun k h1 h2 => by
        have hjx : lx (clI T) (f jp) (f i) := by
         rw [← HXY.out.1, ← HXY.out.2]
         refine lx_no hcb ?_
         rw [HXY.out.1, HXY.out.2]
         exact HPL.out jp (by have := HJP.out; omega) (by have := HJP.out; omega)
        exact HRS.out.le h1 (show k ≤ jp by have := HJP.out; omega) (by have := HJP.out; omega) (clI_weak T) hjx))
       clear hneg
       go_wp2_with fail
       go_quiet_grown (first | (go_at_call 160; refine Calls.grown_of (HCM.out _ (gc _ _))))
       have HW2 : Hid (grow (wr.drewN nq) osq = sortWorldK encI 1 w blk 0 (m + nq) dj (oj ++ osq)) := HCLS.out nq osq
       dsimp only
       clear g0 g2 gc x0c x0f y0c y0f hHj hbw
       go_wp2_with fail
       go_roundw
       case rel => exact ⟨i + 1, m + nq, dj, oj ++ osq, by go_num, by omega, by omega, HSJ.out, HO.out.1, HO.out.2, HW2.out⟩
       case measure => simp [intOf]; omega
     ·have hjad : decide ((a : Int) < (j : Int)) = false := decide_eq_false (by omega)
      have hjaz : ¬ (a : Int) < (j : Int) := by omega
      have HO := hideO (OUT.out (fun k h1 h2 => absurd h2 (by omega)))
      have HDR : Hid (wr.drew = sortWorldK encI 1 w blk 0 (m + 1) dj oj) := by
       unfold Hid
       rw [hwr]
       rfl
      clear hwr
      go_wp2_with fail
      go_region
      all_goals (try go_wp2_with fail)
      all_goals go_roundw
      case rel => exact ⟨i + 1, m + 1, dj, oj, by go_num, by omega, by omega, HSJ.out, HO.out.1, HO.out.2, HDR.out⟩
      case measure => simp [intOf]; omega
   ·obtain rfl : i = b := by omega
    go_wp2_with fail
    refine bodyPost_end (v := .tuple #[]) (by simp [results, Tryz.results165, go_sem]) rfl ⟨rfl, n, dk, os, HW.out, HSK.out, HPM.out, HRS.out⟩
end Go.Proofs.YthbpenanelbbcaaGreatDoor.So

