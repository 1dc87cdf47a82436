/- The walks of the program's own helpers on a map of codes. -/
import Derived.Test.YtdnmbagdegbnfaaDecPlain2
import Derived.Test.YtdnmbagdegbnfaaPutWalks
import Derived.Maps.RangeWalk
import Derived.Maps.OwnSet
import Derived.StringKeys
import Derived.Shelf.Strings.Prefix
namespace Go.Proofs.Ytdnmbagdegbnfaa.Bi
open Go.RowKit Go.Maps
open Go.WideMaps (keyOf_string_mk string_of_keyOf)
open Go.Proofs.Ytdnmbagdegbnfaa.In (Ints)
open Go.Proofs.Ytdnmbagdegbnfaa.St (IsS)
open Go.Proofs.Ytdnmbagdegbnfaa.Nu (ret_strJ)

abbrev DU := DataW Unit
theorem _root_.Go.Proofs.Ytdnmbagdegbnfaa.St.IsS.of_heapS {w w' : World} {g t : Nat} {l : List ByteArray} (h : IsS w g t l) (e : w'.heap[g]? = w.heap[g]?) : IsS w' g t l := by
  unfold IsS
  rw [e]
  exact h
theorem lawS : Keyed Try.prog 9 := string_keyed Try.underlying9
theorem zeroI (w : World) : (zeroValue 2).run Try.prog w = .ok (.int .i64 0) w := by kernel_rfl
def kl (c : ByteArray) : Lit := .string c.data.toList
theorem kl_inj {c d : ByteArray} (h : kl c = kl d) : c = d := by
  unfold kl at h
  have : c.data.toList = d.data.toList := by simpa using h
  have h2 : c.data = d.data := Array.toList_inj.1 this
  cases c; cases d; simp at h2; rw [h2]
/-- the map holds the codes of the first k symbols -/
def CM (l : List Int) (D : DU) (k : Nat) : Prop :=
  (∀ z, Maps.has D z = true ↔ ∃ i, i < k ∧ i < l.length ∧ 0 < l.getD i 0 ∧ z = kl (codeOf l i)) ∧
  (∀ i, i < k → i < l.length → 0 < l.getD i 0 → ∀ z, D.atKey (kl (codeOf l i)) z = .lit (.int .i64 (i : Int)))
theorem CM.start (l : List Int) : CM l (.map []) 0 := by
  refine ⟨fun z => ⟨fun h => ?_, fun ⟨i, hi, _⟩ => absurd hi (Nat.not_lt_zero i)⟩, fun i hi => absurd hi (Nat.not_lt_zero i)⟩
  simp [Maps.has] at h
theorem CM.skip {l : List Int} {D : DU} {k : Nat} (h : CM l D k) (h0 : ¬ 0 < l.getD k 0) : CM l D (k + 1) := by
  refine ⟨fun z => (h.1 z).trans ⟨fun ⟨i, a, b⟩ => ⟨i, by omega, b⟩, fun ⟨i, a, b, c, d⟩ => ⟨i, ?_, b, c, d⟩⟩, fun i hi => ?_⟩
  · by_cases e : i = k
    · subst e; exact absurd c h0
    · omega
  · intro hl hp
    by_cases e : i = k
    · subst e; exact absurd hp h0
    · exact h.2 i (by omega) hl hp
/-- codes of two symbols are unlike -/
theorem code_ne {l : List Int} (hr : csum l ≤ 4096) (hok : ∀ x ∈ l, 0 ≤ x ∧ x ≤ 12) {i j : Nat} (hi : i < l.length) (hj : j < l.length) (h0 : 0 < l.getD i 0) (h0' : 0 < l.getD j 0) (h : codeOf l i = codeOf l j) : i = j := by
  have hs : (codeOf l i).size = wd l i := codeOf_size l i
  have hs' : (codeOf l j).size = wd l j := codeOf_size l j
  have m1 : mt l (codeOf l i) i := ⟨hi, h0, by omega, by rw [← hs]; exact ByteArray.extract_zero_size⟩
  have m2 : mt l (codeOf l i) j := ⟨hj, h0', by rw [h]; omega, by rw [h, ← hs']; exact ByteArray.extract_zero_size⟩
  exact mt_one hr hok m1 m2
theorem CM.put {l : List Int} {D : DU} {k : Nat} (h : CM l D k) (hD : IsMap D) (hr : csum l ≤ 4096) (hok : ∀ x ∈ l, 0 ≤ x ∧ x ≤ 12) (hk : k < l.length) (h0 : 0 < l.getD k 0) : CM l (D.put (kl (codeOf l k)) (.lit (.int .i64 (k : Int)))) (k + 1) := by
  have hK : WideAt.IsKeyLit (kl (codeOf l k)) := trivial
  refine ⟨fun z => ?_, fun i hi hl hp z => ?_⟩
  · by_cases e : z = kl (codeOf l k)
    · subst e
      rw [has_put_same hD hK]
      exact ⟨fun _ => ⟨k, by omega, hk, h0, rfl⟩, fun _ => rfl⟩
    · rw [has_put_other e, h.1 z]
      refine ⟨fun ⟨i, a, b⟩ => ⟨i, by omega, b⟩, fun ⟨i, a, b, c, d⟩ => ⟨i, ?_, b, c, d⟩⟩
      by_cases e2 : i = k
      · subst e2; exact absurd d e
      · omega
  · by_cases e : i = k
    · subst e
      exact atKey_put_same hD hK _ _
    · have hne : kl (codeOf l i) ≠ kl (codeOf l k) := fun x => e (code_ne hr hok hl hk hp h0 (kl_inj x))
      rw [atKey_put_other hne]
      exact h.2 i (by omega) hl hp z

set_option maxRecDepth 100000 in
set_option maxHeartbeats 4000000 in
theorem symbols_any (l : List Int) (a : Option Addr) (cap : Nat) (w : World) (hl : Ints w w.heap.size a l) (hr : right l = true) :
    Calls Try.prog 88 #[.slice a l.length cap] w fun e w' => ∃ D : DU, e = .returned (.map (some w.heap.size)) ∧ w'.ownsMap Try.prog 9 (plainElem Try.prog 2) w.heap.size l.length D ∧ CM l D l.length ∧ Below w.heap.size w w' := by
  have hok := (within_yes (right_yes hr).1).2
  have hcs := (right_yes hr).2
  have hn := (within_yes (right_yes hr).1).1
  have HC := hideB (codes_yes l a cap w.heap.size (w.alloc (.map #[] 0)) (hl.below ((Below.refl _ _).alloc (Nat.le_refl _) _)) (by simp) hr)
  have HK := hideB hok
  have HS := hideB hcs
  have HCL := hideB (codesV_length l)
  clear hl hr hok hcs
  obtain ⟨n, hln⟩ : ∃ n, n = l.length := ⟨_, rfl⟩
  have HLN := hideB hln
  rw [← hln] at hn HC HCL ⊢
  clear hln
  have hmm := @run_makeMap Try.prog
  go_enter Try.func88, Try.ntmps88
  go_wp2_with fail
  refine HC.out.mono ?_
  rintro e w1 ⟨rfl, hi1, hb1⟩
  have z0 : (w.alloc (.map #[] 0)).heap.size = w.heap.size + 1 := by simp
  rw [z0] at hi1 hb1
  have X1 := hideB hi1
  have M1 := hideB (show w1.ownsMap Try.prog 9 (plainElem (H := Unit) Try.prog 2) w.heap.size 0 (.map []) from World.ownsMap.kept (World.ownsMap_made w _ _ _) (row := none) ⟨hb1.os, hb1.tape, hb1.output, hb1.size, fun i hi _ => hb1.block i (by rw [z0] at hi; exact hi)⟩ (by simp))
  have B1 := hideB (Below.trans ((Below.refl w.heap.size w).alloc (Nat.le_refl _) (.map #[] 0)) (hb1.mono (Nat.le_succ _)))
  have z1 : w.heap.size + 1 < w1.heap.size := hi1.lt
  rw [z0]
  clear hi1 hb1 z0 hmm
  go_wp2_with fail
  go_loopw [10] (fun i wr => ∃ (k : Nat) (D : DU), i = .int .i64 k ∧ k ≤ n ∧ wr.ownsMap Try.prog 9 (plainElem Try.prog 2) w.heap.size k D ∧ CM l D k ∧ IsS wr (w.heap.size + 1) 9 (codesV l) ∧ Below w.heap.size w wr) (fun i _ => n - (intOf i).toNat)
  case atStart => exact ⟨0, _, rfl, Nat.zero_le _, M1.out, CM.start l, X1.out, B1.out⟩
  case round =>
    obtain ⟨k, D, rfl, hk, hown, hcm, hx, hbel⟩ := hrel
    have HO := hideB hown
    have HM := hideB hcm
    have HX := hideB hx
    have GB := hideB hbel
    clear hown hcm hx hbel
    by_cases hlt : k < n
    · have hkl : k < l.length := by rw [← HLN.out]; exact hlt
      have hkv : k < (codesV l).length := by rw [HCL.out]; exact hlt
      have ci := HX.out.cell hkv
      rw [codes_get l HK.out k hkv] at ci
      have HNONE := hideB (codeOf_none l k)
      have HSZ := hideB (codeOf_size l k)
      have hcl := codeOf_le l HK.out k
      have HPUT := hideB (fun h0 => CM.put HM.out HO.out.isMap HS.out HK.out hkl h0)
      have HSKIP := hideB (fun h0 => CM.skip HM.out (k := k) h0)
      obtain ⟨c, hc⟩ : ∃ c, c = codeOf l k := ⟨_, rfl⟩
      rw [← hc] at ci HNONE HSZ hcl HPUT
      clear hc
      by_cases h0 : 0 < l.getD k 0
      · have hne : c.toList.isEmpty = false := nonempty c (by rw [HSZ.out]; omega)
        have hkey : keyOf Try.prog 9 (.string c) = some (kl c) := keyOf_string_mk Try.underlying9 (by unfold maxLen; omega)
        have HP2 := hideB (HPUT.out h0)
        have hown := HO.out
        clear h0 hcl
        go_wp2_with (first | (at_mapUpdate; refine wpList_mapUpdate_own _ rfl _ _ _ 79 rfl 9 2 lawS Try.underlying79 _ w.heap.size k _ rfl hown (by unfold maxLen; omega) _ _ _ rfl rfl hkey _ [] (plainElem_int Try.underlying2 (WalkArith.wf_i64 (by omega))) ?_; intro w2 hown2 hgrow2; have HO2 := hideB hown2; have HX2 := hideB (HX.out.of_heapS (hgrow2.block (w.heap.size + 1) HX.out.lt (by simp))); have GB2 := hideB (GB.out.grown hgrow2 GB.out.size (fun j hj => by cases hj; exact Nat.le_refl _)); clear hown2 hgrow2; go_frame))
        go_wp2_with fail
        go_roundw
        case rel => exact ⟨k + 1, _, by go_num, by omega, HO2.out, HP2.out, HX2.out, GB2.out⟩
        case measure => simp [intOf]; omega
      · have hce := HNONE.out h0
        have HP2 := hideB (HSKIP.out h0)
        have HO2 := hideB (HO.out.mono (Nat.le_succ k))
        subst hce
        clear h0 hcl
        go_wp2_with fail
        go_roundw
        case rel => exact ⟨k + 1, D, by go_num, by omega, HO2.out, HP2.out, HX.out, GB.out⟩
        case measure => simp [intOf]; omega
    · obtain rfl : k = n := by omega
      go_wp2_with fail
      go_ret
      exact ⟨D, rfl, HO.out, HM.out, GB.out⟩

def preR : Go.Shelf.Ren := ⟨fun | 99 => 130 | 206 => 145 | n => n, fun | 9 => 9 | 4 => 4 | 3 => 3 | n => n, fun | n => n⟩
theorem preL : Go.Proofs.Lays.n99 Try.prog preR := {
  mixed := by kernel_rfl
  f99 := Try.func130.trans (congrArg some (by kernel_rfl))
  f206 := Try.func145.trans (congrArg some (by kernel_rfl))
  t3 := Try.underlying3
  a3 := Try.isAgg3
  z3 := Try.sizeOf3
  v3 := Try.zeroValue3
  t4 := Try.underlying4
  a4 := Try.isAgg4
  z4 := Try.sizeOf4
  v4 := Try.zeroValue4
  t9 := Try.underlying9
  a9 := Try.isAgg9
  z9 := Try.sizeOf9
  v9 := Try.zeroValue9 }
theorem prefix_any (s p : ByteArray) (w : World) :
    Calls Try.prog 130 #[.string s, .string p] w fun e w' => e = .returned (.bool (Lib.hasPrefix s.data.toList p.data.toList)) ∧ w' = w := Any.strings_HasPrefix preL s p w

def symT (l : List Int) (t : ByteArray) : ByteArray := match sym l t with
  | some i => codeOf l i
  | none => ⟨#[]⟩

set_option maxRecDepth 100000 in
set_option maxHeartbeats 4000000 in
theorem first_any (l : List Int) (t : ByteArray) (b n : Nat) (D : DU) (w : World) (hown : w.ownsMap Try.prog 9 (plainElem Try.prog 2) b n D) (hcm : CM l D l.length) (hr : right l = true) (ht : t.size ≤ 8000) :
    Calls Try.prog 89 #[.map (some b), .string t] w fun e w' => e = .returned (.string (symT l t)) ∧ w' = w := by
  have hok := (within_yes (right_yes hr).1).2
  have hcs := (right_yes hr).2
  have w12 : ∀ k, k < l.length → wd l k ≤ 12 := fun k hk => by
    have := hok _ (List.getElem_mem hk)
    unfold wd
    rw [getD_lt hk]
    omega
  have HSYM := hideB (fun (i : Nat) (h : mt l t i) => sym_of hcs hok h)
  have HNONE := hideB (fun (h : ∀ i, ¬ mt l t i) => sym_none h)
  have HCM := hideB hcm
  have HW := hideB w12
  clear hok hcs w12 hcm hr
  obtain ⟨r, hrr⟩ : ∃ r, r = symT l t := ⟨_, rfl⟩
  have HR := hideB hrr
  rw [← hrr]
  clear hrr
  go_enter Try.func89, Try.ntmps89
  go_wp2_with fail
  go_loopw [5] (fun i wr => ∃ v : Nat, i = .int .i64 v ∧ 1 ≤ v ∧ v ≤ 13 ∧ v ≤ t.size + 1 ∧ (∀ j, mt l t j → v ≤ wd l j) ∧ wr = w) (fun i _ => 13 - (intOf i).toNat)
  case atStart => exact ⟨1, rfl, Nat.le_refl _, by omega, by omega, fun j hj => by have := hj.2.1; unfold wd; omega, rfl⟩
  case round =>
    obtain ⟨v, rfl, hv1, hv13, hvt, hall, hw⟩ := hrel
    subst hw
    have HA := hideB hall
    clear hall
    by_cases hA : v ≤ 12 ∧ v ≤ t.size
    · obtain ⟨hv12, hvs⟩ := hA
      have hvi : (v : Int) ≤ 12 := by omega
      have hvsi : (v : Int) ≤ t.size := by omega
      have hmn : (v : Int) ≤ min 12 (t.size : Int) := by omega
      have hes : (t.extract 0 v).size = v := by rw [ByteArray.size_extract]; omega
      have HES := hideB hes
      have hkey : keyOf Try.prog 9 (.string (t.extract 0 v)) = some (kl (t.extract 0 v)) := keyOf_string_mk Try.underlying9 (by unfold maxLen; omega)
      have HHAS := hideB (HCM.out.1 (kl (t.extract 0 v)))
      clear hes
      cases hh : Maps.has D (kl (t.extract 0 v)) with
      | true =>
        have HE : Hid (t.extract 0 v = r) := by
          unfold Hid
          obtain ⟨i, h1, h2, h3, h4⟩ := HHAS.out.1 hh
          have h5 := kl_inj h4
          have h6 : wd l i = v := by rw [← HES.out, h5]; exact (codeOf_size l i).symm
          have hm : mt l t i := ⟨h2, h3, by omega, by rw [h6]; exact h5⟩
          rw [HR.out, h5]
          unfold symT
          rw [HSYM.out i hm]
        go_wp2_with (first | (at_lookup; refine wpList_lookup_own_ok_int _ rfl _ _ 79 rfl 9 2 .i64 lawS Try.underlying79 Try.underlying2 (zeroI _) b n D rfl hown _ _ rfl hkey ?_; intro c hat hwc; rw [hh]; clear hat hwc))
        go_ret
        exact ⟨ret_strJ HE.out, rfl⟩
      | false =>
        have HN : Hid (∀ j, mt l t j → v + 1 ≤ wd l j) := fun j hj => by
          have h1 := HA.out j hj
          by_cases e : wd l j = v
          · have h2 : Maps.has D (kl (t.extract 0 v)) = true := HHAS.out.2 ⟨j, hj.1, hj.1, hj.2.1, by rw [← e]; rw [hj.2.2.2]⟩
            rw [hh] at h2
            cases h2
          · omega
        go_wp2_with (first | (at_lookup; refine wpList_lookup_own_ok_int _ rfl _ _ 79 rfl 9 2 .i64 lawS Try.underlying79 Try.underlying2 (zeroI _) b n D rfl hown _ _ rfl hkey ?_; intro c hat hwc; rw [hh]; clear hat hwc))
        go_wp2_with fail
        go_roundw
        case rel => exact ⟨v + 1, by go_num, by omega, by omega, by omega, HN.out, trivial⟩
        case measure => simp [intOf]; omega
    · have hmn : decide ((v : Int) ≤ min 12 (t.size : Int)) = false := decide_eq_false (by omega)
      have HE : Hid (r = ⟨#[]⟩) := by
        unfold Hid
        rw [HR.out]
        unfold symT
        rw [HNONE.out (fun i hm => hA ⟨by have h1 := HA.out i hm; have h2 := HW.out i hm.1; omega, by have h1 := HA.out i hm; have h2 := hm.2.2.1; omega⟩)]
      clear hA
      go_wp2_with fail
      go_ret
      exact ⟨ret_strJ HE.out.symm, rfl⟩
end Go.Proofs.Ytdnmbagdegbnfaa.Bi
