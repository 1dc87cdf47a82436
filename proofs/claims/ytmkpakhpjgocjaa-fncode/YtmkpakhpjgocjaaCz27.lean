/- Texts put together: LwNums, LwTexts, GetNext. -/
import Derived.Test.YtmkpakhpjgocjaaCz26
import Derived.Test.YtmkpakhpjgocjaaStrBase
import Derived.BigRegion
import Derived.BigQuiet
import Derived.Deep.QuietTactic
import Derived.Test.YtmkpakhpjgocjaaCz12
import Derived.Test.YtmkpakhpjgocjaaCz23
/- Two lists of the same numbers are told the same. -/
namespace Go.Proofs.Ytmkpakhpjgocjaa.So
open Go.RowKit Go.Sort Go.Proofs
open Go.Proofs.Ytmkpakhpjgocjaa.In (Ints)

theorem ints_drewN {w : World} {B : Nat} {a : Option Addr} {l : List Int} (h : Ints w B a l) (n : Nat) : Ints (w.drewN n) B a l := by
  rcases h with h | h
  · exact .inl h
  · exact .inr h

set_option maxRecDepth 100000 in
set_option maxHeartbeats 1000000 in
theorem lwNums_same (l : List Int) (a b : Option Addr) (ca cb A B : Nat) (w : World) (ha : Ints w A a l) (hb : Ints w B b l) (hn : l.length ≤ 1048576) :
    Calls Try.prog 20 #[.slice a l.length ca, .slice b l.length cb] w fun e w' => e = .returned (.bool true) ∧ ∃ q, w' = w.drewN q := by
  have mixed := mixed
  have HA := hideO ha
  have HB := hideO hb
  obtain ⟨n, hln⟩ : ∃ n, n = l.length := ⟨_, rfl⟩
  have HLN := hideO hln
  rw [← hln] at hn ⊢
  clear hln ha hb
  have hne : ((n : Int) != (n : Int)) = false := by simp
  go_enter Try.func20, Try.ntmps20
  go_wp2_with fail
  go_loopw [5] (fun i wr => ∃ (k q : Nat), i = .int .i64 k ∧ k ≤ n ∧ wr = w.drewN q) (fun i _ => n - (intOf i).toNat)
  case atStart => exact ⟨0, 0, rfl, Nat.zero_le _, rfl⟩
  case round =>
    obtain ⟨k, q, rfl, hk, hwr⟩ := hrel
    have HW := hideO hwr
    by_cases hlt : k < n
    · have hkz : (k : Int) < (n : Int) := by omega
      have hkl : k < l.length := by rw [← HLN.out]; exact hlt
      have h1 : Ints wr A a l := by rw [hwr]; exact ints_drewN HA.out q
      have h2 : Ints wr B b l := by rw [hwr]; exact ints_drewN HB.out q
      obtain ⟨ga, oa, rfl, _, hca⟩ := h1.some (by omega)
      obtain ⟨gb, ob, rfl, _, hcb⟩ := h2.some (by omega)
      have x1 := hca k hkl
      have x2 := hcb k hkl
      obtain ⟨x, hx⟩ : ∃ x, x = l[k] := ⟨_, rfl⟩
      rw [← hx] at x1 x2
      have y1 := fun n' => (show (wr.drewN n').cell? ⟨ga, oa + k, none⟩ = some (.int .i64 x) from x1)
      have y2 := fun n' => (show (wr.drewN n').cell? ⟨gb, ob + k, none⟩ = some (.int .i64 x) from x2)
      have hxx : (x != x) = false := by simp
      clear hca hcb hx h1 h2 hwr x1 x2
      go_wp2_with fail
      go_quiet (fail)
      all_goals (try go_wp2_with fail)
      go_roundw
      case rel => exact ⟨k + 1, q + nq, by go_num, by omega, by rw [HW.out]; exact World.drewN_drewN _ _ _⟩
      case measure => simp [intOf]; omega
    · obtain rfl : k = n := by omega
      clear hwr
      go_wp2_with fail
      go_ret
      exact ⟨rfl, q, HW.out⟩
end Go.Proofs.Ytmkpakhpjgocjaa.So

/- The laws' lwTexts: two rows of the same texts are alike. -/
namespace Go.Proofs.Ytmkpakhpjgocjaa.St
open Go.RowKit

set_option maxRecDepth 100000 in
set_option maxHeartbeats 1000000 in
theorem texts_any (a b : Option Addr) (cap cap' : Nat) (l : List ByteArray) (w : World) (B : Nat) (ha : Strs w B a l) (hb : Strs w B b l) (hn : l.length ≤ 1048576) :
    Calls Try.prog 24 #[.slice a l.length cap, .slice b l.length cap'] w fun e w' => e = .returned (.bool true) ∧ Below w.heap.size w w' := by
  have HA := hideT ha
  have HB := hideT hb
  clear ha hb
  obtain ⟨n, hln⟩ : ∃ n, n = l.length := ⟨_, rfl⟩
  have HLN := hideT hln
  rw [← hln] at hn ⊢
  clear hln
  go_enter Try.func24, Try.ntmps24
  go_wp2_with fail
  go_loopw [5] (fun i wr => ∃ k : Nat, i = .int .i64 k ∧ k ≤ n ∧ (∀ p : Addr, wr.cell? p = w.cell? p) ∧ Below w.heap.size w wr) (fun i _ => n - (intOf i).toNat)
  case atStart => exact ⟨0, rfl, by omega, fun _ => rfl, Below.refl _ _⟩
  case round =>
    obtain ⟨k, rfl, hk, hcell, hbel⟩ := hrel
    have HC := hideT hcell
    have GB := hideT hbel
    by_cases hlt : k < n
    · have hkl : k < l.length := by rw [← HLN.out]; exact hlt
      obtain ⟨b1, off1, rfl, _, hc1⟩ := HA.out.some (by omega)
      obtain ⟨b2, off2, rfl, _, hc2⟩ := HB.out.some (by omega)
      have c1 := (hcell _).trans (hc1 k hkl)
      have c2 := (hcell _).trans (hc2 k hkl)
      obtain ⟨s, hs⟩ : ∃ s, s = l[k] := ⟨_, rfl⟩
      rw [← hs] at c1 c2
      clear hc1 hc2 hcell hbel hs
      go_wp2_with fail
      go_region
      all_goals (try go_wp2_with fail)
      all_goals go_roundw
      case rel => exact ⟨k + 1, by go_num, by omega, fun p => HC.out p, GB.out.drew⟩
      case measure => simp [intOf]; omega
    · clear hcell hbel
      go_wp2_with fail
      go_ret
      exact ⟨rfl, GB.out⟩
end Go.Proofs.Ytmkpakhpjgocjaa.St

/- The walk of the specification's look for the next symbol. -/
namespace Go.Proofs.Ytmkpakhpjgocjaa.Bi
open Go.RowKit
open Go.Proofs.Ytmkpakhpjgocjaa.St (IsS Strs)

def wthK (l : List Int) (t : ByteArray) (k : Nat) : Bool := (List.range k).any fun i => decide (0 < l.getD i 0) && Lib.hasPrefix (codeOf l i).data.toList t.data.toList
theorem wthK_zero (l : List Int) (t : ByteArray) : wthK l t 0 = false := rfl
theorem wthK_next (l : List Int) (t : ByteArray) (k : Nat) : wthK l t (k + 1) = (wthK l t k || (decide (0 < l.getD k 0) && Lib.hasPrefix (codeOf l k).data.toList t.data.toList)) := by
  unfold wthK
  rw [List.range_succ, List.any_append, List.any_cons, List.any_nil, Bool.or_false]
def nxt (l : List Int) (t : ByteArray) : Int := match sym l t with
  | some i => (i : Int)
  | none => if wth l t = true then -2 else -1
theorem toList_beq {x y : ByteArray} : (x.toList == y.toList) = true ↔ x = y := by
  rw [beq_iff_eq, ByteArray.toList_eq, ByteArray.toList_eq]
  constructor
  · intro h
    have h2 : x.data = y.data := Array.toList_inj.1 h
    cases x; cases y; simp at h2; rw [h2]
  · intro h; rw [h]
/-- a text that is no shorter than a code, and does not begin with it -/
theorem pre_no {c t : ByteArray} (h : c.size ≤ t.size) (hne : ¬ t.extract 0 c.size = c) : Lib.hasPrefix c.data.toList t.data.toList = false := by
  rw [← Lib.hasPrefix_raw]
  by_cases hs : t.size ≤ c.size
  · rw [decide_eq_true hs, Bool.true_and]
    cases hb : ((c.extract 0 t.size).toList == t.toList) with
    | false => rfl
    | true =>
      have h1 := toList_beq.1 hb
      have h2 : t.size = c.size := by omega
      rw [h2, ByteArray.extract_zero_size] at h1
      exact absurd (by rw [h1]; exact ByteArray.extract_zero_size) hne
  · rw [decide_eq_false hs, Bool.false_and]
theorem pre_is {c t : ByteArray} (h : t.size < c.size) : ((c.extract 0 t.size).toList == t.toList) = Lib.hasPrefix c.data.toList t.data.toList := by
  rw [← Lib.hasPrefix_raw, decide_eq_true (by omega), Bool.true_and]

set_option maxRecDepth 100000 in
set_option maxHeartbeats 2000000 in
theorem next_spec (l : List Int) (t : ByteArray) (p : Nat) (x : Option Addr) (cap B : Nat) (w : World) (hs : Strs w B x (codesV l)) (hr : right l = true) (hp : p ≤ t.size) (ht : t.size ≤ 8000) :
    Calls Try.prog 128 #[.slice x l.length cap, .string t, .int .i64 p] w fun e w' => e = .returned (.int .i64 (nxt l (rst t p))) ∧ w' = w := by
  have hok := (within_yes (right_yes hr).1).2
  have hcs := (right_yes hr).2
  have hn := (within_yes (right_yes hr).1).1
  have HS := hideB hs
  have HK := hideB hok
  have HSO := hideB (fun (i : Nat) (h : mt l (rst t p) i) => sym_of hcs hok h)
  have HSN := hideB (fun (h : ∀ i, ¬ mt l (rst t p) i) => sym_none h)
  have HCL := hideB (codesV_length l)
  clear hs hok hcs hr
  obtain ⟨n, hln⟩ : ∃ n, n = l.length := ⟨_, rfl⟩
  have HLN := hideB hln
  rw [← hln] at hn HCL ⊢
  clear hln
  obtain ⟨r, hrr⟩ : ∃ r, r = rst t p := ⟨_, rfl⟩
  have hre : t.extract p t.size = r := hrr.symm
  have hrz : r.size ≤ 8000 := by rw [hrr, rst_size]; omega
  obtain ⟨rs, hrs⟩ : ∃ rs, rs = nxt l (rst t p) := ⟨_, rfl⟩
  have HRS := hideB hrs
  rw [← hrs]
  rw [← hrr] at HRS HSO HSN
  clear hrr hrs
  have hpi : (p : Int) ≤ t.size := by omega
  go_enter Try.func128, Try.ntmps128
  go_wp2_with fail
  go_loopw [9, 8] (fun i b wr => ∃ (k : Nat) (wb : Bool), i = .int .i64 k ∧ b = .bool wb ∧ k ≤ n ∧ wb = wthK l r k ∧ (∀ j, j < k → ¬ mt l r j) ∧ wr = w) (fun i _ _ => n - (intOf i).toNat)
  case atStart => exact ⟨0, false, rfl, rfl, Nat.zero_le _, rfl, fun j hj => absurd hj (Nat.not_lt_zero j), rfl⟩
  case round =>
    obtain ⟨k, wb, rfl, rfl, hk, hwb, hall, hw⟩ := hrel
    subst hw
    have HWB := hideB hwb
    have HA := hideB hall
    clear hwb hall
    by_cases hlt : k < n
    · have hkl : k < l.length := by rw [← HLN.out]; exact hlt
      have hkv : k < (codesV l).length := by rw [HCL.out]; exact hlt
      obtain ⟨b, off, rfl, hb, hc⟩ := HS.out.some (by omega)
      have ci := hc k hkv
      rw [codes_get l HK.out k hkv] at ci
      have HNX := hideB (wthK_next l r k)
      have HNONE := hideB (codeOf_none l k)
      have HSZ := hideB (codeOf_size l k)
      have hcl := codeOf_le l HK.out k
      have HMT : Hid (mt l r k ↔ 0 < l.getD k 0 ∧ wd l k ≤ r.size ∧ r.extract 0 (wd l k) = codeOf l k) := ⟨fun h => h.2, fun h => ⟨hkl, h⟩⟩
      rw [show (l.getD k 0).toNat = wd l k from rfl] at HSZ
      rw [← HSZ.out] at HMT
      obtain ⟨c, hcc⟩ : ∃ c, c = codeOf l k := ⟨_, rfl⟩
      rw [← hcc] at ci HNX HNONE hcl HMT
      have HS2 : Hid (c.size = wd l k) := by
        unfold Hid
        rw [hcc]
        exact HSZ.out
      clear hc hcc HSZ
      by_cases h0 : 0 < l.getD k 0
      · have hne : c.toList.isEmpty = false := nonempty c (by rw [HS2.out]; unfold wd; omega)
        rw [decide_eq_true h0, Bool.true_and] at HNX
        by_cases hge : c.size ≤ r.size
        · have hgi : (c.size : Int) ≤ r.size := by omega
          by_cases hm : r.extract 0 c.size = c
          · have hbq : ((r.extract 0 c.size).toList == c.toList) = true := toList_beq.2 hm
            have HE : Hid (rs = (k : Int)) := by
              unfold Hid
              rw [HRS.out]
              unfold nxt
              rw [HSO.out k (HMT.out.2 ⟨h0, hge, hm⟩)]
            clear hm h0
            go_wp2_with fail
            go_ret
            exact ⟨by rw [HE.out]; rfl, rfl⟩
          · have hbq : ((r.extract 0 c.size).toList == c.toList) = false := by
              cases hq : ((r.extract 0 c.size).toList == c.toList) with
              | false => rfl
              | true => exact absurd (toList_beq.1 hq) hm
            have HNO : Hid (∀ j, j < k + 1 → ¬ mt l r j) := fun j hj hmj => by
              by_cases e : j = k
              · subst e; exact hm (HMT.out.1 hmj).2.2
              · exact HA.out j (by omega) hmj
            have HW2 : Hid (wb = wthK l r (k + 1)) := by
              unfold Hid
              rw [HNX.out, pre_no hge hm, Bool.or_false]
              exact HWB.out
            have hlf : decide ((r.size : Int) < c.size) = false := decide_eq_false (by omega)
            clear hm h0
            cases wb with
            | true =>
              go_wp2_with fail
              go_roundw
              case rel => exact ⟨k + 1, true, by go_num, rfl, by omega, HW2.out, HNO.out, trivial⟩
              case measure => simp [intOf]; omega
            | false =>
              go_wp2_with fail
              go_roundw
              case rel => exact ⟨k + 1, false, by go_num, rfl, by omega, HW2.out, HNO.out, trivial⟩
              case measure => simp [intOf]; omega
        · have hgi : decide ((c.size : Int) ≤ r.size) = false := decide_eq_false (by omega)
          have hlt' : (r.size : Int) < c.size := by omega
          have hri : (r.size : Int) ≤ c.size := by omega
          have HNO : Hid (∀ j, j < k + 1 → ¬ mt l r j) := fun j hj hmj => by
            by_cases e : j = k
            · subst e; exact hge (HMT.out.1 hmj).2.1
            · exact HA.out j (by omega) hmj
          have hbq := pre_is (c := c) (t := r) (by omega)
          have HW2 : Hid ((wb || Lib.hasPrefix c.data.toList r.data.toList) = wthK l r (k + 1)) := by
            unfold Hid
            rw [HNX.out, HWB.out]
          generalize Lib.hasPrefix c.data.toList r.data.toList = pb at hbq HW2
          clear h0
          cases wb with
          | true =>
            go_wp2_with fail
            go_roundw
            case rel => exact ⟨k + 1, true, by go_num, rfl, by omega, HW2.out, HNO.out, trivial⟩
            case measure => simp [intOf]; omega
          | false =>
            cases pb with
            | true =>
              go_wp2_with fail
              go_roundw
              case rel => exact ⟨k + 1, true, by go_num, rfl, by omega, HW2.out, HNO.out, trivial⟩
              case measure => simp [intOf]; omega
            | false =>
              go_wp2_with fail
              go_roundw
              case rel => exact ⟨k + 1, false, by go_num, rfl, by omega, HW2.out, HNO.out, trivial⟩
              case measure => simp [intOf]; omega
      · have hce := HNONE.out h0
        have HNO : Hid (∀ j, j < k + 1 → ¬ mt l r j) := fun j hj hmj => by
          by_cases e : j = k
          · subst e; exact h0 (HMT.out.1 hmj).1
          · exact HA.out j (by omega) hmj
        have HW2 : Hid (wb = wthK l r (k + 1)) := by
          unfold Hid
          rw [HNX.out, decide_eq_false h0, Bool.false_and, Bool.or_false]
          exact HWB.out
        subst hce
        clear h0
        go_wp2_with fail
        go_roundw
        case rel => exact ⟨k + 1, wb, by go_num, rfl, by omega, HW2.out, HNO.out, trivial⟩
        case measure => simp [intOf]; omega
    · obtain rfl : k = n := by omega
      have HSY : Hid (sym l r = none) := HSN.out (fun i hm => HA.out i (by rw [HLN.out]; exact hm.1) hm)
      have HWT : Hid (wb = wth l r) := by
        unfold Hid
        rw [HWB.out, HLN.out]
        rfl
      cases wb with
      | true =>
        have HE : Hid (rs = -2) := by
          unfold Hid
          rw [HRS.out]
          unfold nxt
          rw [HSY.out]
          simp only [← HWT.out, if_true]
        go_wp2_with fail
        go_ret
        exact ⟨by rw [HE.out]; rfl, rfl⟩
      | false =>
        have HE : Hid (rs = -1) := by
          unfold Hid
          rw [HRS.out]
          unfold nxt
          rw [HSY.out]
          simp only [← HWT.out]
          rfl
        go_wp2_with fail
        go_ret
        exact ⟨by rw [HE.out]; rfl, rfl⟩
end Go.Proofs.Ytmkpakhpjgocjaa.Bi
