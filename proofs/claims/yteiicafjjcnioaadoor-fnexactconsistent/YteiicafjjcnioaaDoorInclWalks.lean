/- The walks of impl.climbFrom and impl.Included. -/
import Derived.Test.YteiicafjjcnioaaDoorClimb
import Derived.Test.YteiicafjjcnioaaDoorDigs
namespace Go.Proofs.YteiicafjjcnioaaDoor.Tr
open Go.RowKit
open Go.Proofs.YteiicafjjcnioaaDoor.St
open Go.Proofs.YteiicafjjcnioaaDoor.Sh (Vars nodeV)

theorem take_last (p : List ByteArray) (m : Nat) (h : 1 ≤ m) (hm : m ≤ p.length) : p.take m = p.take (m - 1) ++ [p[m - 1]] := by
  have := List.take_append_getElem (l := p) (i := m - 1) (by omega)
  rw [this, show m - 1 + 1 = m by omega]

set_option maxRecDepth 100000 in
set_option maxHeartbeats 4000000 in
theorem climbFrom_any (n0 i0 : Nat) (p : List ByteArray) (a : Option Addr) (cap B : Nat) (w : World) (hin : i0 < n0) (hn : n0 < 9223372036854775808) (hp : p.length ≤ 1048576) (hcap : p.length ≤ cap) (hw : ∀ j (h : j < p.length), p[j].size = 32) (hs : Strs w B a p) (hB : B ≤ w.heap.size) :
    Calls Tryd.prog 83 #[.int .i64 i0, .int .i64 n0, .slice a p.length cap] w fun e w' => Below w.heap.size w w' ∧ ((∃ f φ, e = .returned (.tuple #[f, .bool true]) ∧ Climbs w' f φ ∧ ∀ h, incl n0 i0 p h = some (φ h)) ∨ (∃ f, e = .returned (.tuple #[f, .bool false]) ∧ ∀ h, incl n0 i0 p h = none)) := by
  have HS := hideT hs
  have HW := hideT hw
  clear hs hw
  obtain ⟨m0, hm0⟩ : ∃ m0, m0 = p.length := ⟨_, rfl⟩
  have HM := hideT hm0
  rw [← hm0] at hp hcap ⊢
  clear hm0
  go_enter Tryd.func83, Tryd.ntmps83
  go_wp2_with fail
  go_loopw [0, 1, 2, 8] (fun iv nv pv uv wr => ∃ (i n m c : Nat) (φ : ByteArray → ByteArray), iv = .int .i64 i ∧ nv = .int .i64 n ∧ pv = .slice a m c ∧ i < n ∧ n ≤ n0 ∧ m ≤ m0 ∧ m ≤ c ∧ Climbs wr uv φ ∧ (∀ h, incl n0 i0 p h = (incl n i (p.take m) h).map φ) ∧ Below w.heap.size w wr) (fun _ nv _ _ _ => (intOf nv).toNat)
  case atStart =>
    refine ⟨i0, n0, m0, cap, fun x => x, rfl, rfl, rfl, hin, Nat.le_refl _, Nat.le_refl _, hcap, stay_any w, fun h => ?_, Below.refl _ _⟩
    rw [HM.out, List.take_length, Option.map_id']
  case round =>
    obtain ⟨i, n, m, c, φ, rfl, rfl, rfl, hi, hn0, hm, hmc, hcl, hinc, hbel⟩ := hrel
    have HB := hideT hbel
    have HCL := hideT hcl
    have HI := hideT hinc
    clear hbel hcl hinc
    by_cases h1 : n ≤ 1
    · obtain rfl : n = 1 := by omega
      obtain rfl : i = 0 := by omega
      by_cases hm0 : m = 0
      · subst hm0
        have HE : Hid (∀ h, incl n0 i0 p h = some (φ h)) := fun h => by
          rw [HI.out h, incl_one]
          rfl
        go_wp2_with fail
        go_ret2
        exact ⟨HB.out, .inl ⟨_, φ, rfl, HCL.out, HE.out⟩⟩
      · have HE : Hid (∀ h, incl n0 i0 p h = none) := fun h => by
          rw [HI.out h, incl_one, if_neg (by
            intro he
            have h2 := congrArg List.length he
            rw [List.length_take, List.length_nil] at h2
            have h3 := HM.out
            omega)]
          rfl
        have g0 : ((m : Int) == 0) = false := by simp; omega
        go_wp2_with fail
        go_ret2
        exact ⟨HB.out, .inr ⟨_, rfl, HE.out⟩⟩
    · have g1 : 1 < (n : Int) := by omega
      by_cases hm0 : m = 0
      · subst hm0
        have HE : Hid (∀ h, incl n0 i0 p h = none) := fun h => by
          rw [HI.out h, List.take_zero, incl_none n i h (by omega)]
          rfl
        go_wp2_with fail
        go_ret2
        exact ⟨HB.out, .inr ⟨_, rfl, HE.out⟩⟩
      · have g0 : ¬ (m : Int) = 0 := by omega
        have hml : m - 1 < p.length := by have := HM.out; omega
        obtain ⟨b, off, rfl, hb, hc⟩ := (HS.out.after HB.out hB).some (by omega)
        have ci := hc (m - 1) hml
        have HSZ := hideT (HW.out (m - 1) hml)
        have HTL := hideT (take_last p m (by omega) (by have := HM.out; omega))
        have HIL := hideT (fun (s h : ByteArray) (hik : i < half n) => incl_left n i (p.take (m - 1)) s h (by omega) hik)
        have HIR := hideT (fun (s h : ByteArray) (hik : ¬ i < half n) => incl_right n i (p.take (m - 1)) s h (by omega) hik hi)
        obtain ⟨s, hse⟩ : ∃ s, s = p[m - 1] := ⟨_, rfl⟩
        rw [← hse] at ci HSZ HTL
        clear hc hse
        have hp2 := half_pos n
        have hl2 := half_lt n (by omega)
        go_wp2_with fail
        refine (cutLast_any b off m c s wr (by omega) (by omega) hmc ci).mono ?_
        rintro e w1 ⟨rfl, hb1⟩
        have HB1 := hideT (HB.out.trans (hb1.mono HB.out.size))
        have HCL1 := hideT (HCL.out.later hb1)
        clear hb1 ci
        go_wp2_with fail
        refine (half_impl n w1 (by omega) (by omega)).mono ?_
        rintro e w2 ⟨rfl, hw2⟩
        subst w2
        obtain ⟨k, hk⟩ : ∃ k, k = half n := ⟨_, rfl⟩
        rw [← hk] at hp2 hl2 HIL HIR ⊢
        clear hk
        by_cases hik : i < k
        · go_wp2_with fail
          refine (joinRight_any s _ φ w1 HSZ.out HCL1.out).mono ?_
          rintro e w3 ⟨g, rfl, hg3, hb3⟩
          have HB3 := hideT (HB1.out.trans (hb3.mono HB1.out.size))
          have HG := hideT hg3
          clear hb3 hg3
          go_wp2_with fail
          go_roundw
          case rel =>
            refine ⟨i, k, m - 1, m - 1, _, rfl, rfl, rfl, hik, by omega, by omega, Nat.le_refl _, HG.out, fun h => ?_, HB3.out⟩
            rw [HI.out h, HTL.out, HIL.out s h hik, Option.map_map]
            rfl
          case measure => simp [intOf]; omega
        · go_wp2_with fail
          refine (joinLeft_any s _ φ w1 HSZ.out HCL1.out).mono ?_
          rintro e w3 ⟨g, rfl, hg3, hb3⟩
          have HB3 := hideT (HB1.out.trans (hb3.mono HB1.out.size))
          have HG := hideT hg3
          clear hb3 hg3
          go_wp2_with fail
          go_roundw
          case rel =>
            refine ⟨i - k, n - k, m - 1, m - 1, _, by go_num, by go_num, rfl, by omega, by omega, by omega, Nat.le_refl _, HG.out, fun h => ?_, HB3.out⟩
            rw [HI.out h, HTL.out, HIR.out s h hik, Option.map_map]
            rfl
          case measure => simp [intOf]; omega

theorem str_eq (a b : ByteArray) : (a.toList == b.toList) = decide (a = b) := by
  rw [ByteArray.toList_eq, ByteArray.toList_eq]
  by_cases h : a = b
  · subst h
    simp
  · rw [decide_eq_false h]
    have : ¬ a.data.toList = b.data.toList := fun e => h (by
      cases a
      cases b
      simp at e
      rw [e])
    simpa using this
/-- what Included answers -/
def inclB (leaf : ByteArray) (i n : Int) (p : List ByteArray) (root : ByteArray) : Bool :=
  decide (leaf.size = 32) && decide (root.size = 32) && (decide (p.length ≤ 63) && wide p) && decide (0 ≤ i) && decide (i < n) && decide (incl n.toNat i.toNat p leaf = some root)
theorem inclB_leaf (leaf : ByteArray) (i n : Int) (p : List ByteArray) (root : ByteArray) (h : ¬ leaf.size = 32) : inclB leaf i n p root = false := by simp [inclB, h]
theorem inclB_root (leaf : ByteArray) (i n : Int) (p : List ByteArray) (root : ByteArray) (h : ¬ root.size = 32) : inclB leaf i n p root = false := by simp [inclB, h]
theorem inclB_path (leaf : ByteArray) (i n : Int) (p : List ByteArray) (root : ByteArray) (h : (decide (p.length ≤ 63) && wide p) = false) : inclB leaf i n p root = false := by simp only [inclB, h]; simp
theorem inclB_low (leaf : ByteArray) (i n : Int) (p : List ByteArray) (root : ByteArray) (h : i < 0) : inclB leaf i n p root = false := by simp [inclB, show ¬ 0 ≤ i by omega]
theorem inclB_high (leaf : ByteArray) (i n : Int) (p : List ByteArray) (root : ByteArray) (h : ¬ i < n) : inclB leaf i n p root = false := by simp [inclB, h]
theorem inclB_in (leaf : ByteArray) (i n : Nat) (p : List ByteArray) (root : ByteArray) (h1 : leaf.size = 32) (h2 : root.size = 32) (h3 : (decide (p.length ≤ 63) && wide p) = true) (h : i < n) : inclB leaf i n p root = decide (incl n i p leaf = some root) := by
  simp only [inclB, h1, h2, h3]
  simp [h]

set_option maxRecDepth 100000 in
set_option maxHeartbeats 4000000 in
theorem incl_impl (leaf root : ByteArray) (i n : Int) (p : List ByteArray) (a : Option Addr) (cap B : Nat) (w : World) (hn : n < 9223372036854775808) (hp : p.length ≤ 1048576) (hcap : p.length ≤ cap) (hs : Strs w B a p) (hB : B ≤ w.heap.size) (hV : Vars w) :
    Calls Tryd.prog 34 #[.string leaf, .int .i64 i, .int .i64 n, .slice a p.length cap, .string root] w fun e w' => e = .returned (.bool (inclB leaf i n p root)) ∧ Below w.heap.size w w' := by
  have HD := hideT (digs_impl a cap p 63 w B hs hp)
  have HCF := hideT (fun (n' i' : Nat) h1 h2 h3 => climbFrom_any n' i' p a cap B w h1 h2 hp hcap h3 hs hB)
  have HV := hideT hV
  have hv2 := hV.two
  have HPath := hideT (inclB_path leaf i n p root)
  have HIn := hideT (inclB_in leaf)
  have HWide := hideT ((wide_yes p).1)
  clear hs hV
  by_cases h1 : leaf.size = 32
  · by_cases h2 : root.size = 32
    · cases h3 : (decide (p.length ≤ 63) && wide p) with
      | false =>
        have HF := hideT (HPath.out h3)
        rw [h3] at HD
        clear h3
        clear HCF
        generalize p.length = m at hp hcap HD ⊢
        go_enter Tryd.func34, Tryd.ntmps34
        go_wp2_with fail
        refine HD.out.mono ?_
        rintro e w1 ⟨rfl, hw⟩
        subst w1
        go_wp2_with fail
        go_ret
        exact ⟨ret_bool HF.out.symm, Below.refl _ _⟩
      | true =>
        have HT := hideT h3
        have HW2 : Hid (wide p = true) := by
          unfold Hid
          rw [Bool.and_eq_true] at h3
          exact h3.2
        rw [h3] at HD
        clear h3
        by_cases hi0 : i < 0
        · have HF := hideT (inclB_low leaf i n p root hi0)
          clear HCF
          generalize p.length = m at hp hcap HD ⊢
          go_enter Tryd.func34, Tryd.ntmps34
          go_wp2_with fail
          refine HD.out.mono ?_
          rintro e w1 ⟨rfl, hw⟩
          subst w1
          go_wp2_with fail
          go_ret
          exact ⟨ret_bool HF.out.symm, Below.refl _ _⟩
        · by_cases hin : i < n
          · obtain ⟨i', rfl⟩ : ∃ k : Nat, i = k := ⟨i.toNat, by omega⟩
            obtain ⟨n', rfl⟩ : ∃ k : Nat, n = k := ⟨n.toNat, by omega⟩
            have HF := hideT (HIn.out i' n' p root h1 h2 HT.out (by omega))
            have HC := hideT (HCF.out n' i' (by omega) (by omega) (HWide.out HW2.out))
            generalize p.length = m at hp hcap HD HC ⊢
            have g1 : ¬ (n' : Int) ≤ i' := by omega
            clear HCF hi0 hin hn
            go_enter Tryd.func34, Tryd.ntmps34
            go_wp2_with fail
            refine HD.out.mono ?_
            rintro e w1 ⟨rfl, hw⟩
            subst w1
            go_wp2_with fail
            refine HC.out.mono ?_
            rintro e w2 ⟨hb2, ⟨f, φ, rfl, hcl, hall⟩ | ⟨f, rfl, hnone⟩⟩
            · obtain ⟨k, caps, rfl, he, hcall⟩ := hcl
              have HB2 := hideT hb2
              have HE := hideT (hall leaf)
              have HCall := hideT (hcall leaf w2 h1 (Below.refl _ _) (HV.out.below hb2 hv2))
              clear hcall hall hb2
              go_wp2_with fail
              refine HCall.out.mono ?_
              rintro e w3 ⟨rfl, hb3⟩
              have HB3 := hideT (below2 HB2.out hb3)
              clear hb3
              have HQ : Hid (inclB leaf i' n' p root = decide (φ leaf = root)) := by
                unfold Hid
                rw [HF.out, HE.out]
                simp
              go_wp2_with fail
              go_ret
              exact ⟨ret_bool (by rw [HQ.out]; exact str_eq _ _), HB3.out⟩
            · have HQ : Hid (inclB leaf i' n' p root = false) := by
                unfold Hid
                rw [HF.out, hnone leaf]
                simp
              clear hnone
              go_wp2_with fail
              go_ret
              exact ⟨ret_bool HQ.out.symm, hb2⟩
          · have HF := hideT (inclB_high leaf i n p root hin)
            have hin' : n ≤ i := by omega
            clear HCF
            generalize p.length = m at hp hcap HD ⊢
            go_enter Tryd.func34, Tryd.ntmps34
            go_wp2_with fail
            refine HD.out.mono ?_
            rintro e w1 ⟨rfl, hw⟩
            subst w1
            go_wp2_with fail
            go_ret
            exact ⟨ret_bool HF.out.symm, Below.refl _ _⟩
    · have HF := hideT (inclB_root leaf i n p root h2)
      clear HCF
      generalize p.length = m at hp hcap HD ⊢
      go_enter Tryd.func34, Tryd.ntmps34
      go_wp2_with fail
      go_ret
      exact ⟨ret_bool HF.out.symm, Below.refl _ _⟩
  · have HF := hideT (inclB_leaf leaf i n p root h1)
    clear HCF
    generalize p.length = m at hp hcap HD ⊢
    go_enter Tryd.func34, Tryd.ntmps34
    go_wp2_with fail
    go_ret
    exact ⟨ret_bool HF.out.symm, Below.refl _ _⟩
end Go.Proofs.YteiicafjjcnioaaDoor.Tr
