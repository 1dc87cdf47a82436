/- What both Consistent answer: impl.Consistent. -/
import Derived.Test.YteiicafjjcnioaaDoorConsWalks
namespace Go.Proofs.YteiicafjjcnioaaDoor.Tr
open Go.RowKit
open Go.Proofs.YteiicafjjcnioaaDoor.St
open Go.Proofs.YteiicafjjcnioaaDoor.Sh (Vars)

/-- what Consistent answers, its conditions met -/
def consV (old n : Nat) (p : List ByteArray) (was root : ByteArray) : Bool := if old = n then decide (p.length = 0) && decide (was = root) else decide (conP true old n p was = some (was, root))
def consB (old n : Int) (p : List ByteArray) (was root : ByteArray) : Bool :=
  decide (1 ≤ old) && decide (old ≤ n) && decide (was.size = 32) && decide (root.size = 32) && (decide (p.length ≤ 64) && wide p) && consV old.toNat n.toNat p was root
theorem consB_low (old n : Int) (p : List ByteArray) (was root : ByteArray) (h : old < 1) : consB old n p was root = false := by simp [consB, show ¬ 1 ≤ old by omega]
theorem consB_high (old n : Int) (p : List ByteArray) (was root : ByteArray) (h : n < old) : consB old n p was root = false := by simp [consB, show ¬ old ≤ n by omega]
theorem consB_was (old n : Int) (p : List ByteArray) (was root : ByteArray) (h : ¬ was.size = 32) : consB old n p was root = false := by simp [consB, h]
theorem consB_root (old n : Int) (p : List ByteArray) (was root : ByteArray) (h : ¬ root.size = 32) : consB old n p was root = false := by simp [consB, h]
theorem consB_path (old n : Int) (p : List ByteArray) (was root : ByteArray) (h : (decide (p.length ≤ 64) && wide p) = false) : consB old n p was root = false := by simp only [consB, h]; simp
theorem consB_in (old n : Nat) (p : List ByteArray) (was root : ByteArray) (h0 : 1 ≤ old) (h : old ≤ n) (h1 : was.size = 32) (h2 : root.size = 32) (h3 : (decide (p.length ≤ 64) && wide p) = true) : consB old n p was root = consV old n p was root := by
  simp only [consB, h1, h2, h3]
  have e1 : decide ((1 : Int) ≤ old) = true := by simp; omega
  have e2 : decide ((old : Int) ≤ n) = true := by simp; omega
  rw [e1, e2]
  simp

set_option maxRecDepth 100000 in
set_option maxHeartbeats 4000000 in
theorem cons_impl (old n : Int) (p : List ByteArray) (was root : ByteArray) (a : Option Addr) (cap B : Nat) (w : World) (hn : n < 9223372036854775808) (hp : p.length ≤ 1048576) (hcap : p.length ≤ cap) (hs : Strs w B a p) (hB : B ≤ w.heap.size) (hV : Vars w) :
    Calls Tryd.prog 47 #[.int .i64 old, .int .i64 n, .slice a p.length cap, .string was, .string root] w fun e w' => e = .returned (.bool (consB old n p was root)) ∧ Below w.heap.size w w' := by
  by_cases h0 : old < 1
  · have HF := hideT (consB_low old n p was root h0)
    clear hs hV
    generalize p.length = m at hp hcap ⊢
    go_enter Tryd.func47, Tryd.ntmps47
    go_wp2_with fail
    go_ret
    exact ⟨ret_bool HF.out.symm, Below.refl _ _⟩
  · by_cases h1 : n < old
    · have HF := hideT (consB_high old n p was root h1)
      clear hs hV
      generalize p.length = m at hp hcap ⊢
      go_enter Tryd.func47, Tryd.ntmps47
      go_wp2_with fail
      go_ret
      exact ⟨ret_bool HF.out.symm, Below.refl _ _⟩
    · by_cases h2 : was.size = 32
      · by_cases h3 : root.size = 32
        · have HD := hideT (digs_impl a cap p 64 w B hs hp)
          obtain ⟨o', rfl⟩ : ∃ k : Nat, old = k := ⟨old.toNat, by omega⟩
          obtain ⟨n', rfl⟩ : ∃ k : Nat, n = k := ⟨n.toNat, by omega⟩
          have b1 : decide ((o' : Int) < 1) = false := by simp; omega
          have b2 : decide (n' < o') = false := by simp; omega
          cases h4 : (decide (p.length ≤ 64) && wide p) with
          | false =>
            have HF := hideT (consB_path o' n' p was root h4)
            rw [h4] at HD
            clear h4 hs hV hn h0 h1
            generalize p.length = m at hp hcap HD ⊢
            go_enter Tryd.func47, Tryd.ntmps47
            go_wp2_with fail
            refine HD.out.mono ?_
            rintro e w1 ⟨rfl, hw⟩
            subst w1
            go_wp2_with fail
            go_ret
            exact ⟨ret_bool HF.out.symm, Below.refl _ _⟩
          | true =>
            have HF := hideT (consB_in o' n' p was root (by omega) (by omega) h2 h3 h4)
            have HM : Hid (Calls Tryd.prog 92 #[.int .i64 o', .int .i64 n', .slice a p.length cap, .string was, .string root] w fun e w' => e = .returned (.bool (consV o' n' p was root)) ∧ Below w.heap.size w w') := by
              unfold Hid consV
              by_cases he : o' = n'
              · subst he
                rw [if_pos rfl]
                exact makes_same o' p.length was root a cap w hp
              · rw [if_neg he]
                rw [Bool.and_eq_true] at h4
                exact makes_any o' n' p was root a cap B w (by omega) (by omega) (by omega) hp hcap h2 ((wide_yes p).1 h4.2) hs hB hV
            rw [h4] at HD
            clear h4 hs hV hn h0 h1
            generalize p.length = m at hp hcap HD HM ⊢
            go_enter Tryd.func47, Tryd.ntmps47
            go_wp2_with fail
            refine HD.out.mono ?_
            rintro e w1 ⟨rfl, hw⟩
            subst w1
            go_wp2_with fail
            refine HM.out.mono ?_
            rintro e w2 ⟨rfl, hb2⟩
            go_wp2_with fail
            go_ret
            exact ⟨ret_bool HF.out.symm, hb2⟩
        · have HF := hideT (consB_root old n p was root h3)
          have g1 : ¬ n < old := h1
          clear hs hV
          generalize p.length = m at hp hcap ⊢
          go_enter Tryd.func47, Tryd.ntmps47
          go_wp2_with fail
          go_ret
          exact ⟨ret_bool HF.out.symm, Below.refl _ _⟩
      · have HF := hideT (consB_was old n p was root h2)
        clear hs hV
        generalize p.length = m at hp hcap ⊢
        go_enter Tryd.func47, Tryd.ntmps47
        go_wp2_with fail
        go_ret
        exact ⟨ret_bool HF.out.symm, Below.refl _ _⟩

set_option maxHeartbeats 1000000 in
theorem power_spec (old : Nat) (w : World) (h1 : 1 ≤ old) (hn : old < 9223372036854775808) :
    Calls Tryd.prog 93 #[.int .i64 old] w fun e w' => e = .returned (.bool (decide (od old = 1))) ∧ w' = w := by
  go_enter Tryd.func93, Tryd.ntmps93
  go_wp2_with fail
  go_loopw [0] (fun nv wr => ∃ y : Nat, nv = .int .i64 y ∧ 1 ≤ y ∧ y ≤ old ∧ od y = od old ∧ wr = w) (fun nv _ => (intOf nv).toNat)
  case atStart => exact ⟨old, rfl, h1, Nat.le_refl _, rfl, rfl⟩
  case round =>
    obtain ⟨y, rfl, hy1, hy2, hod, hw⟩ := hrel
    subst hw
    have HO := hideT hod
    clear hod
    by_cases he : y % 2 = 0
    · have g1 : (y : Int) % 2 = 0 := by omega
      go_wp2_with fail
      go_roundw
      case rel => exact ⟨y / 2, by go_num, by omega, by omega, by rw [← HO.out]; exact (od_even y he hy1).symm, trivial⟩
      case measure => simp [intOf]; omega
    · have g1 : (y : Int) % 2 = 1 := by omega
      have HE : Hid (decide (od old = 1) = decide (y = 1)) := by
        unfold Hid
        rw [← HO.out, od_odd y (by omega)]
      have HI : Hid (((y : Int) == 1) = decide (y = 1)) := by
        unfold Hid
        by_cases h : y = 1
        · subst h; rfl
        · rw [decide_eq_false h]
          simp
          omega
      go_wp2_with fail
      go_ret
      exact ⟨ret_bool (by rw [HE.out]; first | exact HI.out | rfl | (simp; done)), rfl⟩
end Go.Proofs.YteiicafjjcnioaaDoor.Tr
