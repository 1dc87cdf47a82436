/- Texts put together: Digs, InclWalks. -/
import Derived.Test.YtkfipamdfpknpaaDoorWy27
import Derived.Test.YtkfipamdfpknpaaDoorWy23
/- Lists of digests: whether each has 32 bytes, and the last one taken off. -/
namespace Go.Proofs.YtkfipamdfpknpaaDoor.Tr
open Go.RowKit
open Go.Proofs.YtkfipamdfpknpaaDoor.St
open Go.Proofs.YtkfipamdfpknpaaDoor.Sh (nodeV)
def wide (l : List ByteArray) : Bool := l.all (fun s => decide (s.size = 32))
theorem wide_yes (l : List ByteArray) : wide l = true ↔ ∀ j (h : j < l.length), l[j].size = 32 := by
 unfold wide
 simp only [List.all_eq_true, decide_eq_true_eq]
 constructor
 ·intro h j hj
  exact h _ (List.getElem_mem hj)
 ·intro h s hs
  obtain ⟨j, hj, rfl⟩ := List.getElem_of_mem hs
  exact h j hj
theorem wide_bad (l : List ByteArray) (j : Nat) (hj : j < l.length) (h : ¬ l[j].size = 32) : wide l = false := by
 cases e : wide l with
 | false => rfl
 | true => exact absurd ((wide_yes l).1 e j hj) h
set_option maxRecDepth 100000 in
set_option maxHeartbeats 1000000 in
theorem digs_impl (a : Option Addr) (cap : Nat) (l : List ByteArray) (most : Nat) (w : World) (B : Nat) (h : Strs w B a l) (hn : l.length ≤ 1048576) :
    Calls Tryd.prog 44 #[.slice a l.length cap, .int .i64 most] w fun e w' => e = .returned (.bool (decide (l.length ≤ most) && wide l)) ∧ w' = w := by
  have HS := hideT h
  clear h
  obtain ⟨n, hln⟩ : ∃ n, n = l.length := ⟨_, rfl⟩
  have HLN := hideT hln
  rw [← hln] at hn ⊢
  clear hln
  by_cases hbig : most < n
  · have HR : Hid ((decide (n ≤ most) && wide l) = false) := by
      unfold Hid
      rw [decide_eq_false (by omega)]
      rfl
    go_enter Tryd.func44, Tryd.ntmps44
    go_wp2_with fail
    go_ret
    exact ⟨ret_bool HR.out.symm, rfl⟩
  · have HR : Hid ((decide (n ≤ most) && wide l) = wide l) := by
      unfold Hid
      rw [decide_eq_true (by omega)]
      rfl
    go_enter Tryd.func44, Tryd.ntmps44
    go_wp2_with fail
    go_loopw [13] (fun i wr => ∃ k : Nat, i = .int .i64 k ∧ k ≤ n ∧ (∀ j (hj : j < l.length), j < k → l[j].size = 32) ∧ wr = w) (fun i _ => n - (intOf i).toNat)
    case atStart => exact ⟨0, rfl, by omega, fun j hj h0 => by omega, rfl⟩
    case round =>
      obtain ⟨k, rfl, hk, hall, hw⟩ := hrel
      subst hw
      have HA := hideT hall
      clear hall
      by_cases hlt : k < n
      · have hkl : k < l.length := by rw [← HLN.out]; exact hlt
        obtain ⟨b, off, rfl, hb, hc⟩ := HS.out.some (by omega)
        have ci := hc k hkl
        have HBad := hideT (wide_bad l k hkl)
        obtain ⟨s, hs⟩ : ∃ s, s = l[k] := ⟨_, rfl⟩
        have HSE := hideT hs
        rw [← hs] at ci
        clear hc hs
        by_cases h32 : s.size = 32
        · go_wp2_with fail
          go_roundw
          case rel =>
            refine ⟨k + 1, by go_num, by omega, fun j hj h0 => ?_, trivial⟩
            by_cases e : j = k
            · subst e
              rw [← HSE.out]
              exact h32
            · exact HA.out j hj (by omega)
          case measure => simp [intOf]; omega
        · go_wp2_with fail
          go_ret
          exact ⟨ret_bool (by rw [HR.out, HBad.out (by rw [← HSE.out]; exact h32)]), rfl⟩
      · have HY : Hid (wide l = true) := by
          unfold Hid
          exact (wide_yes l).2 (fun j hj => HA.out j hj (by have := HLN.out; omega))
        go_wp2_with fail
        go_ret
        exact ⟨ret_bool (by rw [HR.out, HY.out]), rfl⟩
set_option maxRecDepth 100000 in
set_option maxHeartbeats 1000000 in
theorem wide_spec (a : Option Addr) (cap : Nat) (l : List ByteArray) (w : World) (B : Nat) (h : Strs w B a l) (hn : l.length ≤ 1048576) :
    Calls Tryd.prog 31 #[.slice a l.length cap] w fun e w' => e = .returned (.bool (wide l)) ∧ w' = w := by
  have HS := hideT h
  clear h
  obtain ⟨n, hln⟩ : ∃ n, n = l.length := ⟨_, rfl⟩
  have HLN := hideT hln
  rw [← hln] at hn ⊢
  clear hln
  go_enter Tryd.func31, Tryd.ntmps31
  go_wp2_with fail
  go_loopw [3] (fun i wr => ∃ k : Nat, i = .int .i64 k ∧ k ≤ n ∧ (∀ j (hj : j < l.length), j < k → l[j].size = 32) ∧ wr = w) (fun i _ => n - (intOf i).toNat)
  case atStart => exact ⟨0, rfl, by omega, fun j hj h0 => by omega, rfl⟩
  case round =>
    obtain ⟨k, rfl, hk, hall, hw⟩ := hrel
    subst hw
    have HA := hideT hall
    clear hall
    by_cases hlt : k < n
    · have hkl : k < l.length := by rw [← HLN.out]; exact hlt
      obtain ⟨b, off, rfl, hb, hc⟩ := HS.out.some (by omega)
      have ci := hc k hkl
      have HBad := hideT (wide_bad l k hkl)
      obtain ⟨s, hs⟩ : ∃ s, s = l[k] := ⟨_, rfl⟩
      have HSE := hideT hs
      rw [← hs] at ci
      clear hc hs
      by_cases h32 : s.size = 32
      · go_wp2_with fail
        go_roundw
        case rel =>
          refine ⟨k + 1, by go_num, by omega, fun j hj h0 => ?_, trivial⟩
          by_cases e : j = k
          · subst e
            rw [← HSE.out]
            exact h32
          · exact HA.out j hj (by omega)
        case measure => simp [intOf]; omega
      · go_wp2_with fail
        go_ret
        exact ⟨ret_bool (by rw [HBad.out (by rw [← HSE.out]; exact h32)]), rfl⟩
    · have HY : Hid (wide l = true) := by
        unfold Hid
        exact (wide_yes l).2 (fun j hj => HA.out j hj (by have := HLN.out; omega))
      go_wp2_with fail
      go_ret
      exact ⟨ret_bool (by rw [HY.out]), rfl⟩
set_option maxRecDepth 100000 in
set_option maxHeartbeats 1000000 in
theorem cutLast_any (b off m cap : Nat) (s : ByteArray) (w : World) (hm : 1 ≤ m) (hm2 : m ≤ 1048576) (hc : m ≤ cap) (ci : w.cell? ⟨b, off + (m - 1), none⟩ = some (.string s)) :
  Calls Tryd.prog 50 #[.slice (some ⟨b, off, none⟩) m cap] w fun e w' => e = .returned (.tuple #[.slice (some ⟨b, off, none⟩) (m - 1) (m - 1), .string s]) ∧ Below w.heap.size w w' := by
 obtain ⟨k, rfl⟩ : ∃ k, m = k + 1 := ⟨m - 1, by omega⟩
 rw [show k + 1 - 1 = k by omega] at ci ⊢
 have g0 : ((k + 1 : Nat) : Int) - 1 = k := by omega
 have g1 : (k : Int) ≤ cap := by omega
 have g2 : (k : Int) < ((k + 1 : Nat) : Int) := by omega
 have g3 : ¬ cap = k := by omega
 go_enter Tryd.func50, Tryd.ntmps50
 go_wp2_with fail
 go_region
 all_goals (try go_wp2_with fail)
 all_goals go_ret2
 all_goals exact ⟨rfl, (Below.refl _ _).drew⟩
def incl (n i : Nat) (p : List ByteArray) (h : ByteArray) : Option ByteArray := climbS i (n - 1) p h
theorem incl_one (p : List ByteArray) (h : ByteArray) : incl 1 0 p h = if p = [] then some h else none := by
 unfold incl
 cases p with
 | nil => rw [climbS_nil, if_pos rfl, if_pos rfl]
 | cons x xs => rw [climbS_zero _ _ _ (by simp), if_neg (by simp)]
theorem incl_none (n i : Nat) (h : ByteArray) (hn : 2 ≤ n) : incl n i [] h = none := by
 unfold incl
 rw [climbS_nil, if_neg (by omega)]
theorem incl_left (n i : Nat) (q : List ByteArray) (s h : ByteArray) (hn : 2 ≤ n) (hi : i < half n) : incl n i (q ++ [s]) h = (incl (half n) i q h).map (fun x => nodeV x s) := by
 have k3 := half_two n hn
 have k2 := half_lt n hn
 have hk : half n = 2 ^ Nat.log2 (n - 1) := rfl
 have e4 : 2 ^ (Nat.log2 (n - 1) + 1) = 2 * half n := by rw [Nat.pow_succ, hk]; omega
 exact climb_left q (Nat.log2 (n - 1)) i (n - 1) s h (by rw [← hk]; exact hi) (by rw [← hk]; omega) (by rw [e4]; omega)
theorem incl_right (n i : Nat) (q : List ByteArray) (s h : ByteArray) (hn : 2 ≤ n) (hi : ¬ i < half n) (hin : i < n) : incl n i (q ++ [s]) h = (incl (n - half n) (i - half n) q h).map (fun x => nodeV s x) := by
 have k3 := half_two n hn
 have k2 := half_lt n hn
 have hk : half n = 2 ^ Nat.log2 (n - 1) := rfl
 have e4 : 2 ^ (Nat.log2 (n - 1) + 1) = 2 * half n := by rw [Nat.pow_succ, hk]; omega
 have := climb_right q (Nat.log2 (n - 1)) i (n - 1) s h (by rw [← hk]; omega) (by omega) (by rw [e4]; omega)
 unfold incl
 rw [this, ← hk, show n - 1 - half n = n - half n - 1 by omega]
end Go.Proofs.YtkfipamdfpknpaaDoor.Tr


/- The walks of impl.climbFrom and impl.Included. -/
namespace Go.Proofs.YtkfipamdfpknpaaDoor.Tr
open Go.RowKit
open Go.Proofs.YtkfipamdfpknpaaDoor.St
open Go.Proofs.YtkfipamdfpknpaaDoor.Sh (Vars nodeV)
theorem take_last (p : List ByteArray) (m : Nat) (h : 1 ≤ m) (hm : m ≤ p.length) : p.take m = p.take (m - 1) ++ [p[m - 1]] := by
 have := List.take_append_getElem (l := p) (i := m - 1) (by omega)
 rw [this, show m - 1 + 1 = m by omega]
set_option maxRecDepth 100000 in
set_option maxHeartbeats 4000000 in
theorem climbFrom_any (n0 i0 : Nat) (p : List ByteArray) (a : Option Addr) (cap B : Nat) (w : World) (hin : i0 < n0) (hn : n0 < 9223372036854775808) (hp : p.length ≤ 1048576) (hcap : p.length ≤ cap) (hw : ∀ j (h : j < p.length), p[j].size = 32) (hs : Strs w B a p) (hB : B ≤ w.heap.size) :
    Calls Tryd.prog 45 #[.int .i64 i0, .int .i64 n0, .slice a p.length cap] w fun e w' => Below w.heap.size w w' ∧ ((∃ f φ, e = .returned (.tuple #[f, .bool true]) ∧ Climbs w' f φ ∧ ∀ h, incl n0 i0 p h = some (φ h)) ∨ (∃ f, e = .returned (.tuple #[f, .bool false]) ∧ ∀ h, incl n0 i0 p h = none)) := by
  have HS := hideT hs
  have HW := hideT hw
  clear hs hw
  obtain ⟨m0, hm0⟩ : ∃ m0, m0 = p.length := ⟨_, rfl⟩
  have HM := hideT hm0
  rw [← hm0] at hp hcap ⊢
  clear hm0
  go_enter Tryd.func45, Tryd.ntmps45
  go_wp2_with fail
  go_loopw [0, 1, 2, 8] (fun iv nv pv uv wr => ∃ (i n m c : Nat) (φ : ByteArray → ByteArray), iv = .int .i64 i ∧ nv = .int .i64 n ∧ pv = .slice a m c ∧ i < n ∧ n ≤ n0 ∧ m ≤ m0 ∧ m ≤ c ∧ Climbs wr uv φ ∧ (∀ h, incl n0 i0 p h = (incl n i (p.take m) h).map φ) ∧ Below w.heap.size w wr) (fun _ nv _ _ _ => (intOf nv).toNat)
  case atStart =>
    refine ⟨i0, n0, m0, cap, fun x => x, rfl, rfl, rfl, hin, Nat.le_refl _, Nat.le_refl _, hcap, stay_any w, fun h => ?_, Below.refl _ _⟩
    rw [HM.out, List.take_length, Option.map_id']
  case round =>
    obtain ⟨i, n, m, c, φ, rfl, rfl, rfl, hi, hn0, hm, hmc, hcl, hinc, hbel⟩ := hrel
    have HB := hideT hbel
    have HCL := hideT hcl
    have HI := hideT hinc
    clear hbel hcl hinc
    by_cases h1 : n ≤ 1
    · obtain rfl : n = 1 := by omega
      obtain rfl : i = 0 := by omega
      by_cases hm0 : m = 0
      · subst hm0
        have HE : Hid (∀ h, incl n0 i0 p h = some (φ h)) := fun h => by
          rw [HI.out h, incl_one]
          rfl
        go_wp2_with fail
        go_ret2
        exact ⟨HB.out, .inl ⟨_, φ, rfl, HCL.out, HE.out⟩⟩
      · have HE : Hid (∀ h, incl n0 i0 p h = none) := fun h => by
          rw [HI.out h, incl_one, if_neg (by
            intro he
            have h2 := congrArg List.length he
            rw [List.length_take, List.length_nil] at h2
            have h3 := HM.out
            omega)]
          rfl
        have g0 : ((m : Int) == 0) = false := by simp; omega
        go_wp2_with fail
        go_ret2
        exact ⟨HB.out, .inr ⟨_, rfl, HE.out⟩⟩
    · have g1 : 1 < (n : Int) := by omega
      by_cases hm0 : m = 0
      · subst hm0
        have HE : Hid (∀ h, incl n0 i0 p h = none) := fun h => by
          rw [HI.out h, List.take_zero, incl_none n i h (by omega)]
          rfl
        go_wp2_with fail
        go_ret2
        exact ⟨HB.out, .inr ⟨_, rfl, HE.out⟩⟩
      · have g0 : ¬ (m : Int) = 0 := by omega
        have hml : m - 1 < p.length := by have := HM.out; omega
        obtain ⟨b, off, rfl, hb, hc⟩ := (HS.out.after HB.out hB).some (by omega)
        have ci := hc (m - 1) hml
        have HSZ := hideT (HW.out (m - 1) hml)
        have HTL := hideT (take_last p m (by omega) (by have := HM.out; omega))
        have HIL := hideT (fun (s h : ByteArray) (hik : i < half n) => incl_left n i (p.take (m - 1)) s h (by omega) hik)
        have HIR := hideT (fun (s h : ByteArray) (hik : ¬ i < half n) => incl_right n i (p.take (m - 1)) s h (by omega) hik hi)
        obtain ⟨s, hse⟩ : ∃ s, s = p[m - 1] := ⟨_, rfl⟩
        rw [← hse] at ci HSZ HTL
        clear hc hse
        have hp2 := half_pos n
        have hl2 := half_lt n (by omega)
        go_wp2_with fail
        refine (cutLast_any b off m c s wr (by omega) (by omega) hmc ci).mono ?_
        rintro e w1 ⟨rfl, hb1⟩
        have HB1 := hideT (HB.out.trans (hb1.mono HB.out.size))
        have HCL1 := hideT (HCL.out.later hb1)
        clear hb1 ci
        go_wp2_with fail
        refine (half_impl n w1 (by omega) (by omega)).mono ?_
        rintro e w2 ⟨rfl, hw2⟩
        subst w2
        obtain ⟨k, hk⟩ : ∃ k, k = half n := ⟨_, rfl⟩
        rw [← hk] at hp2 hl2 HIL HIR ⊢
        clear hk
        by_cases hik : i < k
        · go_wp2_with fail
          refine (joinRight_any s _ φ w1 HSZ.out HCL1.out).mono ?_
          rintro e w3 ⟨g, rfl, hg3, hb3⟩
          have HB3 := hideT (HB1.out.trans (hb3.mono HB1.out.size))
          have HG := hideT hg3
          clear hb3 hg3
          go_wp2_with fail
          go_roundw
          case rel =>
            refine ⟨i, k, m - 1, m - 1, _, rfl, rfl, rfl, hik, by omega, by omega, Nat.le_refl _, HG.out, fun h => ?_, HB3.out⟩
            rw [HI.out h, HTL.out, HIL.out s h hik, Option.map_map]
            rfl
          case measure => simp [intOf]; omega
        · go_wp2_with fail
          refine (joinLeft_any s _ φ w1 HSZ.out HCL1.out).mono ?_
          rintro e w3 ⟨g, rfl, hg3, hb3⟩
          have HB3 := hideT (HB1.out.trans (hb3.mono HB1.out.size))
          have HG := hideT hg3
          clear hb3 hg3
          go_wp2_with fail
          go_roundw
          case rel =>
            refine ⟨i - k, n - k, m - 1, m - 1, _, by go_num, by go_num, rfl, by omega, by omega, by omega, Nat.le_refl _, HG.out, fun h => ?_, HB3.out⟩
            rw [HI.out h, HTL.out, HIR.out s h hik, Option.map_map]
            rfl
          case measure => simp [intOf]; omega
def inclB (leaf : ByteArray) (i n : Int) (p : List ByteArray) (root : ByteArray) : Bool :=
 decide (leaf.size = 32) && decide (root.size = 32) && (decide (p.length ≤ 63) && wide p) && decide (0 ≤ i) && decide (i < n) && decide (incl n.toNat i.toNat p leaf = some root)
end Go.Proofs.YtkfipamdfpknpaaDoor.Tr

