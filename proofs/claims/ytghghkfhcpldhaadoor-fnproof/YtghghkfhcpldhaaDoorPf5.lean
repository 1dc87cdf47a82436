/- Texts put together: InclSpec, ConsSpec, ConsTop2. -/
import Derived.Test.YtghghkfhcpldhaaDoorPf3
import Derived.Test.YtghghkfhcpldhaaDoorPf4
import Derived.Test.YtghghkfhcpldhaaDoorStrOwn
import Derived.Test.YtghghkfhcpldhaaDoorShaAppend
/- The walk of spec.Included. -/
namespace Go.Proofs.YtghghkfhcpldhaaDoor.Tr
open Go.RowKit
open Go.Proofs.YtghghkfhcpldhaaDoor.St
open Go.Proofs.YtghghkfhcpldhaaDoor.Sh (nodeV nodeV_size l03Node_any)

theorem od_pos (a : Nat) (h : 0 < a) : od a % 2 = 1 ∧ 0 < od a ∧ od a ≤ a := by
  induction a using Nat.strongRecOn with
  | ind a ih =>
    by_cases he : a % 2 = 0
    · rw [od_even a he h]
      have := ih (a / 2) (by omega) (by omega)
      omega
    · rw [od_odd a (by omega)]
      omega

set_option maxRecDepth 100000 in
set_option maxHeartbeats 8000000 in
/-- the loop, its conditions met -/
theorem incl_at (leaf root : ByteArray) (i0 n0 : Nat) (p : List ByteArray) (b off cap B : Nat) (w : World) (hn : n0 < 9223372036854775808) (hin : i0 < n0) (hp : p.length ≤ 63) (hl : leaf.size = 32) (hr : root.size = 32) (hw : wide p = true) (hb : b < B) (hc0 : ∀ j (h : j < p.length), w.cell? ⟨b, off + j, none⟩ = some (.string p[j])) (hB : B ≤ w.heap.size) :
    Calls Tryd.prog 25 #[.string leaf, .int .i64 i0, .int .i64 n0, .slice (some ⟨b, off, none⟩) p.length cap, .string root] w fun e w' => e = .returned (.bool (decide (incl n0 i0 p leaf = some root))) ∧ Below w.heap.size w w' := by
  have hs : Strs w B (some ⟨b, off, none⟩) p := .inr ⟨b, off, rfl, hb, hc0⟩
  have HWd := hideT (wide_spec _ cap p w B hs (by omega))
  rw [hw] at HWd
  have HC := hideT hc0
  have HW := hideT ((wide_yes p).1 hw)
  clear hs hw hc0
  obtain ⟨m, hm⟩ : ∃ m, m = p.length := ⟨_, rfl⟩
  have HM := hideT hm
  rw [← hm] at hp HWd ⊢
  clear hm
  have g1 : ¬ (n0 : Int) ≤ i0 := by omega
  have g2 : ¬ n0 ≤ i0 := by omega
  have b1 : decide ((63 : Int) < (m : Int)) = false := by simp; omega
  have b2 : decide ((i0 : Int) < 0) = false := by simp
  have b3 : decide (n0 ≤ i0) = false := by simp; omega
  have hn' : n0 < 9223372036854775808 := hn
  go_enter Tryd.func25, Tryd.ntmps25
  go_wp2_with fail
  refine HWd.out.mono ?_
  rintro e w1 ⟨rfl, hw1⟩
  subst w1
  go_wp2_with fail
  go_loopw [14, 11, 12, 13] (fun kv av lv hv wr => ∃ (k x y : Nat) (h : ByteArray), kv = .int .i64 k ∧ av = .int .i64 x ∧ lv = .int .i64 y ∧ hv = .string h ∧ k ≤ m ∧ x ≤ y ∧ y < n0 ∧ h.size = 32 ∧ incl n0 i0 p leaf = climbS x y (p.drop k) h ∧ Below w.heap.size w wr) (fun kv _ _ _ _ => m - (intOf kv).toNat)
  case atStart =>
    exact ⟨0, i0, n0 - 1, leaf, rfl, rfl, by go_num, rfl, by omega, by omega, by omega, hl, rfl, Below.refl _ _⟩
  case round =>
    obtain ⟨k, x, y, h, rfl, rfl, rfl, rfl, hk, hxy, hy, hh, hinc, hbel⟩ := hrel
    have HB := hideT hbel
    have HI := hideT hinc
    clear hbel hinc
    by_cases hlt : k < m
    · have hkl : k < p.length := by rw [← HM.out]; exact hlt
      have ci := (HB.out.cell (p := ⟨b, off + k, none⟩) (by simp; omega)).trans (HC.out k hkl)
      have HSZ := hideT (HW.out k hkl)
      have HD := hideT (List.drop_eq_getElem_cons hkl)
      obtain ⟨s, hse⟩ : ∃ s, s = p[k] := ⟨_, rfl⟩
      rw [← hse] at ci HSZ HD
      clear hse
      have hs32 := HSZ.out
      by_cases hy0 : y = 0
      · subst hy0
        have HE : Hid (decide (incl n0 i0 p leaf = some root) = false) := by
          unfold Hid
          rw [HI.out, HD.out, climbS_zero _ _ _ (by simp)]
          rfl
        go_wp2_with fail
        go_ret
        exact ⟨ret_bool HE.out.symm, HB.out⟩
      · have gy : ¬ (y : Int) = 0 := by omega
        by_cases hodd : x % 2 = 1
        · have go1 : (x : Int) % 2 = 1 := by omega
          have HE := hideT (climbS_odd x y s (p.drop (k + 1)) h hy0 hodd)
          go_wp2_with fail
          refine (l03Node_any s h wr (by omega) (by omega)).mono ?_
          rintro e w2 ⟨rfl, hb2⟩
          have HB2 := hideT (HB.out.trans (hb2.mono HB.out.size))
          clear hb2 ci
          go_wp2_with fail
          go_loopw [11, 12] (fun av lv wi => av = .int .i64 x ∧ lv = .int .i64 y ∧ wi = w2) (fun _ _ _ => 0)
          case atStart => exact ⟨rfl, rfl, rfl⟩
          case round =>
            obtain ⟨rfl, rfl, hwi⟩ := hrel
            subst hwi
            go_wp2_with fail
            go_roundw
            case rel =>
              refine ⟨k + 1, x / 2, y / 2, nodeV s h, by go_num, by go_num, by go_num, rfl, by omega, by omega, by omega, nodeV_size _ _, ?_, HB2.out⟩
              rw [HI.out, HD.out, HE.out]
            case measure => simp [intOf]; omega
        · have go1 : (x : Int) % 2 = 0 := by omega
          by_cases hxy2 : x = y
          · have gxy : (x : Int) = y := by omega
            have HE : Hid (climbS x y (s :: p.drop (k + 1)) h = climbS (od x / 2) (od x / 2) (p.drop (k + 1)) (nodeV s h)) := by
              unfold Hid
              rw [← hxy2]
              exact climbS_end x s (p.drop (k + 1)) h (by omega) (by omega)
            have HXY := hideT hxy2
            have HO := hideT (od_pos x (by omega))
            go_wp2_with fail
            refine (l03Node_any s h wr (by omega) (by omega)).mono ?_
            rintro e w2 ⟨rfl, hb2⟩
            have HB2 := hideT (HB.out.trans (hb2.mono HB.out.size))
            clear hb2 ci
            go_wp2_with fail
            go_loopw [11, 12] (fun av lv wi => ∃ z : Nat, av = .int .i64 z ∧ lv = .int .i64 z ∧ 0 < z ∧ z ≤ x ∧ od z = od x ∧ wi = w2) (fun av _ _ => (intOf av).toNat)
            case atStart => exact ⟨x, by rw [HXY.out], by rw [HXY.out], by omega, Nat.le_refl _, rfl, rfl⟩
            case round =>
              obtain ⟨z, rfl, rfl, hz0, hzx, hod, hwi⟩ := hrel
              subst hwi
              have HOD := hideT hod
              clear hod
              have gz : 0 < (z : Int) := by omega
              by_cases hze : z % 2 = 0
              · have gz2 : (z : Int) % 2 = 0 := by omega
                go_wp2_with fail
                go_roundw
                case rel => exact ⟨z / 2, by go_num, by go_num, by omega, by omega, by rw [← od_even z hze hz0]; exact HOD.out, trivial⟩
                case measure => simp [intOf]; omega
              · have gz2 : (z : Int) % 2 = 1 := by omega
                have HZ : Hid (od x = z) := by
                  unfold Hid
                  rw [← HOD.out]
                  exact od_odd z (by omega)
                go_wp2_with fail
                go_roundw
                case rel =>
                  refine ⟨k + 1, z / 2, z / 2, nodeV s h, by go_num, by go_num, by go_num, rfl, by omega, by omega, by omega, nodeV_size _ _, ?_, HB2.out⟩
                  rw [HI.out, HD.out, HE.out, HZ.out]
                case measure => simp [intOf]; omega
          · have gxy : ¬ (x : Int) = y := by omega
            have HE := hideT (climbS_even x y s (p.drop (k + 1)) h hy0 (by omega) hxy2)
            go_wp2_with fail
            refine (l03Node_any h s wr (by omega) (by omega)).mono ?_
            rintro e w2 ⟨rfl, hb2⟩
            have HB2 := hideT (HB.out.trans (hb2.mono HB.out.size))
            clear hb2 ci
            go_wp2_with fail
            go_roundw
            case rel =>
              refine ⟨k + 1, x / 2, y / 2, nodeV h s, by go_num, by go_num, by go_num, rfl, by omega, by omega, by omega, nodeV_size _ _, ?_, HB2.out⟩
              rw [HI.out, HD.out, HE.out]
            case measure => simp [intOf]; omega
    · have HD : Hid (p.drop k = []) := by
        unfold Hid
        exact List.drop_eq_nil_of_le (by have := HM.out; omega)
      by_cases hy0 : y = 0
      · subst hy0
        have HE : Hid (decide (incl n0 i0 p leaf = some root) = decide (h = root)) := by
          unfold Hid
          rw [HI.out, HD.out, climbS_nil, if_pos rfl]
          simp
        go_wp2_with fail
        go_ret
        exact ⟨ret_bool (by rw [HE.out]; exact str_eq _ _), HB.out⟩
      · have gy : ((y : Int) == 0) = false := by simp; omega
        have HE : Hid (decide (incl n0 i0 p leaf = some root) = false) := by
          unfold Hid
          rw [HI.out, HD.out, climbS_nil, if_neg hy0]
          rfl
        go_wp2_with fail
        go_ret
        exact ⟨ret_bool HE.out.symm, HB.out⟩

set_option maxRecDepth 100000 in
set_option maxHeartbeats 2000000 in
theorem incl_empty (leaf root : ByteArray) (i0 n0 : Nat) (a : Option Addr) (cap : Nat) (w : World) (hn : n0 < 9223372036854775808) (hin : i0 < n0) (hl : leaf.size = 32) (hr : root.size = 32) :
    Calls Tryd.prog 25 #[.string leaf, .int .i64 i0, .int .i64 n0, .slice a 0 cap, .string root] w fun e w' => e = .returned (.bool (decide (incl n0 i0 [] leaf = some root))) ∧ Below w.heap.size w w' := by
  have HWd := hideT (wide_spec a cap [] w 0 (.inl rfl) (by simp))
  have g1 : ¬ (n0 : Int) ≤ i0 := by omega
  rw [show wide [] = true from rfl] at HWd
  go_enter Tryd.func25, Tryd.ntmps25
  go_wp2_with fail
  refine HWd.out.mono ?_
  rintro e w1 ⟨rfl, hw1⟩
  subst w1
  go_wp2_with fail
  go_loopw [14, 11, 12, 13] (fun kv av lv hv wr => kv = .int .i64 0 ∧ av = .int .i64 i0 ∧ lv = .int .i64 ((n0 : Int) - 1) ∧ hv = .string leaf ∧ wr = w) (fun _ _ _ _ _ => 0)
  case atStart => exact ⟨rfl, rfl, rfl, rfl, rfl⟩
  case round =>
    obtain ⟨rfl, rfl, rfl, rfl, hw⟩ := hrel
    subst hw
    by_cases h1 : n0 = 1
    · subst h1
      obtain rfl : i0 = 0 := by omega
      have HE : Hid (decide (incl 1 0 [] leaf = some root) = decide (leaf = root)) := by
        unfold Hid
        rw [incl_one, if_pos rfl]
        simp
      go_wp2_with fail
      go_ret
      exact ⟨ret_bool (by rw [HE.out]; exact str_eq _ _), Below.refl _ _⟩
    · have HE : Hid (decide (incl n0 i0 [] leaf = some root) = false) := by
        unfold Hid
        rw [incl_none n0 i0 leaf (by omega)]
        rfl
      have gy : ((n0 : Int) - 1 == 0) = false := by simp; omega
      go_wp2_with fail
      go_ret
      exact ⟨ret_bool HE.out.symm, Below.refl _ _⟩

theorem incl_in (leaf root : ByteArray) (i0 n0 : Nat) (p : List ByteArray) (a : Option Addr) (cap B : Nat) (w : World) (hn : n0 < 9223372036854775808) (hin : i0 < n0) (hp : p.length ≤ 63) (hl : leaf.size = 32) (hr : root.size = 32) (hw : wide p = true) (hs : Strs w B a p) (hB : B ≤ w.heap.size) :
    Calls Tryd.prog 25 #[.string leaf, .int .i64 i0, .int .i64 n0, .slice a p.length cap, .string root] w fun e w' => e = .returned (.bool (decide (incl n0 i0 p leaf = some root))) ∧ Below w.heap.size w w' := by
  rcases hs with rfl | ⟨b, off, rfl, hb, hc⟩
  · exact incl_empty leaf root i0 n0 a cap w hn hin hl hr
  · exact incl_at leaf root i0 n0 p b off cap B w hn hin hp hl hr hw hb hc hB

set_option maxRecDepth 100000 in
set_option maxHeartbeats 4000000 in
theorem incl_spec (leaf root : ByteArray) (i n : Int) (p : List ByteArray) (a : Option Addr) (cap B : Nat) (w : World) (hn : n < 9223372036854775808) (hp : p.length ≤ 1048576) (hs : Strs w B a p) (hB : B ≤ w.heap.size) :
    Calls Tryd.prog 25 #[.string leaf, .int .i64 i, .int .i64 n, .slice a p.length cap, .string root] w fun e w' => e = .returned (.bool (inclB leaf i n p root)) ∧ Below w.heap.size w w' := by
  have HD := hideT (wide_spec a cap p w B hs hp)
  have HIN := hideT (fun (i0 n0 : Nat) h1 h2 h3 h4 h5 h6 => incl_in leaf root i0 n0 p a cap B w h1 h2 h3 h4 h5 h6 hs hB)
  have HPath := hideT (inclB_path leaf i n p root)
  clear hs
  by_cases h63 : 63 < p.length
  · have HF := hideT (HPath.out (by rw [decide_eq_false (by omega)]; rfl))
    generalize p.length = m at hp HD h63 ⊢
    go_enter Tryd.func25, Tryd.ntmps25
    go_wp2_with fail
    go_ret
    exact ⟨ret_bool HF.out.symm, Below.refl _ _⟩
  · cases h3 : wide p with
    | false =>
      have HF := hideT (HPath.out (by rw [h3, Bool.and_false]))
      rw [h3] at HD
      clear h3
      generalize p.length = m at hp HD h63 ⊢
      go_enter Tryd.func25, Tryd.ntmps25
      go_wp2_with fail
      refine HD.out.mono ?_
      rintro e w1 ⟨rfl, hw⟩
      subst w1
      go_wp2_with fail
      go_ret
      exact ⟨ret_bool HF.out.symm, Below.refl _ _⟩
    | true =>
      have HT : Hid ((decide (p.length ≤ 63) && wide p) = true) := by
        unfold Hid
        rw [h3, decide_eq_true (by omega)]
        rfl
      by_cases hl : leaf.size = 32
      · by_cases hr : root.size = 32
        · by_cases hi0 : i < 0
          · have HF := hideT (inclB_low leaf i n p root hi0)
            rw [h3] at HD
            clear h3 HIN
            generalize p.length = m at hp HD h63 ⊢
            go_enter Tryd.func25, Tryd.ntmps25
            go_wp2_with fail
            refine HD.out.mono ?_
            rintro e w1 ⟨rfl, hw⟩
            subst w1
            go_wp2_with fail
            go_ret
            exact ⟨ret_bool HF.out.symm, Below.refl _ _⟩
          · by_cases hin : i < n
            · obtain ⟨i', rfl⟩ : ∃ k : Nat, i = k := ⟨i.toNat, by omega⟩
              obtain ⟨n', rfl⟩ : ∃ k : Nat, n = k := ⟨n.toNat, by omega⟩
              rw [inclB_in leaf i' n' p root hl hr HT.out (by omega)]
              exact HIN.out i' n' (by omega) (by omega) (by omega) hl hr h3
            · have HF := hideT (inclB_high leaf i n p root hin)
              have hin' : n ≤ i := by omega
              rw [h3] at HD
              clear h3 HIN
              generalize p.length = m at hp HD h63 ⊢
              go_enter Tryd.func25, Tryd.ntmps25
              go_wp2_with fail
              refine HD.out.mono ?_
              rintro e w1 ⟨rfl, hw⟩
              subst w1
              go_wp2_with fail
              go_ret
              exact ⟨ret_bool HF.out.symm, Below.refl _ _⟩
        · have HF := hideT (inclB_root leaf i n p root hr)
          rw [h3] at HD
          clear h3 HIN
          generalize p.length = m at hp HD h63 ⊢
          go_enter Tryd.func25, Tryd.ntmps25
          go_wp2_with fail
          refine HD.out.mono ?_
          rintro e w1 ⟨rfl, hw⟩
          subst w1
          go_wp2_with fail
          go_ret
          exact ⟨ret_bool HF.out.symm, Below.refl _ _⟩
      · have HF := hideT (inclB_leaf leaf i n p root hl)
        rw [h3] at HD
        clear h3 HIN
        generalize p.length = m at hp HD h63 ⊢
        go_enter Tryd.func25, Tryd.ntmps25
        go_wp2_with fail
        refine HD.out.mono ?_
        rintro e w1 ⟨rfl, hw⟩
        subst w1
        go_wp2_with fail
        go_ret
        exact ⟨ret_bool HF.out.symm, Below.refl _ _⟩
end Go.Proofs.YtghghkfhcpldhaaDoor.Tr

/- The walk of spec.Consistent, its conditions met. -/
namespace Go.Proofs.YtghghkfhcpldhaaDoor.Tr
open Go.RowKit
open Go.Proofs.YtghghkfhcpldhaaDoor.St
open Go.Proofs.YtghghkfhcpldhaaDoor.Sh (nodeV nodeV_size l03Node_any own_empty)

theorem od_le (old n : Nat) (h1 : 1 ≤ old) (hlt : old < n) : od old - 1 ≤ (n - 1) / 2 ^ ex old := by
  have hpj := pow_pos2 (ex old)
  have hop := od_pos' old h1
  rw [← div_pred (od old) (2 ^ ex old) (by omega) hpj, od_ex old h1]
  exact Nat.div_le_div_right (by omega)
theorem own_first (W : World) (base : Nat) (s : ByteArray) (h : base ≤ W.heap.size) : (W.alloc (.cells #[.string s] 9)).ownsRow base 9 1 (.slice (some ⟨W.heap.size, 0, none⟩) 1 1) 1 [.string s] :=
  ⟨rfl, Or.inr ⟨W.heap.size, 1, #[.string s], rfl, h, heap_alloc_last W _, Nat.le_refl _, by decide, rfl, rfl⟩⟩
theorem own_some {w : World} {base : Nat} {v : Value} {l : List ByteArray} (h : OwnS w base v l) (hv : ¬ v = .slice none 0 0) : ∃ g cap, v = .slice (some ⟨g, 0, none⟩) l.length cap ∧ base ≤ g ∧ IsO w g 9 l := by
  rcases h.split with h | ⟨g, cap, h1, h2, _, h4⟩
  · exact absurd h.1 hv
  · exact ⟨g, cap, h1, h2, h4⟩
theorem map_length (l : List ByteArray) : (l.map Value.string).length = l.length * 1 := by simp
theorem map_cells {w : World} {b off : Nat} {l : List ByteArray} (h : ∀ j (h : j < l.length), w.cell? ⟨b, off + j, none⟩ = some (.string l[j])) : ∀ (j : Nat) (u : Value), (l.map Value.string)[j]? = some u → w.cell? ((⟨b, off, none⟩ : Addr).add j) = some u := by
  intro j u hj
  have e : (⟨b, off, none⟩ : Addr).add j = ⟨b, off + j, none⟩ := by unfold Addr.add; split <;> simp_all
  have hlt : j < l.length := by
    have := (List.getElem?_eq_some_iff.1 hj).1
    simpa using this
  rw [e, h j hlt]
  simp [hlt] at hj
  rw [hj]
theorem map_one (l : List ByteArray) : ∀ u ∈ l.map Value.string, u.oneCell' = true := by
  intro u hu
  simp at hu
  obtain ⟨s, _, rfl⟩ := hu
  rfl

set_option maxRecDepth 100000 in
set_option maxHeartbeats 20000000 in
theorem cons_at (old n : Nat) (p : List ByteArray) (was root : ByteArray) (b off cap B : Nat) (w : World) (h1 : 1 ≤ old) (hlt : old < n) (hn : n < 9223372036854775808) (hp : p.length ≤ 64) (hws : was.size = 32) (hrs : root.size = 32) (hw : wide p = true) (hb : b < B) (hc0 : ∀ j (h : j < p.length), w.cell? ⟨b, off + j, none⟩ = some (.string p[j])) (hB : B ≤ w.heap.size) :
    Calls Tryd.prog 12 #[.int .i64 old, .int .i64 n, .slice (some ⟨b, off, none⟩) p.length cap, .string was, .string root] w fun e w' => e = .returned (.bool (decide (conP true old n p was = some (was, root)))) ∧ Below w.heap.size w w' := by
  obtain ⟨i0, hif, hz0, hz1, hz2⟩ := info_parts Tryd.infoS9
  have hs : Strs w B (some ⟨b, off, none⟩) p := .inr ⟨b, off, rfl, hb, hc0⟩
  have HWd := hideT (wide_spec _ cap p w B hs (by omega))
  rw [hw] at HWd
  have HC := hideT hc0
  have HW := hideT ((wide_yes p).1 hw)
  have HPow := hideT (fun W => power_spec old W h1 (by omega))
  clear hs hw hc0
  obtain ⟨m, hm⟩ : ∃ m, m = p.length := ⟨_, rfl⟩
  have HM := hideT hm
  rw [← hm] at hp HWd ⊢
  clear hm
  obtain ⟨top, htop⟩ : ∃ top, top = conP true old n p was := ⟨_, rfl⟩
  rw [← htop]
  have HTop0 := hideT htop
  clear htop
  have b1 : decide ((64 : Int) < (m : Int)) = false := by simp; omega
  have b2 : decide ((old : Int) < 1) = false := by simp; omega
  have b3 : decide (n < old) = false := by simp; omega
  have b4 : ((old : Int) == n) = false := by simp; omega
  have b5 : ¬ old = n := by omega
  have b8 : ((m : Int) + 1 == 0) = false := by simp; omega
  have HBig : Hid (∀ W : World, Below w.heap.size w W → ∀ j (h : j < p.length), W.cell? ⟨b, off + j, none⟩ = some (.string p[j])) := fun W hW j h => (hW.cell (p := ⟨b, off + j, none⟩) (Nat.lt_of_lt_of_le hb hB)).trans (HC.out j h)
  go_enter Tryd.func12, Tryd.ntmps12
  go_wp2_with fail
  refine HWd.out.mono ?_
  rintro e w1 ⟨rfl, hw1⟩
  subst w1
  go_wp2_with (at_builtin; refine wpList_append_own _ rfl (.tmp 55) (.tmp 56) 23 rfl w.heap.size 9 i0 (.string ⟨#[]⟩) 1 16 Tryd.underlying23 hif hz0 hz1 hz2 rfl (by decide) (.slice (some ⟨w.heap.size, 0, none⟩) 0 0) 0 [] rfl (own_empty w w.heap.size _ (Nat.le_refl _)) ⟨b, off, none⟩ m cap (p.map Value.string) rfl (by rw [map_length, ← HM.out]) (map_cells (HBig.out _ ((Below.refl _ _).alloc (Nat.le_refl _) _))) (map_one p) ?c3 ?c4 ?c5 ?_; (case c3 => unfold maxLen; omega); (case c4 => omega); (case c5 => simp); intro v1 w2 hown2 hgrow2 hnil; have HB2 := hideT (((Below.refl w.heap.size w).alloc (Nat.le_refl _) (.cells #[] 9)).grown hgrow2 (by simp) (by intro k hk; simp [Value.ownBlock] at hk; omega)); have HO2 : Hid (OwnS w2 w.heap.size v1 p) := (by unfold Hid OwnS; rw [← HM.out]; simpa using hown2); have HNil := hideT (show ¬ v1 = .slice none 0 0 from fun h => by have := (hnil.1 h).1; cases this); clear hown2 hgrow2 hnil)
  refine (HPow.out w2).mono ?_
  rintro e w3 ⟨rfl, hw3⟩
  subst w3
  obtain ⟨g1, c1, hv1, hg1, _, hi1⟩ : ∃ g cap, v1 = .slice (some ⟨g, 0, none⟩) p.length cap ∧ w.heap.size ≤ g ∧ p.length ≤ cap ∧ IsO w2 g 9 p := by
    rcases HO2.out.split with h | h
    · exact absurd h.1 HNil.out
    · exact h
  subst hv1
  have HO3 := hideT hi1
  clear hi1 HO2 HNil
  rw [← HM.out]
  by_cases hpow : od old = 1
  · rw [decide_eq_true hpow]
    go_wp2_with (at_builtin; refine wpList_append_own _ rfl (.tmp 61) (.tmp 62) 23 rfl w.heap.size 9 i0 (.string ⟨#[]⟩) 1 16 Tryd.underlying23 hif hz0 hz1 hz2 rfl (by decide) (.slice (some ⟨w2.heap.size, 0, none⟩) 1 1) 1 [.string was] rfl (own_first w2 w.heap.size was HB2.out.size) ⟨g1, 0, none⟩ m c1 (p.map Value.string) rfl (by rw [map_length, ← HM.out]) (map_cells (fun j h => by rw [Nat.zero_add]; exact (HO3.out.below ((Below.refl _ _).alloc (Nat.le_refl _) _) HO3.out.lt).cell h)) (map_one p) ?c3 ?c4 ?c5 ?_; (case c3 => unfold maxLen; omega); (case c4 => omega); (case c5 => have := HB2.out.size; simp; omega); intro v2 w4 hown4 hgrow4 hnil4; have HB4 := hideT ((HB2.out.alloc HB2.out.size (.cells #[.string was] 9)).grown hgrow4 (by have := HB2.out.size; simp; omega) (by intro k hk; simp [Value.ownBlock] at hk; have := HB2.out.size; omega)); have HO4 : Hid (OwnS w4 w.heap.size v2 (was :: p)) := (by unfold Hid OwnS; rw [List.length_cons, ← HM.out, Nat.add_comm]; exact hown4); have HNil4 := hideT (show ¬ v2 = .slice none 0 0 from fun h => by have := (hnil4.1 h).1; cases this); obtain ⟨g, c, hv4, _, hi4⟩ := own_some HO4.out HNil4.out; rw [List.length_cons, ← HM.out] at hv4; subst hv4; have HO := hideT hi4; clear hown4 hgrow4 hnil4 HO4 HNil4 hi4)
    have HO' := HO
    obtain ⟨wz, hwz⟩ : ∃ wz, wz = w4 := ⟨_, rfl⟩
    rw [← hwz] at HO HB4 ⊢
    clear hwz HO'
    have BZ := HB4
    have HLn : Hid ((was :: p).length = m + 1) := by unfold Hid; rw [List.length_cons, ← HM.out]
    have HL0 : Hid (0 < (was :: p).length) := by unfold Hid; simp
    obtain ⟨h0, hh0⟩ : ∃ h0, h0 = was := ⟨_, rfl⟩
    have HH0 : Hid ((was :: p)[0] = h0) := hh0.symm
    have HS0 : Hid (h0.size = 32) := by unfold Hid; rw [hh0]; exact hws
    have HSz : Hid (∀ j (h : j < (was :: p).length), (was :: p)[j].size = 32) := by
      intro j h
      cases j with
      | zero => exact hws
      | succ j => exact HW.out j (by simpa using h)
    have HGL := hideT HO.out.lt
    have HTop : Hid (top = conS (od old - 1) ((n - 1) / 2 ^ ex old) ((was :: p).drop 1) h0 h0) := by
      unfold Hid
      rw [HTop0.out, hh0]
      unfold conP
      rw [if_pos ⟨rfl, hpow⟩]
      rfl
    clear hh0 hpow
    obtain ⟨q, hq⟩ : ∃ q, q = m + 1 := ⟨_, rfl⟩
    have hq0 : 0 < q := by omega
    have hqm : q ≤ 65 := by omega
    have HQI : Hid (((m : Int) + 1) = q) := by unfold Hid; omega
    rw [← hq] at HLn ⊢
    clear hq
    go_wp2_with fail
    go_loopw [12, 13] (fun av lv wr => ∃ (y i : Nat), av = .int .i64 ((y : Int) - 1) ∧ lv = .int .i64 ((n - 1) / 2 ^ i : Nat) ∧ 1 ≤ y ∧ y ≤ old ∧ od y = od old ∧ ex y + i = ex old ∧ wr = wz) (fun av _ _ => (intOf av).toNat)
    case atStart => exact ⟨old, 0, rfl, by rw [Nat.pow_zero, Nat.div_one]; go_num, h1, Nat.le_refl _, rfl, rfl, rfl⟩
    case round =>
      obtain ⟨y, i, rfl, rfl, hy1, hy2, hod, hex, hwr⟩ := hrel
      have HOD := hideT hod
      have HEX := hideT hex
      have HWR := hideT hwr
      clear hod hex hwr
      by_cases hye : y % 2 = 0
      · have g1 : ((y : Int) - 1) % 2 = 1 := by omega
        have hd2 : (((n - 1) / 2 ^ i : Nat) : Int) / 2 = ((n - 1) / 2 ^ (i + 1) : Nat) := by rw [Nat.pow_succ, ← Nat.div_div_eq_div_mul]; omega
        have HD2 := hideT hd2
        have hzn : (n - 1) / 2 ^ i < n := Nat.lt_of_le_of_lt (Nat.div_le_self _ _) (by omega)
        clear hd2
        generalize (n - 1) / 2 ^ i = z at HD2 hzn ⊢
        go_wp2_with fail
        go_roundw
        case rel =>
          refine ⟨y / 2, i + 1, by go_num, by rw [← HD2.out], by omega, by omega, ?_, ?_, HWR.out⟩
          · rw [← HOD.out, od_even y hye hy1]
          · rw [← HEX.out, ex_even y hye hy1]; omega
        case measure => simp [intOf]; omega
      · have g1 : ((y : Int) - 1) % 2 = 0 := by omega
        have HY : Hid (y = od old ∧ i = ex old) := by
          have e1 := HOD.out
          have e2 := HEX.out
          rw [od_odd y (by omega)] at e1
          rw [ex_odd y (by omega)] at e2
          exact ⟨e1, by omega⟩
        have c0 := HO.out.cell (j := 0) HL0.out
        rw [← HWR.out] at c0
        have c0' : wr.cell? ⟨g, 0, none⟩ = some (.string h0) := c0.trans (congrArg (fun z => some (Value.string z)) HH0.out)
        clear c0
        have hyz : ((y : Int) - 1) = ((y - 1 : Nat) : Int) := by omega
        have gx : ((y - 1 : Nat) : Int) % 2 = 0 := by omega
        have HIz := hideT HTop.out
        rw [← HY.out.1, ← HY.out.2] at HIz
        have hle0 : y - 1 ≤ (n - 1) / 2 ^ i := by
          rw [HY.out.1, HY.out.2]
          exact od_le old n h1 hlt
        have hz0 : (n - 1) / 2 ^ i < n := Nat.lt_of_le_of_lt (Nat.div_le_self _ _) (by omega)
        rw [hyz]
        generalize (n - 1) / 2 ^ i = z at HIz hle0 hz0 ⊢
        clear g1 hyz
        generalize y - 1 = x at HIz hle0 gx ⊢
        go_wp2_with fail
        clear gx
        go_loopw [16, 12, 13, 14, 15] (fun kv av lv hv gv wr => ∃ (k x y : Nat) (h' g' : ByteArray), kv = .int .i64 k ∧ av = .int .i64 x ∧ lv = .int .i64 y ∧ hv = .string h' ∧ gv = .string g' ∧ 1 ≤ k ∧ k ≤ q ∧ x ≤ y ∧ y < n ∧ h'.size = 32 ∧ g'.size = 32 ∧ top = conS x y ((was :: p).drop k) h' g' ∧ Below wz.heap.size wz wr) (fun kv _ _ _ _ _ => q - (intOf kv).toNat)
        case atStart =>
          refine ⟨1, x, z, h0, h0, rfl, rfl, rfl, rfl, rfl, Nat.le_refl _, by omega, hle0, hz0, HS0.out, HS0.out, HIz.out, ?_⟩
          have := HWR.out
          subst this
          exact Below.refl _ _
        case round =>
          obtain ⟨k, x, y, h', g', rfl, rfl, rfl, rfl, rfl, hk1, hk, hxy, hy, hh, hg, hinc, hbel⟩ := hrel
          have HB := hideT hbel
          have HI := hideT hinc
          clear hbel hinc
          by_cases hlt2 : k < q
          · have hkl : k < (was :: p).length := by rw [HLn.out]; exact hlt2
            have ci := (HO.out.below HB.out HGL.out).cell hkl
            have HD := hideT (List.drop_eq_getElem_cons hkl)
            have hs32 := HSz.out k hkl
            obtain ⟨s, hse⟩ : ∃ s, s = (was :: p)[k] := ⟨_, rfl⟩
            rw [← hse] at ci hs32 HD
            clear hse
            by_cases hy0 : y = 0
            · have HE : Hid (decide (top = some (was, root)) = false) := by
                unfold Hid
                rw [HI.out, HD.out, hy0, conS_zero _ _ _ _ (by simp)]
                rfl
              have gy : ((y : Int) == 0) = true := by simp; omega
              go_wp2_with fail
              go_ret
              exact ⟨ret_bool HE.out.symm, below2 BZ.out HB.out⟩
            · have gy : ¬ (y : Int) = 0 := by omega
              by_cases hodd : x % 2 = 1
              · have go1 : (x : Int) % 2 = 1 := by omega
                have HE := hideT (conS_odd x y s ((was :: p).drop (k + 1)) h' g' hy0 hodd)
                go_wp2_with fail
                refine (l03Node_any s h' wr (by omega) (by omega)).mono ?_
                rintro e w2 ⟨rfl, hb2⟩
                have HB2 := hideT (HB.out.trans (hb2.mono HB.out.size))
                have ci2 := (hb2.cell (p := ⟨g, k, none⟩) (Nat.lt_of_lt_of_le HGL.out HB.out.size)).trans ci
                clear hb2 ci
                go_wp2_with fail
                refine (l03Node_any s g' w2 (by omega) (by omega)).mono ?_
                rintro e w3 ⟨rfl, hb3⟩
                have HB3 := hideT (HB2.out.trans (hb3.mono HB2.out.size))
                clear hb3 ci2
                go_wp2_with fail
                go_loopw [12, 13] (fun av lv wi => av = .int .i64 x ∧ lv = .int .i64 y ∧ wi = w3) (fun _ _ _ => 0)
                case atStart => exact ⟨rfl, rfl, rfl⟩
                case round =>
                  obtain ⟨rfl, rfl, hwi⟩ := hrel
                  subst hwi
                  go_wp2_with fail
                  go_roundw
                  case rel =>
                    refine ⟨k + 1, x / 2, y / 2, nodeV s h', nodeV s g', by go_num, by go_num, by go_num, rfl, rfl, by omega, by omega, by omega, by omega, nodeV_size _ _, nodeV_size _ _, ?_, HB3.out⟩
                    rw [HI.out, HD.out, HE.out]
                  case measure => simp [intOf]; omega
              · have go1 : (x : Int) % 2 = 0 := by omega
                by_cases hxy2 : x = y
                · have gxy : (x : Int) = y := by omega
                  have HE : Hid (conS x y (s :: (was :: p).drop (k + 1)) h' g' = conS (od x / 2) (od x / 2) ((was :: p).drop (k + 1)) (nodeV s h') (nodeV s g')) := by
                    unfold Hid
                    rw [← hxy2]
                    exact conS_end x s ((was :: p).drop (k + 1)) h' g' (by omega) (by omega)
                  have HXY := hideT hxy2
                  have HOx := hideT (od_pos x (by omega))
                  go_wp2_with fail
                  refine (l03Node_any s h' wr (by omega) (by omega)).mono ?_
                  rintro e w2 ⟨rfl, hb2⟩
                  have HB2 := hideT (HB.out.trans (hb2.mono HB.out.size))
                  have ci2 := (hb2.cell (p := ⟨g, k, none⟩) (Nat.lt_of_lt_of_le HGL.out HB.out.size)).trans ci
                  clear hb2 ci
                  go_wp2_with fail
                  refine (l03Node_any s g' w2 (by omega) (by omega)).mono ?_
                  rintro e w3 ⟨rfl, hb3⟩
                  have HB3 := hideT (HB2.out.trans (hb3.mono HB2.out.size))
                  clear hb3 ci2
                  go_wp2_with fail
                  go_loopw [12, 13] (fun av lv wi => ∃ z : Nat, av = .int .i64 z ∧ lv = .int .i64 z ∧ 0 < z ∧ z ≤ x ∧ od z = od x ∧ wi = w3) (fun av _ _ => (intOf av).toNat)
                  case atStart => exact ⟨x, by rw [HXY.out], by rw [HXY.out], by omega, Nat.le_refl _, rfl, rfl⟩
                  case round =>
                    obtain ⟨z, rfl, rfl, hz0, hzx, hod, hwi⟩ := hrel
                    subst hwi
                    have HODz := hideT hod
                    clear hod
                    have gz : 0 < (z : Int) := by omega
                    by_cases hze : z % 2 = 0
                    · have gz2 : (z : Int) % 2 = 0 := by omega
                      go_wp2_with fail
                      go_roundw
                      case rel => exact ⟨z / 2, by go_num, by go_num, by omega, by omega, by rw [← od_even z hze hz0]; exact HODz.out, trivial⟩
                      case measure => simp [intOf]; omega
                    · have gz2 : (z : Int) % 2 = 1 := by omega
                      have HZ : Hid (od x = z) := by
                        unfold Hid
                        rw [← HODz.out]
                        exact od_odd z (by omega)
                      go_wp2_with fail
                      go_roundw
                      case rel =>
                        refine ⟨k + 1, z / 2, z / 2, nodeV s h', nodeV s g', by go_num, by go_num, by go_num, rfl, rfl, by omega, by omega, by omega, by omega, nodeV_size _ _, nodeV_size _ _, ?_, HB3.out⟩
                        rw [HI.out, HD.out, HE.out, HZ.out]
                      case measure => simp [intOf]; omega
                · have gxy : ¬ (x : Int) = y := by omega
                  have HE := hideT (conS_even x y s ((was :: p).drop (k + 1)) h' g' hy0 (by omega) hxy2)
                  go_wp2_with fail
                  refine (l03Node_any g' s wr (by omega) (by omega)).mono ?_
                  rintro e w2 ⟨rfl, hb2⟩
                  have HB2 := hideT (HB.out.trans (hb2.mono HB.out.size))
                  clear hb2 ci
                  go_wp2_with fail
                  go_roundw
                  case rel =>
                    refine ⟨k + 1, x / 2, y / 2, h', nodeV g' s, by go_num, by go_num, by go_num, rfl, rfl, by omega, by omega, by omega, by omega, hh, nodeV_size _ _, ?_, HB2.out⟩
                    rw [HI.out, HD.out, HE.out]
                  case measure => simp [intOf]; omega
          · have HD : Hid ((was :: p).drop k = []) := by
              unfold Hid
              exact List.drop_eq_nil_of_le (by rw [HLn.out]; omega)
            by_cases hy0 : y = 0
            · have gy : ((y : Int) == 0) = true := by simp; omega
              have HE : Hid (decide (top = some (was, root)) = (decide (h' = was) && decide (g' = root))) := by
                unfold Hid
                rw [HI.out, HD.out, conS_nil, if_pos hy0, pair_eq]
              by_cases hq : h' = was
              · have hq2 : (h'.toList == was.toList) = true := by rw [str_eq, decide_eq_true hq]
                have HE2 : Hid (decide (top = some (was, root)) = decide (g' = root)) := by
                  unfold Hid
                  rw [HE.out, decide_eq_true hq, Bool.true_and]
                go_wp2_with fail
                go_ret
                exact ⟨ret_bool (by rw [HE2.out]; exact str_eq _ _), below2 BZ.out HB.out⟩
              · have hq2 : (h'.toList == was.toList) = false := by rw [str_eq, decide_eq_false hq]
                have HE2 : Hid (decide (top = some (was, root)) = false) := by
                  unfold Hid
                  rw [HE.out, decide_eq_false hq]
                  rfl
                go_wp2_with fail
                go_ret
                exact ⟨ret_bool HE2.out.symm, below2 BZ.out HB.out⟩
            · have gy : ((y : Int) == 0) = false := by simp; omega
              have HE : Hid (decide (top = some (was, root)) = false) := by
                unfold Hid
                rw [HI.out, HD.out, conS_nil, if_neg hy0]
                rfl
              go_wp2_with fail
              go_ret
              exact ⟨ret_bool HE.out.symm, below2 BZ.out HB.out⟩
  · rw [decide_eq_false hpow]
    by_cases hm0 : m = 0
    · have HE : Hid (decide (top = some (was, root)) = false) := by
        unfold Hid
        rw [HTop0.out]
        unfold conP
        rw [if_neg (fun h => hpow h.2), show p = [] from List.eq_nil_of_length_eq_zero (by rw [← HM.out]; exact hm0)]
        rfl
      have g0 : ((m : Int) == 0) = true := by simp; omega
      go_wp2_with fail
      go_ret
      exact ⟨ret_bool HE.out.symm, HB2.out⟩
    · have b6 : ((m : Int) == 0) = false := by simp; omega
      have b7 : ¬ m = 0 := hm0
      obtain ⟨wz, hwz⟩ : ∃ wz, wz = w2 := ⟨_, rfl⟩
      rw [← hwz] at HO3 HB2 ⊢
      clear hwz
      have BZ := HB2
      have HO := HO3
      obtain ⟨g, hg⟩ : ∃ g, g = g1 := ⟨_, rfl⟩
      rw [← hg] at HO ⊢
      clear hg
      have HLn : Hid (p.length = m) := HM.out.symm
      have HL0 : Hid (0 < p.length) := by unfold Hid; rw [← HM.out]; omega
      obtain ⟨h0, hh0⟩ : ∃ h0, h0 = p[0]'HL0.out := ⟨_, rfl⟩
      have HH0 : Hid (p[0]'HL0.out = h0) := hh0.symm
      have HS0 : Hid (h0.size = 32) := by unfold Hid; rw [hh0]; exact HW.out 0 HL0.out
      have HSz := HW
      have HGL := hideT HO.out.lt
      have HTop : Hid (top = conS (od old - 1) ((n - 1) / 2 ^ ex old) (p.drop 1) h0 h0) := by
        unfold Hid
        rw [HTop0.out, hh0]
        unfold conP
        rw [if_neg (fun h => hpow h.2)]
        have hpos := HL0.out
        clear HC HW HM HBig HO3 HO HH0 HS0 HSz HLn HGL hh0
        cases p with
        | nil => simp at hpos
        | cons x xs => rfl
      clear hh0 hpow
      obtain ⟨q, hq⟩ : ∃ q, q = m := ⟨_, rfl⟩
      have hq0 : 0 < q := by omega
      have hqm : q ≤ 65 := by omega
      rw [← hq] at HLn ⊢
      go_wp2_with fail
      go_loopw [12, 13] (fun av lv wr => ∃ (y i : Nat), av = .int .i64 ((y : Int) - 1) ∧ lv = .int .i64 ((n - 1) / 2 ^ i : Nat) ∧ 1 ≤ y ∧ y ≤ old ∧ od y = od old ∧ ex y + i = ex old ∧ wr = wz) (fun av _ _ => (intOf av).toNat)
      case atStart => exact ⟨old, 0, rfl, by rw [Nat.pow_zero, Nat.div_one]; go_num, h1, Nat.le_refl _, rfl, rfl, rfl⟩
      case round =>
        obtain ⟨y, i, rfl, rfl, hy1, hy2, hod, hex, hwr⟩ := hrel
        have HOD := hideT hod
        have HEX := hideT hex
        have HWR := hideT hwr
        clear hod hex hwr
        by_cases hye : y % 2 = 0
        · have g1 : ((y : Int) - 1) % 2 = 1 := by omega
          have hd2 : (((n - 1) / 2 ^ i : Nat) : Int) / 2 = ((n - 1) / 2 ^ (i + 1) : Nat) := by rw [Nat.pow_succ, ← Nat.div_div_eq_div_mul]; omega
          have HD2 := hideT hd2
          have hzn : (n - 1) / 2 ^ i < n := Nat.lt_of_le_of_lt (Nat.div_le_self _ _) (by omega)
          clear hd2
          generalize (n - 1) / 2 ^ i = z at HD2 hzn ⊢
          go_wp2_with fail
          go_roundw
          case rel =>
            refine ⟨y / 2, i + 1, by go_num, by rw [← HD2.out], by omega, by omega, ?_, ?_, HWR.out⟩
            · rw [← HOD.out, od_even y hye hy1]
            · rw [← HEX.out, ex_even y hye hy1]; omega
          case measure => simp [intOf]; omega
        · have g1 : ((y : Int) - 1) % 2 = 0 := by omega
          have HY : Hid (y = od old ∧ i = ex old) := by
            have e1 := HOD.out
            have e2 := HEX.out
            rw [od_odd y (by omega)] at e1
            rw [ex_odd y (by omega)] at e2
            exact ⟨e1, by omega⟩
          have c0 := HO.out.cell (j := 0) HL0.out
          rw [← HWR.out] at c0
          have c0' : wr.cell? ⟨g, 0, none⟩ = some (.string h0) := c0.trans (congrArg (fun z => some (Value.string z)) HH0.out)
          clear c0
          have hyz : ((y : Int) - 1) = ((y - 1 : Nat) : Int) := by omega
          have gx : ((y - 1 : Nat) : Int) % 2 = 0 := by omega
          have HIz := hideT HTop.out
          rw [← HY.out.1, ← HY.out.2] at HIz
          have hle0 : y - 1 ≤ (n - 1) / 2 ^ i := by
            rw [HY.out.1, HY.out.2]
            exact od_le old n h1 hlt
          have hz0 : (n - 1) / 2 ^ i < n := Nat.lt_of_le_of_lt (Nat.div_le_self _ _) (by omega)
          rw [hyz]
          generalize (n - 1) / 2 ^ i = z at HIz hle0 hz0 ⊢
          clear g1 hyz
          generalize y - 1 = x at HIz hle0 gx ⊢
          go_wp2_with fail
          clear gx
          go_loopw [16, 12, 13, 14, 15] (fun kv av lv hv gv wr => ∃ (k x y : Nat) (h' g' : ByteArray), kv = .int .i64 k ∧ av = .int .i64 x ∧ lv = .int .i64 y ∧ hv = .string h' ∧ gv = .string g' ∧ 1 ≤ k ∧ k ≤ q ∧ x ≤ y ∧ y < n ∧ h'.size = 32 ∧ g'.size = 32 ∧ top = conS x y ((p).drop k) h' g' ∧ Below wz.heap.size wz wr) (fun kv _ _ _ _ _ => q - (intOf kv).toNat)
          case atStart =>
            refine ⟨1, x, z, h0, h0, rfl, rfl, rfl, rfl, rfl, Nat.le_refl _, by omega, hle0, hz0, HS0.out, HS0.out, HIz.out, ?_⟩
            have := HWR.out
            subst this
            exact Below.refl _ _
          case round =>
            obtain ⟨k, x, y, h', g', rfl, rfl, rfl, rfl, rfl, hk1, hk, hxy, hy, hh, hg, hinc, hbel⟩ := hrel
            have HB := hideT hbel
            have HI := hideT hinc
            clear hbel hinc
            by_cases hlt2 : k < q
            · have hkl : k < (p).length := by rw [HLn.out]; exact hlt2
              have ci := (HO.out.below HB.out HGL.out).cell hkl
              have HD := hideT (List.drop_eq_getElem_cons hkl)
              have hs32 := HSz.out k hkl
              obtain ⟨s, hse⟩ : ∃ s, s = (p)[k] := ⟨_, rfl⟩
              rw [← hse] at ci hs32 HD
              clear hse
              by_cases hy0 : y = 0
              · have HE : Hid (decide (top = some (was, root)) = false) := by
                  unfold Hid
                  rw [HI.out, HD.out, hy0, conS_zero _ _ _ _ (by simp)]
                  rfl
                have gy : ((y : Int) == 0) = true := by simp; omega
                go_wp2_with fail
                go_ret
                exact ⟨ret_bool HE.out.symm, below2 BZ.out HB.out⟩
              · have gy : ¬ (y : Int) = 0 := by omega
                by_cases hodd : x % 2 = 1
                · have go1 : (x : Int) % 2 = 1 := by omega
                  have HE := hideT (conS_odd x y s ((p).drop (k + 1)) h' g' hy0 hodd)
                  go_wp2_with fail
                  refine (l03Node_any s h' wr (by omega) (by omega)).mono ?_
                  rintro e w2 ⟨rfl, hb2⟩
                  have HB2 := hideT (HB.out.trans (hb2.mono HB.out.size))
                  have ci2 := (hb2.cell (p := ⟨g, k, none⟩) (Nat.lt_of_lt_of_le HGL.out HB.out.size)).trans ci
                  clear hb2 ci
                  go_wp2_with fail
                  refine (l03Node_any s g' w2 (by omega) (by omega)).mono ?_
                  rintro e w3 ⟨rfl, hb3⟩
                  have HB3 := hideT (HB2.out.trans (hb3.mono HB2.out.size))
                  clear hb3 ci2
                  go_wp2_with fail
                  go_loopw [12, 13] (fun av lv wi => av = .int .i64 x ∧ lv = .int .i64 y ∧ wi = w3) (fun _ _ _ => 0)
                  case atStart => exact ⟨rfl, rfl, rfl⟩
                  case round =>
                    obtain ⟨rfl, rfl, hwi⟩ := hrel
                    subst hwi
                    go_wp2_with fail
                    go_roundw
                    case rel =>
                      refine ⟨k + 1, x / 2, y / 2, nodeV s h', nodeV s g', by go_num, by go_num, by go_num, rfl, rfl, by omega, by omega, by omega, by omega, nodeV_size _ _, nodeV_size _ _, ?_, HB3.out⟩
                      rw [HI.out, HD.out, HE.out]
                    case measure => simp [intOf]; omega
                · have go1 : (x : Int) % 2 = 0 := by omega
                  by_cases hxy2 : x = y
                  · have gxy : (x : Int) = y := by omega
                    have HE : Hid (conS x y (s :: (p).drop (k + 1)) h' g' = conS (od x / 2) (od x / 2) ((p).drop (k + 1)) (nodeV s h') (nodeV s g')) := by
                      unfold Hid
                      rw [← hxy2]
                      exact conS_end x s ((p).drop (k + 1)) h' g' (by omega) (by omega)
                    have HXY := hideT hxy2
                    have HOx := hideT (od_pos x (by omega))
                    go_wp2_with fail
                    refine (l03Node_any s h' wr (by omega) (by omega)).mono ?_
                    rintro e w2 ⟨rfl, hb2⟩
                    have HB2 := hideT (HB.out.trans (hb2.mono HB.out.size))
                    have ci2 := (hb2.cell (p := ⟨g, k, none⟩) (Nat.lt_of_lt_of_le HGL.out HB.out.size)).trans ci
                    clear hb2 ci
                    go_wp2_with fail
                    refine (l03Node_any s g' w2 (by omega) (by omega)).mono ?_
                    rintro e w3 ⟨rfl, hb3⟩
                    have HB3 := hideT (HB2.out.trans (hb3.mono HB2.out.size))
                    clear hb3 ci2
                    go_wp2_with fail
                    go_loopw [12, 13] (fun av lv wi => ∃ z : Nat, av = .int .i64 z ∧ lv = .int .i64 z ∧ 0 < z ∧ z ≤ x ∧ od z = od x ∧ wi = w3) (fun av _ _ => (intOf av).toNat)
                    case atStart => exact ⟨x, by rw [HXY.out], by rw [HXY.out], by omega, Nat.le_refl _, rfl, rfl⟩
                    case round =>
                      obtain ⟨z, rfl, rfl, hz0, hzx, hod, hwi⟩ := hrel
                      subst hwi
                      have HODz := hideT hod
                      clear hod
                      have gz : 0 < (z : Int) := by omega
                      by_cases hze : z % 2 = 0
                      · have gz2 : (z : Int) % 2 = 0 := by omega
                        go_wp2_with fail
                        go_roundw
                        case rel => exact ⟨z / 2, by go_num, by go_num, by omega, by omega, by rw [← od_even z hze hz0]; exact HODz.out, trivial⟩
                        case measure => simp [intOf]; omega
                      · have gz2 : (z : Int) % 2 = 1 := by omega
                        have HZ : Hid (od x = z) := by
                          unfold Hid
                          rw [← HODz.out]
                          exact od_odd z (by omega)
                        go_wp2_with fail
                        go_roundw
                        case rel =>
                          refine ⟨k + 1, z / 2, z / 2, nodeV s h', nodeV s g', by go_num, by go_num, by go_num, rfl, rfl, by omega, by omega, by omega, by omega, nodeV_size _ _, nodeV_size _ _, ?_, HB3.out⟩
                          rw [HI.out, HD.out, HE.out, HZ.out]
                        case measure => simp [intOf]; omega
                  · have gxy : ¬ (x : Int) = y := by omega
                    have HE := hideT (conS_even x y s ((p).drop (k + 1)) h' g' hy0 (by omega) hxy2)
                    go_wp2_with fail
                    refine (l03Node_any g' s wr (by omega) (by omega)).mono ?_
                    rintro e w2 ⟨rfl, hb2⟩
                    have HB2 := hideT (HB.out.trans (hb2.mono HB.out.size))
                    clear hb2 ci
                    go_wp2_with fail
                    go_roundw
                    case rel =>
                      refine ⟨k + 1, x / 2, y / 2, h', nodeV g' s, by go_num, by go_num, by go_num, rfl, rfl, by omega, by omega, by omega, by omega, hh, nodeV_size _ _, ?_, HB2.out⟩
                      rw [HI.out, HD.out, HE.out]
                    case measure => simp [intOf]; omega
            · have HD : Hid ((p).drop k = []) := by
                unfold Hid
                exact List.drop_eq_nil_of_le (by rw [HLn.out]; omega)
              by_cases hy0 : y = 0
              · have gy : ((y : Int) == 0) = true := by simp; omega
                have HE : Hid (decide (top = some (was, root)) = (decide (h' = was) && decide (g' = root))) := by
                  unfold Hid
                  rw [HI.out, HD.out, conS_nil, if_pos hy0, pair_eq]
                by_cases hq : h' = was
                · have hq2 : (h'.toList == was.toList) = true := by rw [str_eq, decide_eq_true hq]
                  have HE2 : Hid (decide (top = some (was, root)) = decide (g' = root)) := by
                    unfold Hid
                    rw [HE.out, decide_eq_true hq, Bool.true_and]
                  go_wp2_with fail
                  go_ret
                  exact ⟨ret_bool (by rw [HE2.out]; exact str_eq _ _), below2 BZ.out HB.out⟩
                · have hq2 : (h'.toList == was.toList) = false := by rw [str_eq, decide_eq_false hq]
                  have HE2 : Hid (decide (top = some (was, root)) = false) := by
                    unfold Hid
                    rw [HE.out, decide_eq_false hq]
                    rfl
                  go_wp2_with fail
                  go_ret
                  exact ⟨ret_bool HE2.out.symm, below2 BZ.out HB.out⟩
              · have gy : ((y : Int) == 0) = false := by simp; omega
                have HE : Hid (decide (top = some (was, root)) = false) := by
                  unfold Hid
                  rw [HI.out, HD.out, conS_nil, if_neg hy0]
                  rfl
                go_wp2_with fail
                go_ret
                exact ⟨ret_bool HE.out.symm, below2 BZ.out HB.out⟩
end Go.Proofs.YtghghkfhcpldhaaDoor.Tr

/- What spec.Consistent answers. -/
namespace Go.Proofs.YtghghkfhcpldhaaDoor.Tr
open Go.RowKit
open Go.Proofs.YtghghkfhcpldhaaDoor.St
open Go.Proofs.YtghghkfhcpldhaaDoor.Sh (Vars)

set_option maxRecDepth 100000 in
set_option maxHeartbeats 1000000 in
theorem cons_spec (old n : Int) (p : List ByteArray) (was root : ByteArray) (b off cap B : Nat) (w : World) (hn : n < 9223372036854775808) (hp : p.length ≤ 1048576) (hb : b < B) (hc0 : ∀ j (h : j < p.length), w.cell? ⟨b, off + j, none⟩ = some (.string p[j])) (hB : B ≤ w.heap.size) :
    Calls Tryd.prog 12 #[.int .i64 old, .int .i64 n, .slice (some ⟨b, off, none⟩) p.length cap, .string was, .string root] w fun e w' => e = .returned (.bool (consB old n p was root)) ∧ Below w.heap.size w w' := by
  have hs : Strs w B (some ⟨b, off, none⟩) p := .inr ⟨b, off, rfl, hb, hc0⟩
  have HD := hideT (wide_spec (some ⟨b, off, none⟩) cap p w B hs hp)
  have HIN := hideT (fun (o' n' : Nat) h1 h2 h3 h4 h5 h6 h7 => cons_at o' n' p was root b off cap B w h1 h2 h3 h4 h5 h6 h7 hb hc0 hB)
  have HPath := hideT (consB_path old n p was root)
  clear hs hc0
  by_cases h64 : 64 < p.length
  · have HF := hideT (HPath.out (by rw [decide_eq_false (by omega)]; rfl))
    clear HIN
    generalize p.length = m at hp HD h64 ⊢
    go_enter Tryd.func12, Tryd.ntmps12
    go_wp2_with fail
    go_ret
    exact ⟨ret_bool HF.out.symm, Below.refl _ _⟩
  · cases h3 : wide p with
    | false =>
      rw [h3] at HD
      have HF := hideT (HPath.out (by rw [h3, Bool.and_false]))
      clear HIN
      generalize p.length = m at hp HD h64 ⊢
      go_enter Tryd.func12, Tryd.ntmps12
      go_wp2_with fail
      refine HD.out.mono ?_
      rintro e w1 ⟨rfl, hw⟩
      subst w1
      go_wp2_with fail
      go_ret
      exact ⟨ret_bool HF.out.symm, Below.refl _ _⟩
    | true =>
      have HT : Hid ((decide (p.length ≤ 64) && wide p) = true) := by
        unfold Hid
        rw [h3, decide_eq_true (by omega)]
        rfl
      by_cases hl : was.size = 32
      · by_cases hr : root.size = 32
        · by_cases h0 : old < 1
          · rw [h3] at HD
            have HF := hideT (consB_low old n p was root h0)
            clear HIN
            generalize p.length = m at hp HD h64 ⊢
            go_enter Tryd.func12, Tryd.ntmps12
            go_wp2_with fail
            refine HD.out.mono ?_
            rintro e w1 ⟨rfl, hw⟩
            subst w1
            go_wp2_with fail
            go_ret
            exact ⟨ret_bool HF.out.symm, Below.refl _ _⟩
          · by_cases hin : n < old
            · rw [h3] at HD
              have HF := hideT (consB_high old n p was root hin)
              clear HIN
              generalize p.length = m at hp HD h64 ⊢
              go_enter Tryd.func12, Tryd.ntmps12
              go_wp2_with fail
              refine HD.out.mono ?_
              rintro e w1 ⟨rfl, hw⟩
              subst w1
              go_wp2_with fail
              go_ret
              exact ⟨ret_bool HF.out.symm, Below.refl _ _⟩
            · obtain ⟨o', rfl⟩ : ∃ k : Nat, old = k := ⟨old.toNat, by omega⟩
              obtain ⟨n', rfl⟩ : ∃ k : Nat, n = k := ⟨n.toNat, by omega⟩
              rw [consB_in o' n' p was root (by omega) (by omega) hl hr HT.out]
              unfold consV
              by_cases he : o' = n'
              · rw [if_pos he]
                rw [h3] at HD
                clear HIN HPath
                subst he
                have b2 : decide ((o' : Int) < 1) = false := by simp; omega
                clear hin h0 hn HT
                generalize p.length = m at hp HD h64 ⊢
                by_cases hm0 : m = 0
                · subst hm0
                  have HE : Hid ((decide (0 = 0) && decide (was = root)) = decide (was = root)) := by
                    unfold Hid
                    simp
                  go_enter Tryd.func12, Tryd.ntmps12
                  go_wp2_with fail
                  refine HD.out.mono ?_
                  rintro e w1 ⟨rfl, hw⟩
                  subst w1
                  go_wp2_with fail
                  go_ret
                  exact ⟨ret_bool (by first | (rw [HE.out]; exact str_eq _ _) | (rw [str_eq]; simp)), Below.refl _ _⟩
                · have HE : Hid ((decide (m = 0) && decide (was = root)) = false) := by
                    unfold Hid
                    rw [decide_eq_false hm0]
                    rfl
                  have g0 : ((m : Int) == 0) = false := by simp; omega
                  clear hm0
                  go_enter Tryd.func12, Tryd.ntmps12
                  go_wp2_with fail
                  refine HD.out.mono ?_
                  rintro e w1 ⟨rfl, hw⟩
                  subst w1
                  go_wp2_with fail
                  go_ret
                  exact ⟨ret_bool HE.out.symm, Below.refl _ _⟩
              · rw [if_neg he]
                exact HIN.out o' n' (by omega) (by omega) (by omega) (by omega) hl hr h3
        · rw [h3] at HD
          have HF := hideT (consB_root old n p was root hr)
          clear HIN
          generalize p.length = m at hp HD h64 ⊢
          go_enter Tryd.func12, Tryd.ntmps12
          go_wp2_with fail
          refine HD.out.mono ?_
          rintro e w1 ⟨rfl, hw⟩
          subst w1
          go_wp2_with fail
          go_ret
          exact ⟨ret_bool HF.out.symm, Below.refl _ _⟩
      · rw [h3] at HD
        have HF := hideT (consB_was old n p was root hl)
        clear HIN
        generalize p.length = m at hp HD h64 ⊢
        go_enter Tryd.func12, Tryd.ntmps12
        go_wp2_with fail
        refine HD.out.mono ?_
        rintro e w1 ⟨rfl, hw⟩
        subst w1
        go_wp2_with fail
        go_ret
        exact ⟨ret_bool HF.out.symm, Below.refl _ _⟩
end Go.Proofs.YtghghkfhcpldhaaDoor.Tr
