/- The walks of impl.proofMakes and impl.Consistent. -/
import Derived.Test.YteiicafjjcnioaaDoorInclWalks
import Derived.Test.YteiicafjjcnioaaDoorConsPlain
namespace Go.Proofs.YteiicafjjcnioaaDoor.Tr
open Go.RowKit
open Go.Proofs.YteiicafjjcnioaaDoor.St
open Go.Proofs.YteiicafjjcnioaaDoor.Sh (Vars nodeV)

theorem stay_call (x : ByteArray) (w : World) : Calls Tryd.prog 104 #[.string x] w fun e w' => e = .returned (.string x) ∧ Below w.heap.size w w' := by
  go_enter Tryd.func104, Tryd.ntmps104
  go_wp2_with fail
  go_ret
  exact ⟨rfl, Below.refl _ _⟩

set_option maxRecDepth 100000 in
set_option maxHeartbeats 4000000 in
theorem makes_same (n0 : Nat) (m0 : Nat) (was root : ByteArray) (a : Option Addr) (cap : Nat) (w : World) (hm : m0 ≤ 1048576) :
    Calls Tryd.prog 92 #[.int .i64 n0, .int .i64 n0, .slice a m0 cap, .string was, .string root] w fun e w' => e = .returned (.bool (decide (m0 = 0) && decide (was = root))) ∧ Below w.heap.size w w' := by
  by_cases h0 : m0 = 0
  · subst h0
    go_enter Tryd.func92, Tryd.ntmps92
    go_wp2_with fail
    go_loopw [0, 1, 2, 11, 12, 13] (fun ov nv pv fv gv wv wr => ov = .int .i64 n0 ∧ nv = .int .i64 n0 ∧ pv = .slice a 0 cap ∧ fv = .func (.func 104) #[] #[] ∧ gv = .func (.func 104) #[] #[] ∧ wv = .bool true ∧ wr = w) (fun _ _ _ _ _ _ _ => 0)
    case atStart => exact ⟨rfl, rfl, rfl, rfl, rfl, rfl, rfl⟩
    case round =>
      obtain ⟨rfl, rfl, rfl, rfl, rfl, rfl, hw⟩ := hrel
      subst hw
      go_wp2_with fail
      refine (stay_call was wr).mono ?_
      rintro e w1 ⟨rfl, hb1⟩
      go_wp2_with fail
      go_ret
      exact ⟨ret_bool (by rw [str_eq]; simp), hb1⟩
  · have HE : Hid ((decide (m0 = 0) && decide (was = root)) = false) := by
      unfold Hid
      rw [decide_eq_false h0]
      rfl
    have g0 : ((m0 : Int) == 0) = false := by simp; omega
    go_enter Tryd.func92, Tryd.ntmps92
    go_wp2_with fail
    go_loopw [0, 1, 2, 11, 12, 13] (fun ov nv pv fv gv wv wr => ov = .int .i64 n0 ∧ nv = .int .i64 n0 ∧ pv = .slice a m0 cap ∧ fv = .func (.func 104) #[] #[] ∧ gv = .func (.func 104) #[] #[] ∧ wv = .bool true ∧ wr = w) (fun _ _ _ _ _ _ _ => 0)
    case atStart => exact ⟨rfl, rfl, rfl, rfl, rfl, rfl, rfl⟩
    case round =>
      obtain ⟨rfl, rfl, rfl, rfl, rfl, rfl, hw⟩ := hrel
      subst hw
      go_wp2_with fail
      go_ret
      exact ⟨ret_bool HE.out.symm, Below.refl _ _⟩

theorem pair_eq (x y a b : ByteArray) : decide (some (x, y) = some (a, b)) = (decide (x = a) && decide (y = b)) := by
  by_cases h1 : x = a
  · by_cases h2 : y = b
    · simp [h1, h2]
    · simp [h1, h2]
  · simp [h1]
theorem head_one (p : List ByteArray) (h : 0 < p.length) : (p.take 1).headD ⟨#[]⟩ = p[0] ∧ (p.take 1).length = 1 := by
  cases p with
  | nil => simp at h
  | cons x xs => simp

set_option maxRecDepth 100000 in
set_option maxHeartbeats 8000000 in
theorem makes_any (old0 n0 : Nat) (p : List ByteArray) (was root : ByteArray) (a : Option Addr) (cap B : Nat) (w : World) (h1 : 1 ≤ old0) (hlt : old0 < n0) (hn : n0 < 9223372036854775808) (hp : p.length ≤ 1048576) (hcap : p.length ≤ cap) (hws : was.size = 32) (hw : ∀ j (h : j < p.length), p[j].size = 32) (hs : Strs w B a p) (hB : B ≤ w.heap.size) (hV : Vars w) :
    Calls Tryd.prog 92 #[.int .i64 old0, .int .i64 n0, .slice a p.length cap, .string was, .string root] w fun e w' => e = .returned (.bool (decide (conP true old0 n0 p was = some (was, root)))) ∧ Below w.heap.size w w' := by
  have HS := hideT hs
  have HW := hideT hw
  have HV := hideT hV
  have hv2 := hV.two
  clear hs hw hV
  obtain ⟨m0, hm0⟩ : ∃ m0, m0 = p.length := ⟨_, rfl⟩
  have HM := hideT hm0
  rw [← hm0] at hp hcap ⊢
  clear hm0
  obtain ⟨top, htop⟩ : ∃ top, top = conP true old0 n0 p was := ⟨_, rfl⟩
  rw [← htop]
  have HTop := hideT htop
  clear htop
  go_enter Tryd.func92, Tryd.ntmps92
  go_wp2_with fail
  go_loopw [0, 1, 2, 11, 12, 13] (fun ov nv pv fv gv wv wr => ∃ (old n m c : Nat) (wh : Bool) (φ ψ : ByteArray → ByteArray), ov = .int .i64 old ∧ nv = .int .i64 n ∧ pv = .slice a m c ∧ wv = .bool wh ∧ 1 ≤ old ∧ (old < n ∨ (old = n ∧ od old = 1)) ∧ n ≤ n0 ∧ m ≤ m0 ∧ m ≤ c ∧ Climbs wr fv φ ∧ Climbs wr gv ψ ∧ (wh = true → φ was = was) ∧ top = (conP wh old n (p.take m) was).map (fun z => (φ z.1, ψ z.2)) ∧ Below w.heap.size w wr) (fun _ nv _ _ _ _ _ => (intOf nv).toNat)
  case atStart =>
    refine ⟨old0, n0, m0, cap, true, fun x => x, fun x => x, rfl, rfl, rfl, rfl, h1, .inl hlt, Nat.le_refl _, Nat.le_refl _, hcap, stay_any w, stay_any w, fun _ => rfl, ?_, Below.refl _ _⟩
    rw [HTop.out, HM.out, List.take_length]
    exact Option.map_id'.symm
  case round =>
    obtain ⟨old, n, m, c, wh, φ, ψ, rfl, rfl, rfl, rfl, ho1, hon, hn0, hm, hmc, hcf, hcg, hid, htop, hbel⟩ := hrel
    have HB := hideT hbel
    have HF := hideT hcf
    have HG := hideT hcg
    have HT := hideT htop
    have HID := hideT hid
    clear hbel hcf hcg htop hid
    by_cases hend : old = n
    · have hod : od old = 1 := by
        rcases hon with h | h
        · omega
        · exact h.2
      subst hend
      cases wh with
      | true =>
        have HC := hideT (conP_whole old (p.take m) was ho1 hod)
        by_cases hm0 : m = 0
        · subst hm0
          have HE : Hid (top = some (was, ψ was)) := by
            unfold Hid
            rw [HT.out, HC.out, if_pos List.take_zero]
            show some (φ was, ψ was) = _
            rw [HID.out rfl]
          obtain ⟨k, caps, rfl, he, hcall⟩ := HG.out
          have HCall := hideT (hcall was wr hws (Below.refl _ _) (HV.out.below HB.out hv2))
          clear hcall hod hon
          go_wp2_with fail
          refine HCall.out.mono ?_
          rintro e w1 ⟨rfl, hb1⟩
          have HB1 := hideT (below2 HB.out hb1)
          clear hb1
          go_wp2_with fail
          go_ret
          exact ⟨ret_bool (by rw [HE.out, pair_eq, decide_eq_true rfl, Bool.true_and]; exact str_eq _ _), HB1.out⟩
        · have HE : Hid (top = none) := by
            unfold Hid
            rw [HT.out, HC.out, if_neg (by
              intro he
              have h2 := congrArg List.length he
              rw [List.length_take, List.length_nil] at h2
              have h3 := HM.out
              omega)]
            rfl
          have g0 : ((m : Int) == 0) = false := by simp; omega
          clear hod hon
          go_wp2_with fail
          go_ret
          exact ⟨ret_bool (by rw [HE.out]; rfl), HB.out⟩
      | false =>
        have HC := hideT (conP_part old (p.take m) was ho1 hod)
        by_cases hm1 : m = 1
        · subst hm1
          have hp0 : 0 < p.length := by have := HM.out; omega
          obtain ⟨b, off, rfl, hb, hc⟩ := (HS.out.after HB.out hB).some hp0
          have ci := hc 0 hp0
          rw [Nat.add_zero] at ci
          have HSZ := hideT (HW.out 0 hp0)
          have HHd := hideT (head_one p hp0)
          obtain ⟨x, hx⟩ : ∃ x, x = p[0] := ⟨_, rfl⟩
          rw [← hx] at ci HSZ HHd
          have HE : Hid (top = some (φ x, ψ x)) := by
            unfold Hid
            rw [HT.out, HC.out, if_pos HHd.out.2, HHd.out.1]
            rfl
          obtain ⟨k, caps, rfl, he, hcall⟩ := HF.out
          obtain ⟨k2, caps2, rfl, he2, hcall2⟩ := HG.out
          have HCall := hideT (hcall x wr HSZ.out (Below.refl _ _) (HV.out.below HB.out hv2))
          have HCall2 := hideT (fun W hW hV => hcall2 x W HSZ.out hW hV)
          clear hcall hcall2 hod hon hc hx
          have HCx := hideT ci
          have hbw : b < wr.heap.size := World.block_lt_of_cell? wr _ ci
          go_wp2_with fail
          refine HCall.out.mono ?_
          rintro e w1 ⟨rfl, hb1⟩
          have HB1 := hideT (below2 HB.out hb1)
          have HCall3 := hideT (HCall2.out w1 hb1 (HV.out.below HB1.out hv2))
          have ci1 := (hb1.cell (p := ⟨b, off, none⟩) hbw).trans HCx.out
          clear hb1 ci
          by_cases hq : φ x = was
          · have hq2 : ((φ x).toList == was.toList) = true := by rw [str_eq, decide_eq_true hq]
            go_wp2_with fail
            refine HCall3.out.mono ?_
            rintro e w2 ⟨rfl, hb2⟩
            have HB2 := hideT (below2 HB1.out hb2)
            clear hb2
            go_wp2_with fail
            go_ret
            exact ⟨ret_bool (by rw [HE.out, pair_eq, decide_eq_true hq, Bool.true_and]; exact str_eq _ _), HB2.out⟩
          · have hq2 : ((φ x).toList == was.toList) = false := by rw [str_eq, decide_eq_false hq]
            go_wp2_with fail
            go_ret
            exact ⟨ret_bool (by rw [HE.out, pair_eq, decide_eq_false hq]; rfl), HB1.out⟩
        · have HE : Hid (top = none) := by
            unfold Hid
            rw [HT.out, HC.out, if_neg (by
              rw [List.length_take]
              have h3 := HM.out
              omega)]
            rfl
          have g0 : ((m : Int) == 1) = false := by simp; omega
          clear hod hon
          go_wp2_with fail
          go_ret
          exact ⟨ret_bool (by rw [HE.out]; rfl), HB.out⟩
    · have holt : old < n := by
        rcases hon with h | h
        · exact h
        · omega
      have g1 : ¬ (old : Int) = n := by omega
      clear hon
      by_cases hm0 : m = 0
      · subst hm0
        have HE : Hid (top = none) := by
          unfold Hid
          rw [HT.out, List.take_zero, conP_none wh old n was ho1 holt]
          rfl
        go_wp2_with fail
        go_ret
        exact ⟨ret_bool (by rw [HE.out]; rfl), HB.out⟩
      · have g0 : ¬ (m : Int) = 0 := by omega
        have hml : m - 1 < p.length := by have := HM.out; omega
        obtain ⟨b, off, rfl, hb, hc⟩ := (HS.out.after HB.out hB).some (by omega)
        have ci := hc (m - 1) hml
        have HSZ := hideT (HW.out (m - 1) hml)
        have HTL := hideT (take_last p m (by omega) (by have := HM.out; omega))
        have HIL := hideT (fun (s : ByteArray) (hik : old ≤ half n) => conP_left wh old n (p.take (m - 1)) s was ho1 holt hik)
        have HIR := hideT (fun (s : ByteArray) (hik : ¬ old ≤ half n) => conP_right wh old n (p.take (m - 1)) s was holt hik)
        have HHalf : Hid (od (half n) = 1) := od_pow _
        obtain ⟨s, hse⟩ : ∃ s, s = p[m - 1] := ⟨_, rfl⟩
        rw [← hse] at ci HSZ HTL
        clear hc hse
        have hp2 := half_pos n
        have hl2 := half_lt n (by omega)
        go_wp2_with fail
        refine (cutLast_any b off m c s wr (by omega) (by omega) hmc ci).mono ?_
        rintro e w1 ⟨rfl, hb1⟩
        have HB1 := hideT (HB.out.trans (hb1.mono HB.out.size))
        have HF1 := hideT (HF.out.later hb1)
        have HG1 := hideT (HG.out.later hb1)
        clear hb1 ci
        go_wp2_with fail
        refine (half_impl n w1 (by omega) (by omega)).mono ?_
        rintro e w2 ⟨rfl, hw2⟩
        subst w2
        obtain ⟨k, hk⟩ : ∃ k, k = half n := ⟨_, rfl⟩
        rw [← hk] at hp2 hl2 HIL HIR HHalf ⊢
        clear hk
        by_cases hik : old ≤ k
        · go_wp2_with fail
          refine (joinRight_any s _ ψ w1 HSZ.out HG1.out).mono ?_
          rintro e w3 ⟨g, rfl, hg3, hb3⟩
          have HB3 := hideT (HB1.out.trans (hb3.mono HB1.out.size))
          have HG3 := hideT hg3
          have HF3 := hideT (HF1.out.later hb3)
          clear hb3 hg3
          go_wp2_with fail
          go_roundw
          case rel =>
            refine ⟨old, k, m - 1, m - 1, wh, φ, _, rfl, rfl, rfl, rfl, ho1, ?_, by omega, by omega, Nat.le_refl _, HF3.out, HG3.out, HID.out, ?_, HB3.out⟩
            · rcases Nat.lt_or_ge old k with h | h
              · exact .inl h
              · have he : old = k := by omega
                exact .inr ⟨he, by rw [he]; exact HHalf.out⟩
            · rw [HT.out, HTL.out, HIL.out s hik, Option.map_map]
              rfl
          case measure => simp [intOf]; omega
        · go_wp2_with fail
          refine (joinLeft_any s _ φ w1 HSZ.out HF1.out).mono ?_
          rintro e w3 ⟨g, rfl, hg3, hb3⟩
          have HB3 := hideT (HB1.out.trans (hb3.mono HB1.out.size))
          have HF3 := hideT hg3
          have HG3 := hideT (HG1.out.later hb3)
          clear hb3 hg3
          go_wp2_with fail
          refine (joinLeft_any s _ ψ w3 HSZ.out HG3.out).mono ?_
          rintro e w4 ⟨g', rfl, hg4, hb4⟩
          have HB4 := hideT (HB3.out.trans (hb4.mono HB3.out.size))
          have HG4 := hideT hg4
          have HF4 := hideT (HF3.out.later hb4)
          clear hb4 hg4
          go_wp2_with fail
          go_roundw
          case rel =>
            refine ⟨old - k, n - k, m - 1, m - 1, false, _, _, by go_num, by go_num, rfl, rfl, by omega, .inl (by omega), by omega, by omega, Nat.le_refl _, HF4.out, HG4.out, (fun h => absurd h (by decide)), ?_, HB4.out⟩
            rw [HT.out, HTL.out, HIR.out s hik, Option.map_map]
            rfl
          case measure => simp [intOf]; omega
end Go.Proofs.YteiicafjjcnioaaDoor.Tr
