/- The walks of l04Of and of the specification's LengthsOf. -/
import Derived.Test.YtmkpakhpjgocjaaHuLens
namespace Go.Proofs.Ytmkpakhpjgocjaa.Hf
open Go.RowKit
open Go.Proofs.Ytmkpakhpjgocjaa.In (IsI IsO irow Ints OwnI)
open Go.Proofs.Ytmkpakhpjgocjaa.Bi (within within_yes)
open Go.Proofs.Ytmkpakhpjgocjaa.Ap (Own0 wpList_append_own0k)

def midG (c : List Nat) (j : Nat) : List Nat := (flat c).take j ++ c.drop j
theorem midG_length (c : List Nat) (j : Nat) (h : j ≤ c.length) : (midG c j).length = c.length := by
  unfold midG
  rw [List.length_append, List.length_take, flat_length, List.length_drop]
  omega
theorem midG_at (c : List Nat) (j : Nat) (h : j < c.length) : (midG c j)[j]? = some c[j] := by
  unfold midG
  have hl : ((flat c).take j).length = j := by rw [List.length_take, flat_length]; omega
  rw [List.getElem?_append_right (by omega), hl, Nat.sub_self, List.getElem?_drop, Nat.add_zero, List.getElem?_eq_getElem h]
theorem midG_next (c : List Nat) (j : Nat) (h : j < c.length) : (midG c j).set j (if 0 < c[j] then c[j] / 2 + 1 else 0) = midG c (j + 1) := by
  have hf : (flat c)[j]'(by rw [flat_length]; exact h) = if 0 < c[j] then c[j] / 2 + 1 else 0 := by
    unfold flat
    rw [List.getElem_map]
  have hl : ((flat c).take j).length = j := by rw [List.length_take, flat_length]; omega
  unfold midG
  rw [← hf, List.set_append, if_neg (by omega), hl, Nat.sub_self, List.drop_eq_getElem_cons h, List.set_cons_zero, List.take_add_one, List.getElem?_eq_getElem (by rw [flat_length]; exact h), List.append_assoc]
  rfl
theorem midG_yes (c : List Nat) (j : Nat) (h : j < c.length) (h0 : 0 < c[j]) : (midG c j).set j (c[j] / 2 + 1) = midG c (j + 1) := by
  have := midG_next c j h
  rw [if_pos h0] at this
  exact this
theorem midG_no (c : List Nat) (j : Nat) (h : j < c.length) (h0 : ¬ 0 < c[j]) : midG c j = midG c (j + 1) := by
  have := midG_next c j h
  rw [if_neg h0] at this
  rw [← this]
  have e : (midG c j)[j]? = some 0 := by rw [midG_at c j h]; congr 1; omega
  obtain ⟨h1, h2⟩ := List.getElem?_eq_some_iff.1 e
  apply List.ext_getElem?
  intro i
  rw [List.getElem?_set]
  by_cases hi : j = i
  · subst hi
    rw [if_pos rfl, if_pos h1, e]
  · rw [if_neg hi]
theorem midG_zero (c : List Nat) : midG c 0 = c := by
  unfold midG
  simp
theorem midG_all (c : List Nat) : midG c c.length = flat c := by
  unfold midG
  rw [List.drop_length, List.append_nil, List.take_of_length_le (by rw [flat_length]; exact Nat.le_refl _)]
theorem up_news {W : World} {b off : Nat} {l : List Int} (hc : ∀ j (h : j < l.length), W.cell? ⟨b, off + j, none⟩ = some (.int .i64 l[j])) : ∀ j u, (l.map (Value.int .i64))[j]? = some u → W.cell? ((⟨b, off, none⟩ : Addr).add j) = some u := by
  intro j u hu
  have hj : j < l.length := by
    have := (List.getElem?_eq_some_iff.1 hu).1
    rwa [List.length_map] at this
  rw [List.getElem?_map, List.getElem?_eq_getElem hj] at hu
  rw [Addr.add_lit, hc j hj]
  exact hu
theorem ints_one (l : List Int) : ∀ u ∈ l.map (Value.int .i64), u.oneCell' = true := by
  intro u hu
  obtain ⟨x, _, rfl⟩ := List.mem_map.1 hu
  rfl

set_option maxRecDepth 100000 in
set_option maxHeartbeats 600000 in
theorem ofS_nil (a : Option Addr) (cap : Nat) (w : World) :
    Calls Try.prog 86 #[.slice a 0 cap] w fun e w' => ∃ v, e = .returned v ∧ OwnI w' w.heap.size v [] ∧ Below w.heap.size w w' := by
  have H0 : Hid (mxN (depths []) 0 = 0) := rfl
  have HD : Hid ((up (depths [])) = []) := List.eq_nil_of_length_eq_zero (by rw [up_length, depths_length]; rfl)
  have HL := hideH (fun (W : World) => lensS_any (some ⟨w.heap.size, 0, none⟩) 0 0 [] W (.inl rfl) rfl (by omega) (fun x hx => absurd hx (List.not_mem_nil)))
  cases a with
  | none =>
    go_enter Try.func86, Try.ntmps86
    go_wp2_with fail
    go_loopw [4, 5, 6] (fun _ _ _ wr => Below w.heap.size w wr) (fun _ _ _ _ => 0)
    case atStart => exact (Below.refl _ _).alloc (Nat.le_refl _) _
    case round =>
      have BW := hideH hrel
      have hzw := hrel.size
      clear hrel
      go_wp2_with fail
      refine (HL.out wr).mono ?_
      rintro e w3 ⟨rfl, hi3, hb3⟩
      rw [H0.out]
      have I3 := hideH hi3
      have B3 := hideH (BW.out.trans (hb3.mono hzw))
      clear hi3 hb3
      go_wp2_with fail
      go_ret
      exact ⟨_, rfl, by rw [← HD.out]; exact own_of I3.out hzw (by rw [up_length, depths_length]; rfl) (by omega), B3.out⟩
  | some a =>
    go_enter Try.func86, Try.ntmps86
    go_wp2_with fail
    go_loopw [4, 5, 6] (fun _ _ _ wr => Below w.heap.size w wr) (fun _ _ _ _ => 0)
    case atStart => exact (Below.refl _ _).alloc (Nat.le_refl _) _
    case round =>
      have BW := hideH hrel
      have hzw := hrel.size
      clear hrel
      go_wp2_with fail
      refine (HL.out wr).mono ?_
      rintro e w3 ⟨rfl, hi3, hb3⟩
      rw [H0.out]
      have I3 := hideH hi3
      have B3 := hideH (BW.out.trans (hb3.mono hzw))
      clear hi3 hb3
      go_wp2_with fail
      go_ret
      exact ⟨_, rfl, by rw [← HD.out]; exact own_of I3.out hzw (by rw [up_length, depths_length]; rfl) (by omega), B3.out⟩

set_option maxRecDepth 100000 in
set_option maxHeartbeats 600000 in
theorem ofS_any (a : Option Addr) (cap n : Nat) (c0 : List Nat) (w : World) (h : Ints w w.heap.size a (up c0)) (hn : c0.length = n) (h0 : 0 < n) (h257 : n ≤ 257) (hm : ∀ x ∈ c0, x ≤ 10000) :
    Calls Try.prog 86 #[.slice a n cap] w fun e w' => ∃ v, e = .returned v ∧ OwnI w' w.heap.size v (up (lenOf c0)) ∧ Below w.heap.size w w' := by
  obtain ⟨i0, hi, hz0, hz1, hz2⟩ := info_parts In.Try.infoI2
  have HN := hideH hn
  obtain ⟨b, off, rfl, hbz, hcl⟩ := h.some (by rw [up_length]; omega)
  have HCL := hideH (fun (W : World) (hW : Below w.heap.size w W) => up_news (W := W) fun j hj => (hW.cell (p := ⟨b, off + j, none⟩) hbz).trans (hcl j hj))
  have HM := hideH hm
  have HLU : Hid ((up c0).length = n) := by unfold Hid; rw [up_length]; exact hn
  obtain ⟨R, hR⟩ : ∃ R, R = lenOf c0 := ⟨_, rfl⟩
  have HRR := hideH hR
  rw [← hR]
  clear hR hm hn h hcl
  go_enter Try.func86, Try.ntmps86
  go_wp2_with (at_builtin; refine wpList_append_own0k _ rfl (.tmp 7) (.tmp 8) 23 rfl w.heap.size 2 i0 (.int .i64 0) 1 8 Try.underlying23 hi hz0 hz1 hz2 rfl (by decide) _ 0 [] rfl (.inl ⟨_, rfl, rfl, rfl⟩) ⟨b, off, none⟩ n cap ((up c0).map (Value.int .i64)) rfl (by rw [List.length_map, HLU.out]; omega) (HCL.out _ ((Below.refl _ _).alloc (Nat.le_refl _) _)) (ints_one _) h0 (by unfold maxLen; omega) (by omega) (by simp) ?_)
  intro v1 w1 hown hbel _
  have O1 : Hid (OwnI w1 w.heap.size v1 (up c0)) := by
    unfold Hid OwnI
    rw [HLU.out]
    simpa using hown
  have B1 : Hid (Below w.heap.size w w1) := ((Below.refl _ _).alloc (Nat.le_refl _) _).trans (hbel _ (Nat.le_refl _))
  clear hown hbel HCL
  obtain ⟨gx, q, hv, hgx, hnq, ho⟩ : ∃ g cap, v1 = .slice (some ⟨g, 0, none⟩) (up c0).length cap ∧ w.heap.size ≤ g ∧ (up c0).length ≤ cap ∧ IsO w1 g 2 (up c0) := by
    rcases O1.out.split with ⟨_, h⟩ | h
    · have := HLU.out
      rw [h] at this
      simp at this
      omega
    · exact h
  rw [HLU.out] at hv
  subst hv
  have X1 := hideH ho
  clear ho hnq O1
  go_wp2_with fail
  go_loopw [4, 5, 6] (fun _ _ _ wr => ∃ c : List Nat, c.length = n ∧ (∀ y ∈ c, y ≤ 10000) ∧ R = lenOf c ∧ IsO wr gx 2 (up c) ∧ Below w.heap.size w wr) (fun _ _ _ wr => sumAt wr (.slice (some ⟨gx, 0, none⟩) n q))
  case atStart => exact ⟨c0, HN.out, HM.out, HRR.out, X1.out, B1.out⟩
  case round =>
    obtain ⟨c, hcn, hcm, hcr, hxo, hbw⟩ := hrel
    have CN := hideH hcn
    have CM := hideH hcm
    have CR := hideH hcr
    have XO := hideH hxo
    have BW := hideH hbw
    have hzw := hbw.size
    have hgz := hxo.lt
    have HOM : Hid (okay (depths c) = decide (mxN (depths c) n ≤ 12)) := by
      unfold Hid
      rw [okay_mx, depths_length, hcn]
    clear hcn hcm hcr hxo hbw
    go_wp2_with fail
    refine (lensS_any (some ⟨gx, 0, none⟩) q n c wr (XO.out.ints hgz) CN.out h257 CM.out).mono ?_
    rintro e w3 ⟨rfl, hi3, hb3⟩
    have I3 := hideH hi3
    have B3 := hideH (BW.out.trans (hb3.mono hzw))
    have X3 := hideH (XO.out.below hb3 hgz)
    have E3 := hideH (sumAt_ints (q := q) (XO.out.ints hgz) CN.out)
    clear hi3 hb3
    by_cases hok : mxN (depths c) n ≤ 12
    · have hok' : ((mxN (depths c) n : Nat) : Int) ≤ 12 := by omega
      have HF : Hid (R = depths c) := CR.out.trans (lenOf_yes c (by rw [HOM.out]; exact decide_eq_true hok))
      clear HOM hok
      generalize mxN (depths c) n = mx at hok' ⊢
      go_wp2_with fail
      go_ret
      exact ⟨_, rfl, by rw [HF.out]; exact own_of I3.out hzw (by rw [up_length, depths_length, CN.out]) (by omega), B3.out⟩
    · have hok' : decide (((mxN (depths c) n : Nat) : Int) ≤ 12) = false := by simp; omega
      have hno : ¬ okay (depths c) = true := by rw [HOM.out]; simp; omega
      have HNO := hideH (lenOf_no c (by have := CN.out; omega) hno)
      have HLT := hideH (flat_more c (by have := CN.out; omega) hno)
      clear HOM hok hno I3
      generalize mxN (depths c) n = mx at hok' ⊢
      have hz3 := B3.out.size
      go_wp2_with fail
      go_loopw [6] (fun iv wr => ∃ j : Nat, iv = .int .i64 j ∧ j ≤ n ∧ IsO wr gx 2 (up (midG c j)) ∧ Below w.heap.size w wr) (fun iv _ => n - (intOf iv).toNat)
      case atStart => exact ⟨0, rfl, Nat.zero_le _, by rw [midG_zero]; exact X3.out, B3.out⟩
      case round =>
        obtain ⟨j, rfl, hj, hoj, hbj⟩ := hrel
        have OJ := hideH hoj
        have BJ := hideH hbj
        clear hoj hbj
        by_cases hlt : j < n
        · have hjc : j < c.length := by rw [CN.out]; exact hlt
          have hml : j < (midG c j).length := by rw [midG_length c j (by omega)]; exact hjc
          have ci : wr.cell? ⟨gx, j, none⟩ = some (.int .i64 (c[j] : Nat)) := by
            rw [OJ.out.cell (j := j) (by rw [up_length]; exact hml), up_at _ _ hml, List.getD_eq_getElem?_getD, midG_at c j hjc]
            rfl
          have zl := OJ.out.frozen j
          have HY := hideH (midG_yes c j hjc)
          have HNN := hideH (midG_no c j hjc)
          have hcm := CM.out c[j] (List.getElem_mem hjc)
          have hjl : (j : Int) < n := by omega
          generalize c[j] = cj at ci HY HNN hcm
          clear hml hjc
          by_cases hc0 : 0 < cj
          · have h0' : (0 : Int) < (cj : Int) := by omega
            have hq : (cj : Int).tdiv 2 = ((cj / 2 : Nat) : Int) := by rw [Int.tdiv_eq_ediv_of_nonneg (by omega)]; rfl
            go_wp2_with fail
            go_roundw
            case rel =>
              refine ⟨j + 1, by go_num, by omega, ?_, BJ.out.setCell (by simp; omega) _⟩
              rw [← HY.out hc0, ← up_set]
              exact OJ.out.set j _
            case measure => simp [intOf]; omega
          · have h0' : cj = 0 := by omega
            subst h0'
            go_wp2_with fail
            go_roundw
            case rel => exact ⟨j + 1, by go_num, by omega, by rw [← HNN.out hc0]; exact OJ.out, BJ.out⟩
            case measure => simp [intOf]; omega
        · obtain rfl : j = n := by omega
          have OF : Hid (IsO wr gx 2 (up (flat c))) := by
            have := OJ.out
            rw [← CN.out, midG_all] at this
            exact this
          have FN : Hid ((flat c).length = j) := by rw [flat_length]; exact CN.out
          go_wp2_with fail
          go_roundw
          case rel => exact ⟨flat c, FN.out, flat_small c CM.out, CR.out.trans HNO.out, OF.out, BJ.out⟩
          case measure =>
            have e2 := sumAt_ints (q := q) (OF.out.ints OF.out.lt) FN.out
            have e3 := HLT.out
            rw [← E3.out, ← e2] at e3
            exact e3

theorem own_none (W : World) : OwnI (W.alloc (.cells #[] 2)) W.heap.size (.slice (some ⟨W.heap.size, 0, none⟩) 0 0) [] :=
  ⟨rfl, .inr ⟨W.heap.size, 0, #[], rfl, Nat.le_refl _, heap_alloc_new W _, Nat.le_refl _, by unfold maxLen; omega, rfl, rfl⟩⟩

set_option maxRecDepth 100000 in
set_option maxHeartbeats 600000 in
theorem lengths_spec (l : List Int) (a : Option Addr) (cap B : Nat) (w : World) (h : Ints w w.heap.size a l) (_ : B ≤ w.heap.size) (hl : l.length ≤ 1048576) :
    Calls Try.prog 21 #[.slice a l.length cap] w fun e w' => ∃ v, e = .returned v ∧ OwnI w' w.heap.size v (lensR l) ∧ Below w.heap.size w w' := by
  have HW := hideH (counts_any a cap l.length l w h rfl hl)
  cases hw : within l 10000 with
  | false =>
    have HR : Hid (lensR l = []) := if_neg (by rw [hw]; decide)
    rw [hw] at HW
    generalize l.length = n at HW hl ⊢
    by_cases h4 : 400 < n
    · have h4' : (400 : Int) < n := by omega
      go_enter Try.func21, Try.ntmps21
      go_wp2_with fail
      go_ret
      exact ⟨_, rfl, by rw [HR.out]; exact own_none w, (Below.refl _ _).alloc (Nat.le_refl _) _⟩
    · have h4' : decide ((400 : Int) < n) = false := by simp; omega
      go_enter Try.func21, Try.ntmps21
      go_wp2_with fail
      refine HW.out.mono ?_
      rintro e w1 ⟨rfl, hw1⟩
      subst w1
      go_wp2_with fail
      go_ret
      exact ⟨_, rfl, by rw [HR.out]; exact own_none w, (Below.refl _ _).alloc (Nat.le_refl _) _⟩
  | true =>
    have hlen := (within_yes hw).1
    have hup := up_nats l 10000 hw
    have HR : Hid (lensR l = up (lenOf (nats l))) := if_pos hw
    have HI : Hid (Ints w w.heap.size a (up (nats l))) := by rw [hup]; exact h
    have HM : Hid (∀ x ∈ nats l, x ≤ 10000) := by
      intro x hx
      obtain ⟨y, hy, rfl⟩ := List.mem_map.1 hx
      have := (within_yes hw).2 y hy
      omega
    have HN : Hid ((nats l).length = l.length) := List.length_map ..
    rw [hw] at HW
    rw [HR.out]
    have HO : Hid (Calls Try.prog 86 #[.slice a l.length cap] w fun e w' => ∃ v, e = .returned v ∧ OwnI w' w.heap.size v (up (lenOf (nats l))) ∧ Below w.heap.size w w') := by
      by_cases h0 : l.length = 0
      · have hn0 : nats l = [] := List.eq_nil_of_length_eq_zero (by rw [HN.out, h0])
        have : up (lenOf (nats l)) = [] := by
          rw [hn0]
          exact List.eq_nil_of_length_eq_zero (by rw [up_length]; rfl)
        rw [this, h0]
        exact ofS_nil a cap w
      · exact ofS_any a cap l.length (nats l) w HI.out HN.out (by omega) hlen HM.out
    generalize up (lenOf (nats l)) = q at HO
    generalize l.length = n at HW hlen HO ⊢
    clear hw hup h hl HR HI HM HN
    have h4' : decide ((400 : Int) < n) = false := by simp; omega
    go_enter Try.func21, Try.ntmps21
    go_wp2_with fail
    refine HW.out.mono ?_
    rintro e w1 ⟨rfl, hw1⟩
    subst w1
    go_wp2_with fail
    refine HO.out.mono ?_
    rintro e w2 ⟨v2, rfl, ho2, hb2⟩
    have O2 := hideH ho2
    have B2 := hideH hb2
    clear ho2 hb2
    go_wp2_with fail
    go_ret
    exact ⟨_, rfl, O2.out, B2.out⟩
theorem lengths_impl2 (l : List Int) (a : Option Addr) (cap B : Nat) (w : World) (h : Ints w w.heap.size a l) (_ : B ≤ w.heap.size) (hl : l.length ≤ 1048576) :
    Calls Try.prog 9 #[.slice a l.length cap] w fun e w' => ∃ v, e = .returned v ∧ OwnI w' w.heap.size v (lensR l) ∧ Below w.heap.size w w' := lengths_impl a cap l w h hl
theorem ofN_length (f : Nat) : ∀ c : List Nat, (ofN f c).length = c.length := by
  induction f with
  | zero => exact depths_length
  | succ f ih =>
    intro c
    rw [ofN]
    split
    · exact depths_length c
    · rw [ih, flat_length]
theorem lensR_length (l : List Int) (hn : l.length ≤ 1048576) : (lensR l).length ≤ 1048576 := by
  unfold lensR
  split
  · unfold lenOf nats
    rw [up_length, ofN_length, List.length_map]
    exact hn
  · exact Nat.zero_le _
end Go.Proofs.Ytmkpakhpjgocjaa.Hf
