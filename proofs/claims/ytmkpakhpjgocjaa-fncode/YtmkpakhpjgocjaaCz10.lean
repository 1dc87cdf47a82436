/- Texts put together: HuSpec, HuKraft, HuMono. -/
import Derived.Test.YtmkpakhpjgocjaaCz9
/- The walks of l04Of and of the specification's LengthsOf. -/
namespace Go.Proofs.Ytmkpakhpjgocjaa.Hf
open Go.RowKit
open Go.Proofs.Ytmkpakhpjgocjaa.In (IsI IsO irow Ints OwnI)
open Go.Proofs.Ytmkpakhpjgocjaa.Bi (within within_yes)
open Go.Proofs.Ytmkpakhpjgocjaa.Ap (Own0 wpList_append_own0k)

def midG (c : List Nat) (j : Nat) : List Nat := (flat c).take j ++ c.drop j
theorem midG_length (c : List Nat) (j : Nat) (h : j ≤ c.length) : (midG c j).length = c.length := by
  unfold midG
  rw [List.length_append, List.length_take, flat_length, List.length_drop]
  omega
theorem midG_at (c : List Nat) (j : Nat) (h : j < c.length) : (midG c j)[j]? = some c[j] := by
  unfold midG
  have hl : ((flat c).take j).length = j := by rw [List.length_take, flat_length]; omega
  rw [List.getElem?_append_right (by omega), hl, Nat.sub_self, List.getElem?_drop, Nat.add_zero, List.getElem?_eq_getElem h]
theorem midG_next (c : List Nat) (j : Nat) (h : j < c.length) : (midG c j).set j (if 0 < c[j] then c[j] / 2 + 1 else 0) = midG c (j + 1) := by
  have hf : (flat c)[j]'(by rw [flat_length]; exact h) = if 0 < c[j] then c[j] / 2 + 1 else 0 := by
    unfold flat
    rw [List.getElem_map]
  have hl : ((flat c).take j).length = j := by rw [List.length_take, flat_length]; omega
  unfold midG
  rw [← hf, List.set_append, if_neg (by omega), hl, Nat.sub_self, List.drop_eq_getElem_cons h, List.set_cons_zero, List.take_add_one, List.getElem?_eq_getElem (by rw [flat_length]; exact h), List.append_assoc]
  rfl
theorem midG_yes (c : List Nat) (j : Nat) (h : j < c.length) (h0 : 0 < c[j]) : (midG c j).set j (c[j] / 2 + 1) = midG c (j + 1) := by
  have := midG_next c j h
  rw [if_pos h0] at this
  exact this
theorem midG_no (c : List Nat) (j : Nat) (h : j < c.length) (h0 : ¬ 0 < c[j]) : midG c j = midG c (j + 1) := by
  have := midG_next c j h
  rw [if_neg h0] at this
  rw [← this]
  have e : (midG c j)[j]? = some 0 := by rw [midG_at c j h]; congr 1; omega
  obtain ⟨h1, h2⟩ := List.getElem?_eq_some_iff.1 e
  apply List.ext_getElem?
  intro i
  rw [List.getElem?_set]
  by_cases hi : j = i
  · subst hi
    rw [if_pos rfl, if_pos h1, e]
  · rw [if_neg hi]
theorem midG_zero (c : List Nat) : midG c 0 = c := by
  unfold midG
  simp
theorem midG_all (c : List Nat) : midG c c.length = flat c := by
  unfold midG
  rw [List.drop_length, List.append_nil, List.take_of_length_le (by rw [flat_length]; exact Nat.le_refl _)]
theorem up_news {W : World} {b off : Nat} {l : List Int} (hc : ∀ j (h : j < l.length), W.cell? ⟨b, off + j, none⟩ = some (.int .i64 l[j])) : ∀ j u, (l.map (Value.int .i64))[j]? = some u → W.cell? ((⟨b, off, none⟩ : Addr).add j) = some u := by
  intro j u hu
  have hj : j < l.length := by
    have := (List.getElem?_eq_some_iff.1 hu).1
    rwa [List.length_map] at this
  rw [List.getElem?_map, List.getElem?_eq_getElem hj] at hu
  rw [Addr.add_lit, hc j hj]
  exact hu
theorem ints_one (l : List Int) : ∀ u ∈ l.map (Value.int .i64), u.oneCell' = true := by
  intro u hu
  obtain ⟨x, _, rfl⟩ := List.mem_map.1 hu
  rfl

set_option maxRecDepth 100000 in
set_option maxHeartbeats 600000 in
theorem ofS_nil (a : Option Addr) (cap : Nat) (w : World) :
    Calls Try.prog 86 #[.slice a 0 cap] w fun e w' => ∃ v, e = .returned v ∧ OwnI w' w.heap.size v [] ∧ Below w.heap.size w w' := by
  have H0 : Hid (mxN (depths []) 0 = 0) := rfl
  have HD : Hid ((up (depths [])) = []) := List.eq_nil_of_length_eq_zero (by rw [up_length, depths_length]; rfl)
  have HL := hideH (fun (W : World) => lensS_any (some ⟨w.heap.size, 0, none⟩) 0 0 [] W (.inl rfl) rfl (by omega) (fun x hx => absurd hx (List.not_mem_nil)))
  cases a with
  | none =>
    go_enter Try.func86, Try.ntmps86
    go_wp2_with fail
    go_loopw [4, 5, 6] (fun _ _ _ wr => Below w.heap.size w wr) (fun _ _ _ _ => 0)
    case atStart => exact (Below.refl _ _).alloc (Nat.le_refl _) _
    case round =>
      have BW := hideH hrel
      have hzw := hrel.size
      clear hrel
      go_wp2_with fail
      refine (HL.out wr).mono ?_
      rintro e w3 ⟨rfl, hi3, hb3⟩
      rw [H0.out]
      have I3 := hideH hi3
      have B3 := hideH (BW.out.trans (hb3.mono hzw))
      clear hi3 hb3
      go_wp2_with fail
      go_ret
      exact ⟨_, rfl, by rw [← HD.out]; exact own_of I3.out hzw (by rw [up_length, depths_length]; rfl) (by omega), B3.out⟩
  | some a =>
    go_enter Try.func86, Try.ntmps86
    go_wp2_with fail
    go_loopw [4, 5, 6] (fun _ _ _ wr => Below w.heap.size w wr) (fun _ _ _ _ => 0)
    case atStart => exact (Below.refl _ _).alloc (Nat.le_refl _) _
    case round =>
      have BW := hideH hrel
      have hzw := hrel.size
      clear hrel
      go_wp2_with fail
      refine (HL.out wr).mono ?_
      rintro e w3 ⟨rfl, hi3, hb3⟩
      rw [H0.out]
      have I3 := hideH hi3
      have B3 := hideH (BW.out.trans (hb3.mono hzw))
      clear hi3 hb3
      go_wp2_with fail
      go_ret
      exact ⟨_, rfl, by rw [← HD.out]; exact own_of I3.out hzw (by rw [up_length, depths_length]; rfl) (by omega), B3.out⟩

set_option maxRecDepth 100000 in
set_option maxHeartbeats 600000 in
theorem ofS_any (a : Option Addr) (cap n : Nat) (c0 : List Nat) (w : World) (h : Ints w w.heap.size a (up c0)) (hn : c0.length = n) (h0 : 0 < n) (h257 : n ≤ 257) (hm : ∀ x ∈ c0, x ≤ 10000) :
    Calls Try.prog 86 #[.slice a n cap] w fun e w' => ∃ v, e = .returned v ∧ OwnI w' w.heap.size v (up (lenOf c0)) ∧ Below w.heap.size w w' := by
  obtain ⟨i0, hi, hz0, hz1, hz2⟩ := info_parts In.Try.infoI2
  have HN := hideH hn
  obtain ⟨b, off, rfl, hbz, hcl⟩ := h.some (by rw [up_length]; omega)
  have HCL := hideH (fun (W : World) (hW : Below w.heap.size w W) => up_news (W := W) fun j hj => (hW.cell (p := ⟨b, off + j, none⟩) hbz).trans (hcl j hj))
  have HM := hideH hm
  have HLU : Hid ((up c0).length = n) := by unfold Hid; rw [up_length]; exact hn
  obtain ⟨R, hR⟩ : ∃ R, R = lenOf c0 := ⟨_, rfl⟩
  have HRR := hideH hR
  rw [← hR]
  clear hR hm hn h hcl
  go_enter Try.func86, Try.ntmps86
  go_wp2_with (at_builtin; refine wpList_append_own0k _ rfl (.tmp 7) (.tmp 8) 23 rfl w.heap.size 2 i0 (.int .i64 0) 1 8 Try.underlying23 hi hz0 hz1 hz2 rfl (by decide) _ 0 [] rfl (.inl ⟨_, rfl, rfl, rfl⟩) ⟨b, off, none⟩ n cap ((up c0).map (Value.int .i64)) rfl (by rw [List.length_map, HLU.out]; omega) (HCL.out _ ((Below.refl _ _).alloc (Nat.le_refl _) _)) (ints_one _) h0 (by unfold maxLen; omega) (by omega) (by simp) ?_)
  intro v1 w1 hown hbel _
  have O1 : Hid (OwnI w1 w.heap.size v1 (up c0)) := by
    unfold Hid OwnI
    rw [HLU.out]
    simpa using hown
  have B1 : Hid (Below w.heap.size w w1) := ((Below.refl _ _).alloc (Nat.le_refl _) _).trans (hbel _ (Nat.le_refl _))
  clear hown hbel HCL
  obtain ⟨gx, q, hv, hgx, hnq, ho⟩ : ∃ g cap, v1 = .slice (some ⟨g, 0, none⟩) (up c0).length cap ∧ w.heap.size ≤ g ∧ (up c0).length ≤ cap ∧ IsO w1 g 2 (up c0) := by
    rcases O1.out.split with ⟨_, h⟩ | h
    · have := HLU.out
      rw [h] at this
      simp at this
      omega
    · exact h
  rw [HLU.out] at hv
  subst hv
  have X1 := hideH ho
  clear ho hnq O1
  go_wp2_with fail
  go_loopw [4, 5, 6] (fun _ _ _ wr => ∃ c : List Nat, c.length = n ∧ (∀ y ∈ c, y ≤ 10000) ∧ R = lenOf c ∧ IsO wr gx 2 (up c) ∧ Below w.heap.size w wr) (fun _ _ _ wr => sumAt wr (.slice (some ⟨gx, 0, none⟩) n q))
  case atStart => exact ⟨c0, HN.out, HM.out, HRR.out, X1.out, B1.out⟩
  case round =>
    obtain ⟨c, hcn, hcm, hcr, hxo, hbw⟩ := hrel
    have CN := hideH hcn
    have CM := hideH hcm
    have CR := hideH hcr
    have XO := hideH hxo
    have BW := hideH hbw
    have hzw := hbw.size
    have hgz := hxo.lt
    have HOM : Hid (okay (depths c) = decide (mxN (depths c) n ≤ 12)) := by
      unfold Hid
      rw [okay_mx, depths_length, hcn]
    clear hcn hcm hcr hxo hbw
    go_wp2_with fail
    refine (lensS_any (some ⟨gx, 0, none⟩) q n c wr (XO.out.ints hgz) CN.out h257 CM.out).mono ?_
    rintro e w3 ⟨rfl, hi3, hb3⟩
    have I3 := hideH hi3
    have B3 := hideH (BW.out.trans (hb3.mono hzw))
    have X3 := hideH (XO.out.below hb3 hgz)
    have E3 := hideH (sumAt_ints (q := q) (XO.out.ints hgz) CN.out)
    clear hi3 hb3
    by_cases hok : mxN (depths c) n ≤ 12
    · have hok' : ((mxN (depths c) n : Nat) : Int) ≤ 12 := by omega
      have HF : Hid (R = depths c) := CR.out.trans (lenOf_yes c (by rw [HOM.out]; exact decide_eq_true hok))
      clear HOM hok
      generalize mxN (depths c) n = mx at hok' ⊢
      go_wp2_with fail
      go_ret
      exact ⟨_, rfl, by rw [HF.out]; exact own_of I3.out hzw (by rw [up_length, depths_length, CN.out]) (by omega), B3.out⟩
    · have hok' : decide (((mxN (depths c) n : Nat) : Int) ≤ 12) = false := by simp; omega
      have hno : ¬ okay (depths c) = true := by rw [HOM.out]; simp; omega
      have HNO := hideH (lenOf_no c (by have := CN.out; omega) hno)
      have HLT := hideH (flat_more c (by have := CN.out; omega) hno)
      clear HOM hok hno I3
      generalize mxN (depths c) n = mx at hok' ⊢
      have hz3 := B3.out.size
      go_wp2_with fail
      go_loopw [6] (fun iv wr => ∃ j : Nat, iv = .int .i64 j ∧ j ≤ n ∧ IsO wr gx 2 (up (midG c j)) ∧ Below w.heap.size w wr) (fun iv _ => n - (intOf iv).toNat)
      case atStart => exact ⟨0, rfl, Nat.zero_le _, by rw [midG_zero]; exact X3.out, B3.out⟩
      case round =>
        obtain ⟨j, rfl, hj, hoj, hbj⟩ := hrel
        have OJ := hideH hoj
        have BJ := hideH hbj
        clear hoj hbj
        by_cases hlt : j < n
        · have hjc : j < c.length := by rw [CN.out]; exact hlt
          have hml : j < (midG c j).length := by rw [midG_length c j (by omega)]; exact hjc
          have ci : wr.cell? ⟨gx, j, none⟩ = some (.int .i64 (c[j] : Nat)) := by
            rw [OJ.out.cell (j := j) (by rw [up_length]; exact hml), up_at _ _ hml, List.getD_eq_getElem?_getD, midG_at c j hjc]
            rfl
          have zl := OJ.out.frozen j
          have HY := hideH (midG_yes c j hjc)
          have HNN := hideH (midG_no c j hjc)
          have hcm := CM.out c[j] (List.getElem_mem hjc)
          have hjl : (j : Int) < n := by omega
          generalize c[j] = cj at ci HY HNN hcm
          clear hml hjc
          by_cases hc0 : 0 < cj
          · have h0' : (0 : Int) < (cj : Int) := by omega
            have hq : (cj : Int).tdiv 2 = ((cj / 2 : Nat) : Int) := by rw [Int.tdiv_eq_ediv_of_nonneg (by omega)]; rfl
            go_wp2_with fail
            go_roundw
            case rel =>
              refine ⟨j + 1, by go_num, by omega, ?_, BJ.out.setCell (by simp; omega) _⟩
              rw [← HY.out hc0, ← up_set]
              exact OJ.out.set j _
            case measure => simp [intOf]; omega
          · have h0' : cj = 0 := by omega
            subst h0'
            go_wp2_with fail
            go_roundw
            case rel => exact ⟨j + 1, by go_num, by omega, by rw [← HNN.out hc0]; exact OJ.out, BJ.out⟩
            case measure => simp [intOf]; omega
        · obtain rfl : j = n := by omega
          have OF : Hid (IsO wr gx 2 (up (flat c))) := by
            have := OJ.out
            rw [← CN.out, midG_all] at this
            exact this
          have FN : Hid ((flat c).length = j) := by rw [flat_length]; exact CN.out
          go_wp2_with fail
          go_roundw
          case rel => exact ⟨flat c, FN.out, flat_small c CM.out, CR.out.trans HNO.out, OF.out, BJ.out⟩
          case measure =>
            have e2 := sumAt_ints (q := q) (OF.out.ints OF.out.lt) FN.out
            have e3 := HLT.out
            rw [← E3.out, ← e2] at e3
            exact e3

theorem own_none (W : World) : OwnI (W.alloc (.cells #[] 2)) W.heap.size (.slice (some ⟨W.heap.size, 0, none⟩) 0 0) [] :=
  ⟨rfl, .inr ⟨W.heap.size, 0, #[], rfl, Nat.le_refl _, heap_alloc_new W _, Nat.le_refl _, by unfold maxLen; omega, rfl, rfl⟩⟩

set_option maxRecDepth 100000 in
set_option maxHeartbeats 600000 in
theorem lengths_spec (l : List Int) (a : Option Addr) (cap B : Nat) (w : World) (h : Ints w w.heap.size a l) (_ : B ≤ w.heap.size) (hl : l.length ≤ 1048576) :
    Calls Try.prog 21 #[.slice a l.length cap] w fun e w' => ∃ v, e = .returned v ∧ OwnI w' w.heap.size v (lensR l) ∧ Below w.heap.size w w' := by
  have HW := hideH (counts_any a cap l.length l w h rfl hl)
  cases hw : within l 10000 with
  | false =>
    have HR : Hid (lensR l = []) := if_neg (by rw [hw]; decide)
    rw [hw] at HW
    generalize l.length = n at HW hl ⊢
    by_cases h4 : 400 < n
    · have h4' : (400 : Int) < n := by omega
      go_enter Try.func21, Try.ntmps21
      go_wp2_with fail
      go_ret
      exact ⟨_, rfl, by rw [HR.out]; exact own_none w, (Below.refl _ _).alloc (Nat.le_refl _) _⟩
    · have h4' : decide ((400 : Int) < n) = false := by simp; omega
      go_enter Try.func21, Try.ntmps21
      go_wp2_with fail
      refine HW.out.mono ?_
      rintro e w1 ⟨rfl, hw1⟩
      subst w1
      go_wp2_with fail
      go_ret
      exact ⟨_, rfl, by rw [HR.out]; exact own_none w, (Below.refl _ _).alloc (Nat.le_refl _) _⟩
  | true =>
    have hlen := (within_yes hw).1
    have hup := up_nats l 10000 hw
    have HR : Hid (lensR l = up (lenOf (nats l))) := if_pos hw
    have HI : Hid (Ints w w.heap.size a (up (nats l))) := by rw [hup]; exact h
    have HM : Hid (∀ x ∈ nats l, x ≤ 10000) := by
      intro x hx
      obtain ⟨y, hy, rfl⟩ := List.mem_map.1 hx
      have := (within_yes hw).2 y hy
      omega
    have HN : Hid ((nats l).length = l.length) := List.length_map ..
    rw [hw] at HW
    rw [HR.out]
    have HO : Hid (Calls Try.prog 86 #[.slice a l.length cap] w fun e w' => ∃ v, e = .returned v ∧ OwnI w' w.heap.size v (up (lenOf (nats l))) ∧ Below w.heap.size w w') := by
      by_cases h0 : l.length = 0
      · have hn0 : nats l = [] := List.eq_nil_of_length_eq_zero (by rw [HN.out, h0])
        have : up (lenOf (nats l)) = [] := by
          rw [hn0]
          exact List.eq_nil_of_length_eq_zero (by rw [up_length]; rfl)
        rw [this, h0]
        exact ofS_nil a cap w
      · exact ofS_any a cap l.length (nats l) w HI.out HN.out (by omega) hlen HM.out
    generalize up (lenOf (nats l)) = q at HO
    generalize l.length = n at HW hlen HO ⊢
    clear hw hup h hl HR HI HM HN
    have h4' : decide ((400 : Int) < n) = false := by simp; omega
    go_enter Try.func21, Try.ntmps21
    go_wp2_with fail
    refine HW.out.mono ?_
    rintro e w1 ⟨rfl, hw1⟩
    subst w1
    go_wp2_with fail
    refine HO.out.mono ?_
    rintro e w2 ⟨v2, rfl, ho2, hb2⟩
    have O2 := hideH ho2
    have B2 := hideH hb2
    clear ho2 hb2
    go_wp2_with fail
    go_ret
    exact ⟨_, rfl, O2.out, B2.out⟩
theorem lengths_impl2 (l : List Int) (a : Option Addr) (cap B : Nat) (w : World) (h : Ints w w.heap.size a l) (_ : B ≤ w.heap.size) (hl : l.length ≤ 1048576) :
    Calls Try.prog 9 #[.slice a l.length cap] w fun e w' => ∃ v, e = .returned v ∧ OwnI w' w.heap.size v (lensR l) ∧ Below w.heap.size w w' := lengths_impl a cap l w h hl
theorem ofN_length (f : Nat) : ∀ c : List Nat, (ofN f c).length = c.length := by
  induction f with
  | zero => exact depths_length
  | succ f ih =>
    intro c
    rw [ofN]
    split
    · exact depths_length c
    · rw [ih, flat_length]
theorem lensR_length (l : List Int) (hn : l.length ≤ 1048576) : (lensR l).length ≤ 1048576 := by
  unfold lensR
  split
  · unfold lenOf nats
    rw [up_length, ofN_length, List.length_map]
    exact hn
  · exact Nat.zero_le _
end Go.Proofs.Ytmkpakhpjgocjaa.Hf

/- Plain mathematics of lengths: of counts that are not all 0 they are whole, and just the symbols that count have one. -/
namespace Go.Proofs.Ytmkpakhpjgocjaa.Hf
open Go.Proofs.Ytmkpakhpjgocjaa.Bi (csum above part whole right within within_of csum_snoc above_snoc)

/-- what symbols take, in parts of two to a power -/
def kr (K : Nat) (d s : List Nat) : Nat := (s.map fun k => 2 ^ (K - dep d k)).sum
theorem kr_append (K : Nat) (d s t : List Nat) : kr K d (s ++ t) = kr K d s + kr K d t := by
  unfold kr
  rw [List.map_append, List.sum_append]
theorem kr_perm (K : Nat) (d : List Nat) {s t : List Nat} (p : s.Perm t) : kr K d s = kr K d t := (p.map _).sum_nat
theorem kr_congr (K : Nat) (d d' s : List Nat) (h : ∀ k ∈ s, dep d' k = dep d k) : kr K d' s = kr K d s := by
  unfold kr
  rw [List.map_congr_left fun k hk => by rw [h k hk]]
theorem kr_up (K : Nat) (d d' s : List Nat) (h : ∀ k ∈ s, dep d' k = dep d k + 1 ∧ dep d k + 1 ≤ K) : 2 * kr K d' s = kr K d s := by
  induction s with
  | nil => rfl
  | cons k s ih =>
    have h1 := ih fun x hx => h x (List.mem_cons_of_mem _ hx)
    obtain ⟨h2, h3⟩ := h k (List.mem_cons_self ..)
    unfold kr at h1 ⊢
    rw [List.map_cons, List.sum_cons, List.map_cons, List.sum_cons, Nat.mul_add, h1, h2]
    have : 2 * 2 ^ (K - (dep d k + 1)) = 2 ^ (K - dep d k) := by
      rw [show K - dep d k = (K - (dep d k + 1)) + 1 by omega, Nat.pow_succ]
      omega
    rw [this]
def KrInv (K : Nat) (l : List Tree) (d : List Nat) : Prop := ∀ t ∈ l, kr K d t.2 = 2 ^ K
def alls (l : List Tree) : List Nat := l.flatMap fun t => t.2
theorem alls_perm {l l' : List Tree} (p : l.Perm l') : (alls l).Perm (alls l') := p.flatMap_right _
theorem alls_join (l : List Tree) (h : 2 ≤ l.length) : (alls (join l)).Perm (alls l) := by
  have e : alls (both l :: rest2 l) = alls (first l :: second l :: rest2 l) := by
    unfold alls both
    rw [List.flatMap_cons, List.flatMap_cons, List.flatMap_cons, List.append_assoc]
  exact (alls_perm (join_perm l)).trans (e ▸ (alls_perm (two_perm l h)).symm)
theorem dep_join {l : List Tree} {d : List Nat} {n : Nat} (h : Inv l d n) (h2 : 2 ≤ l.length) (s : Nat) : dep (incs (incs d (first l).2) (second l).2) s = if s ∈ (first l).2 ++ (second l).2 then dep d s + 1 else dep d s := by
  have h' := h.perm (two_perm l h2)
  obtain ⟨pa, _⟩ := List.pairwise_cons.1 h'.pw
  exact two_dep d _ _ (h'.nd _ (List.mem_cons_self ..)) (h'.nd _ (List.mem_cons_of_mem _ (List.mem_cons_self ..))) (pa _ (List.mem_cons_self ..)).2.2 (h'.lt _ (List.mem_cons_self ..)) (h'.lt _ (List.mem_cons_of_mem _ (List.mem_cons_self ..))) s
theorem KrInv.join {K : Nat} {l : List Tree} {d : List Nat} {n : Nat} (hk : KrInv K l d) (h : Inv l d n) (h2 : 2 ≤ l.length) (hn : n ≤ K) : KrInv K (join l) (incs (incs d (first l).2) (second l).2) := by
  have hd := dep_join h h2
  have hj := h.join h2
  have hp := two_perm l h2
  have h' := h.perm hp
  obtain ⟨pa, pb'⟩ := List.pairwise_cons.1 h'.pw
  obtain ⟨pb, _⟩ := List.pairwise_cons.1 pb'
  have hup : ∀ s, s ∈ (first l).2 ++ (second l).2 → dep (incs (incs d (first l).2) (second l).2) s = dep d s + 1 ∧ dep d s + 1 ≤ K := by
    intro s hs
    have e := hd s
    rw [if_pos hs] at e
    refine ⟨e, ?_⟩
    have := hj.small s
    unfold dep at e ⊢
    omega
  intro t ht
  rcases List.mem_cons.1 ((join_perm l).mem_iff.1 ht) with rfl | hr
  · have h3 := kr_up K d _ (first l).2 fun k hk => hup k (List.mem_append_left _ hk)
    have h4 := kr_up K d _ (second l).2 fun k hk => hup k (List.mem_append_right _ hk)
    rw [hk _ (hp.mem_iff.2 (List.mem_cons_self ..))] at h3
    rw [hk _ (hp.mem_iff.2 (List.mem_cons_of_mem _ (List.mem_cons_self ..)))] at h4
    show kr K _ ((first l).2 ++ (second l).2) = _
    rw [kr_append]
    omega
  · rw [kr_congr K d _ t.2 fun k hk => ?_]
    · exact hk t (hp.mem_iff.2 (List.mem_cons_of_mem _ (List.mem_cons_of_mem _ hr)))
    · rw [hd, if_neg]
      intro hx
      rcases List.mem_append.1 hx with hx | hx
      · exact (pa t (List.mem_cons_of_mem _ hr)).2.2 k hx hk
      · exact (pb t hr).2.2 k hx hk
theorem run_kraft {K : Nat} (f : Nat) : ∀ (l : List Tree) (d : List Nat) (n : Nat), Inv l d n → n ≤ K → l.length ≤ f → 0 < l.length → KrInv K l d → kr K (run f l d) (alls l) = 2 ^ K := by
  induction f with
  | zero => intro l d n _ _ h1 h2; omega
  | succ f ih =>
    intro l d n h hn hf h0 hk
    rw [run]
    by_cases h1 : l.length ≤ 1
    · rw [if_pos h1]
      obtain ⟨t, rfl⟩ := List.length_eq_one_iff.1 (show l.length = 1 by omega)
      have := hk t (List.mem_singleton.2 rfl)
      unfold alls
      rw [List.flatMap_cons, List.flatMap_nil, List.append_nil]
      exact this
    · rw [if_neg h1]
      have hjl := join_length l (by omega)
      rw [← kr_perm K _ (alls_join l (by omega))]
      exact ih (join l) _ n (h.join (by omega)) hn (by omega) (by omega) (hk.join h (by omega) hn)
theorem run_out (f : Nat) : ∀ (l : List Tree) (d : List Nat) (n s : Nat), Inv l d n → s ∉ alls l → dep (run f l d) s = dep d s := by
  induction f with
  | zero => intro l d n s _ _; rfl
  | succ f ih =>
    intro l d n s h hs
    rw [run]
    by_cases h1 : l.length ≤ 1
    · rw [if_pos h1]
    · rw [if_neg h1, ih (join l) _ n s (h.join (by omega)) (fun hx => hs ((alls_join l (by omega)).mem_iff.1 hx)), dep_join h (by omega), if_neg]
      intro hx
      refine hs ((alls_perm (two_perm l (by omega))).mem_iff.2 ?_)
      unfold alls
      rw [List.flatMap_cons, List.flatMap_cons]
      rcases List.mem_append.1 hx with hx | hx
      · exact List.mem_append_left _ hx
      · exact List.mem_append_right _ (List.mem_append_left _ hx)
/-- the symbols that count -/
def syms (c : List Nat) (n : Nat) : List Nat := (List.range n).filter fun i => decide (0 < c.getD i 0)
theorem syms_succ (c : List Nat) (n : Nat) : syms c (n + 1) = if 0 < c.getD n 0 then syms c n ++ [n] else syms c n := by
  unfold syms
  rw [List.range_succ, List.filter_append, List.filter_cons, List.filter_nil]
  by_cases h : 0 < c.getD n 0
  · rw [if_pos h, if_pos (decide_eq_true h)]
  · rw [if_neg h, if_neg (by simpa using h), List.append_nil]
theorem alls_trees (c : List Nat) : ∀ n, alls (trees c n) = syms c n
  | 0 => rfl
  | n + 1 => by
    have ih := alls_trees c n
    rw [syms_succ, trees]
    split
    · unfold alls at ih ⊢
      rw [List.flatMap_append, ih]
      rfl
    · exact ih
theorem trees_syms (c : List Nat) : ∀ n, (trees c n).length = (syms c n).length
  | 0 => rfl
  | n + 1 => by
    have ih := trees_syms c n
    rw [syms_succ, trees]
    split
    · rw [List.length_append, List.length_append, ih]
      rfl
    · exact ih
theorem mem_syms {c : List Nat} {n i : Nat} : i ∈ syms c n ↔ i < n ∧ 0 < c.getD i 0 := by
  unfold syms
  rw [List.mem_filter, List.mem_range, decide_eq_true_eq]
theorem kr_pos (K : Nat) (d : List Nat) (s : List Nat) (h : 0 < s.length) : 0 < kr K d s := by
  cases s with
  | nil => exact absurd h (by decide)
  | cons k s =>
    unfold kr
    rw [List.map_cons, List.sum_cons]
    have := Nat.two_pow_pos (K - dep d k)
    omega
theorem kr_shift (K : Nat) (d s : List Nat) (hK : 12 ≤ K) (h : ∀ k ∈ s, dep d k ≤ 12) : kr K d s = 2 ^ (K - 12) * kr 12 d s := by
  unfold kr
  induction s with
  | nil => rfl
  | cons k s ih =>
    have h1 := h k (List.mem_cons_self ..)
    rw [List.map_cons, List.sum_cons, List.map_cons, List.sum_cons, ih (fun x hx => h x (List.mem_cons_of_mem _ hx)), Nat.mul_add, ← Nat.pow_add, show K - 12 + (12 - dep d k) = K - dep d k by omega]
theorem dep_okay {D : List Nat} (h : okay D = true) (i : Nat) : dep D i ≤ 12 := by
  unfold okay at h
  rw [List.all_eq_true] at h
  unfold dep
  by_cases hi : i < D.length
  · rw [List.getD_eq_getElem?_getD, List.getElem?_eq_getElem hi]
    exact of_decide_eq_true (h _ (List.getElem_mem hi))
  · rw [List.getD_eq_getElem?_getD, List.getElem?_eq_none (by omega)]
    exact Nat.zero_le _
/-- of two or more symbols -/
theorem depths_two (c : List Nat) (h2 : 2 ≤ (syms c c.length).length) (ho : okay (depths c) = true) : (∀ i, 0 < dep (depths c) i ↔ i ∈ syms c c.length) ∧ kr 12 (depths c) (syms c c.length) = 4096 := by
  have hinv := trees_inv c c.length (Nat.le_refl _)
  rw [List.take_length] at hinv
  have hl := trees_syms c c.length
  have hD : depths c = run (trees c c.length).length (trees c c.length) (zeros c.length) := by
    unfold depths
    rw [if_neg (by omega)]
  have hK : KrInv (c.sum + 12) (trees c c.length) (zeros c.length) := by
    intro t ht
    obtain ⟨j, _, _, rfl⟩ := trees_mem c c.length t ht
    unfold kr
    simp [dep_zeros]
  have hkr := run_kraft (K := c.sum + 12) _ (trees c c.length) (zeros c.length) c.sum hinv (by omega) (Nat.le_refl _) (by omega) hK
  rw [alls_trees, ← hD] at hkr
  refine ⟨fun i => ⟨fun hi => ?_, fun hi => ?_⟩, ?_⟩
  · refine Classical.byContradiction fun hn => ?_
    have := run_out (trees c c.length).length (trees c c.length) (zeros c.length) c.sum i hinv (by rw [alls_trees]; exact hn)
    rw [← hD, dep_zeros] at this
    omega
  · refine Nat.pos_of_ne_zero fun h0 => ?_
    have hp := List.perm_cons_erase hi
    rw [kr_perm _ _ hp] at hkr
    have hp2 := kr_pos (c.sum + 12) (depths c) ((syms c c.length).erase i) (by
      have := hp.length_eq
      rw [List.length_cons] at this
      omega)
    unfold kr at hkr hp2
    rw [List.map_cons, List.sum_cons, h0, Nat.sub_zero] at hkr
    omega
  · have hs := kr_shift (c.sum + 12) (depths c) (syms c c.length) (by omega) fun k _ => dep_okay ho k
    rw [hkr, Nat.pow_add, Nat.add_sub_cancel] at hs
    have := Nat.eq_of_mul_eq_mul_left (Nat.two_pow_pos c.sum) hs
    rw [← this]
theorem sums_syms (D : List Nat) (S : Nat → Bool) (h : ∀ i, i < D.length → (S i = true ↔ 0 < dep D i)) : ∀ k, k ≤ D.length → csum (up (D.take k)) = kr 12 D ((List.range k).filter S) ∧ above (up (D.take k)) = ((List.range k).filter S).length
  | 0, _ => ⟨rfl, rfl⟩
  | k + 1, hk => by
    obtain ⟨h1, h2⟩ := sums_syms D S h k (by omega)
    have hd : dep D k = D[k] := by
      unfold dep
      rw [List.getD_eq_getElem?_getD, List.getElem?_eq_getElem (by omega)]
      rfl
    have e : up (D.take (k + 1)) = up (D.take k) ++ [((D[k] : Nat) : Int)] := by
      rw [List.take_add_one, List.getElem?_eq_getElem (by omega)]
      unfold up
      rw [List.map_append]
      rfl
    rw [e, csum_snoc, above_snoc, h1, h2, List.range_succ, List.filter_append, kr_append, List.length_append, List.filter_cons, List.filter_nil]
    have hi := h k (by omega)
    rw [hd] at hi
    by_cases hp : 0 < D[k]
    · rw [if_pos (hi.2 hp)]
      unfold Bi.part kr
      rw [if_pos (by omega), if_pos (by omega), List.map_cons, List.map_nil, List.sum_cons, List.sum_nil, hd]
      exact ⟨rfl, rfl⟩
    · rw [if_neg (fun hx => hp (hi.1 hx))]
      unfold Bi.part
      rw [if_neg (by omega), if_neg (by omega)]
      exact ⟨rfl, rfl⟩
theorem syms_all (c : List Nat) (D : List Nat) (hl : D.length = c.length) (h : ∀ i, 0 < dep D i ↔ i ∈ syms c c.length) : csum (up D) = kr 12 D (syms c c.length) ∧ above (up D) = (syms c c.length).length := by
  have := sums_syms D (fun i => decide (0 < c.getD i 0)) (fun i hi => by
    rw [decide_eq_true_eq, h i, mem_syms]
    exact ⟨fun x => ⟨by omega, x⟩, fun x => x.2⟩) D.length (Nat.le_refl _)
  rw [List.take_length, hl] at this
  exact this
/-- of lengths at most 12 of just the symbols that count -/
theorem depths_one (c : List Nat) (h1 : (syms c c.length).length = 1) : (∀ i, 0 < dep (depths c) i ↔ i ∈ syms c c.length) ∧ kr 12 (depths c) (syms c c.length) = 2048 := by
  have hl := trees_syms c c.length
  obtain ⟨t, ht⟩ := List.length_eq_one_iff.1 (hl.trans h1)
  obtain ⟨j, hj, hc, hte⟩ := trees_mem c c.length t (by rw [ht]; exact List.mem_singleton.2 rfl)
  have hs : syms c c.length = [j] := by
    rw [← alls_trees, ht, hte]
    rfl
  have hD : depths c = (zeros c.length).set j 1 := by
    unfold depths
    rw [if_pos (by omega), ht, hte]
    rfl
  have hd : ∀ i, dep (depths c) i = if i = j then 1 else 0 := by
    intro i
    rw [hD]
    unfold dep
    rw [getD_set _ _ _ _ (by unfold zeros; rw [List.length_replicate]; exact hj)]
    split
    · rfl
    · exact dep_zeros _ _
  rw [hs]
  refine ⟨fun i => ?_, ?_⟩
  · rw [hd i, List.mem_singleton]
    split <;> rename_i e <;> simp [e]
  · unfold kr
    rw [List.map_cons, List.map_nil, List.sum_cons, List.sum_nil, hd j, if_pos rfl]
    rfl
theorem depths_none (c : List Nat) (h0 : (syms c c.length).length = 0) : ∀ i, 0 < dep (depths c) i ↔ i ∈ syms c c.length := by
  have hl := trees_syms c c.length
  have hs := List.eq_nil_of_length_eq_zero h0
  have ht : trees c c.length = [] := List.eq_nil_of_length_eq_zero (hl.trans h0)
  intro i
  rw [hs]
  unfold depths
  rw [ht, if_neg (by decide)]
  have : run ([] : List Tree).length [] (zeros c.length) = zeros c.length := rfl
  rw [this, dep_zeros]
  simp
theorem whole_depths (c : List Nat) (hl : c.length ≤ 257) (ho : okay (depths c) = true) : (∀ i, 0 < dep (depths c) i ↔ i ∈ syms c c.length) ∧ (0 < (syms c c.length).length → whole (up (depths c)) = true) := by
  have hw : within (up (depths c)) 12 = true := by rw [within_okay _ (by rw [depths_length]; exact hl)]; exact ho
  by_cases h0 : (syms c c.length).length = 0
  · exact ⟨depths_none c h0, fun h => by omega⟩
  · by_cases h1 : (syms c c.length).length = 1
    · obtain ⟨ha, hb⟩ := depths_one c h1
      obtain ⟨hc, hd⟩ := syms_all c (depths c) (depths_length c) ha
      refine ⟨ha, fun _ => ?_⟩
      unfold whole right
      rw [hw, hc, hb, hd, h1]
      rfl
    · obtain ⟨ha, hb⟩ := depths_two c (by omega) ho
      obtain ⟨hc, hd⟩ := syms_all c (depths c) (depths_length c) ha
      refine ⟨ha, fun _ => ?_⟩
      unfold whole right
      rw [hw, hc, hb]
      rfl
theorem syms_flat (c : List Nat) (n : Nat) : syms (flat c) n = syms c n := by
  unfold syms
  congr 1
  funext i
  have : (flat c).getD i 0 = if 0 < c.getD i 0 then c.getD i 0 / 2 + 1 else 0 := by
    unfold flat
    rw [List.getD_eq_getElem?_getD, List.getElem?_map, List.getD_eq_getElem?_getD]
    cases c[i]? with
    | none => rfl
    | some x => rfl
  rw [this]
  by_cases h : 0 < c.getD i 0
  · rw [if_pos h, decide_eq_true h, decide_eq_true (by omega)]
  · rw [if_neg h, decide_eq_false h]
    rfl
/-- the lengths of counts: just the symbols that count have one, at most 12, and if there is one they are whole -/
theorem lenOf_facts (c : List Nat) (hl : c.length ≤ 257) : (lenOf c).length = c.length ∧ (∀ i, dep (lenOf c) i ≤ 12) ∧ (∀ i, 0 < dep (lenOf c) i ↔ i ∈ syms c c.length) ∧ (0 < (syms c c.length).length → whole (up (lenOf c)) = true) := by
  obtain ⟨k, hk⟩ : ∃ k, c.sum = k := ⟨_, rfl⟩
  induction k using Nat.strongRecOn generalizing c with
  | _ k ih =>
    by_cases ho : okay (depths c) = true
    · rw [lenOf_yes c ho]
      exact ⟨depths_length c, dep_okay ho, whole_depths c hl ho⟩
    · have hlt := flat_more c hl ho
      rw [lenOf_no c hl ho]
      obtain ⟨h1, h2, h3, h4⟩ := ih (flat c).sum (by omega) (flat c) (by rw [flat_length]; exact hl) rfl
      rw [flat_length] at h1 h3 h4
      rw [syms_flat] at h3 h4
      exact ⟨h1, h2, h3, h4⟩
end Go.Proofs.Ytmkpakhpjgocjaa.Hf

/- Plain mathematics of lengths: what counts more has no longer length. -/
namespace Go.Proofs.Ytmkpakhpjgocjaa.Hf

/-- by how much the first goes deeper, at most as the second -/
def Dle (F d : List Nat) (x y : Tree) : Prop := ∀ s ∈ x.2, ∀ s' ∈ y.2, dep F s + dep d s' ≤ dep F s' + dep d s
def Dle1 (F d : List Nat) (x y : Tree) : Prop := ∀ s ∈ x.2, ∀ s' ∈ y.2, dep F s + dep d s' ≤ dep F s' + dep d s + 1
def Rel (F d : List Nat) (x y : Tree) : Prop := (x.1 ≤ y.1 → Dle F d y x) ∧ (y.1 < x.1 → Dle F d x y)
def Unif (F d : List Nat) (l : List Tree) : Prop := ∀ x ∈ l, Dle F d x x
def Near (F d : List Nat) (l : List Tree) : Prop := ∀ m, (∀ x ∈ l, m ≤ x.1) → ∀ y ∈ l, y.1 ≤ 2 * m → ∀ x ∈ l, Dle1 F d x y
theorem least_first (l : List Tree) : ∀ n j, j < least l n → wt l (least l n) < wt l j
  | 0, j, h => absurd h (Nat.not_lt_zero j)
  | n + 1, j, h => by
    rw [least] at h ⊢
    split at h
    · rename_i hw
      rw [if_pos hw]
      have hle := least_le l n
      by_cases hj : j < n
      · have := least_min l n j hj
        omega
      · omega
    · rename_i hw
      rw [if_neg hw]
      exact least_first l n j h
def unsh (a i : Nat) : Nat := if i < a then i else i - 1
theorem sh_unsh {a i : Nat} (h : i ≠ a) : shift a (unsh a i) = i := by
  unfold shift unsh
  by_cases h1 : i < a
  · rw [if_pos h1, if_pos h1]
  · rw [if_neg h1, if_neg (by omega)]
    omega
theorem sh_mono {a k k' : Nat} (h : k < k') : shift a k < shift a k' := by
  unfold shift
  split <;> split <;> omega
theorem sh_ne (a k : Nat) : shift a k ≠ a := by
  unfold shift
  split <;> omega
theorem erase_wt (l : List Tree) (a k : Nat) : wt (l.eraseIdx a) k = wt l (shift a k) := wt_shift l a k
theorem erase_get (l : List Tree) (a k : Nat) : (l.eraseIdx a)[k]? = l[shift a k]? := by
  unfold shift
  split
  · rw [List.getElem?_eraseIdx_of_lt (by assumption)]
  · rw [List.getElem?_eraseIdx_of_ge (by omega)]
theorem wt_get {l : List Tree} {i : Nat} {x : Tree} (h : l[i]? = some x) : wt l i = x.1 := by
  unfold wt
  rw [List.getD_eq_getElem?_getD, h]
  rfl
/-- where the two least stand, and the others -/
structure Pos (l : List Tree) (pa pb : Nat) (pos : Nat → Nat) : Prop where
  fa : l[pa]? = some (first l)
  fb : l[pb]? = some (second l)
  ne : pa ≠ pb
  mono : ∀ k k', k < k' → pos k < pos k'
  get : ∀ k, (rest2 l)[k]? = l[pos k]?
  onto : ∀ i, i < l.length → i = pa ∨ i = pb ∨ ∃ k, pos k = i
  aM : ∀ i x, i < pa → l[i]? = some x → (first l).1 < x.1
  bM : ∀ i x, i < pb → i ≠ pa → l[i]? = some x → (second l).1 < x.1
theorem pos_of (l : List Tree) (h2 : 2 ≤ l.length) : ∃ pa pb pos, Pos l pa pb pos := by
  have hl1 := rest1_length l (by omega)
  have ha := least_lt l (by omega)
  have hb := least_lt (rest1 l) (by omega)
  have fa : l[least l l.length]? = some (first l) := by
    rw [first_mem l (by omega), List.getElem?_eq_getElem ha]
  have fb : (rest1 l)[least (rest1 l) (rest1 l).length]? = some (second l) := by
    unfold second
    rw [first_mem (rest1 l) (by omega), List.getElem?_eq_getElem hb]
  have fb' : l[shift (least l l.length) (least (rest1 l) (rest1 l).length)]? = some (second l) := by
    rw [← fb]
    exact (erase_get l _ _).symm
  refine ⟨least l l.length, shift (least l l.length) (least (rest1 l) (rest1 l).length), fun k => shift (least l l.length) (shift (least (rest1 l) (rest1 l).length) k), fa, fb', (sh_ne _ _).symm, fun k k' h => sh_mono (sh_mono h), fun k => ?_, fun i hi => ?_, fun i x hi hx => ?_, fun i x hi hne hx => ?_⟩
  · unfold rest2
    rw [show rest1 (rest1 l) = (rest1 l).eraseIdx (least (rest1 l) (rest1 l).length) from rfl, erase_get]
    exact erase_get l _ _
  · by_cases h1 : i = least l l.length
    · exact .inl h1
    · by_cases h3 : unsh (least l l.length) i = least (rest1 l) (rest1 l).length
      · refine .inr (.inl ?_)
        rw [← h3, sh_unsh h1]
      · exact .inr (.inr ⟨unsh (least (rest1 l) (rest1 l).length) (unsh (least l l.length) i), by rw [sh_unsh h3, sh_unsh h1]⟩)
  · have := least_first l l.length i hi
    rw [wt_get fa, wt_get hx] at this
    exact this
  · have h3 : unsh (least l l.length) i < least (rest1 l) (rest1 l).length := by
      refine Nat.lt_of_not_le fun hle => ?_
      have : shift (least l l.length) (least (rest1 l) (rest1 l).length) ≤ shift (least l l.length) (unsh (least l l.length) i) := by
        rcases Nat.lt_or_eq_of_le hle with h | h
        · exact Nat.le_of_lt (sh_mono h)
        · rw [h]
          exact Nat.le_refl _
      rw [sh_unsh hne] at this
      omega
    have := least_first (rest1 l) (rest1 l).length _ h3
    rw [wt_get fb, show rest1 l = l.eraseIdx (least l l.length) from rfl, erase_wt, sh_unsh hne, wt_get hx] at this
    exact this
theorem rest_min (l : List Tree) (h2 : 2 ≤ l.length) : ∀ c ∈ rest2 l, (first l).1 ≤ c.1 ∧ (second l).1 ≤ c.1 := by
  intro c hc
  refine ⟨first_min l c ((two_perm l h2).mem_iff.2 (List.mem_cons_of_mem _ (List.mem_cons_of_mem _ hc))), first_min (rest1 l) c ?_⟩
  exact (first_perm (rest1 l) (by rw [rest1_length l (by omega)]; omega)).mem_iff.2 (List.mem_cons_of_mem _ hc)
/-- one step back -/
theorem mono_step {F d : List Nat} {l : List Tree} {n : Nat} (h : Inv l d n) (h2 : 2 ≤ l.length) (hU : Unif F (incs (incs d (first l).2) (second l).2) (join l)) (hM : (join l).Pairwise (Rel F (incs (incs d (first l).2) (second l).2))) (hN : Near F (incs (incs d (first l).2) (second l).2) (join l)) :
    Unif F d l ∧ l.Pairwise (Rel F d) ∧ Near F d l := by
  have hd := dep_join h h2
  have hp := two_perm l h2
  have h' := h.perm hp
  obtain ⟨pa', pb''⟩ := List.pairwise_cons.1 h'.pw
  obtain ⟨pb', _⟩ := List.pairwise_cons.1 pb''
  have hmin := rest_min l h2
  generalize hd' : incs (incs d (first l).2) (second l).2 = d' at hd hU hM hN
  have hA : ∀ s ∈ (first l).2, dep d' s = dep d s + 1 := fun s hs => by rw [hd, if_pos (List.mem_append_left _ hs)]
  have hB : ∀ s ∈ (second l).2, dep d' s = dep d s + 1 := fun s hs => by rw [hd, if_pos (List.mem_append_right _ hs)]
  have hR : ∀ x ∈ rest2 l, ∀ s ∈ x.2, dep d' s = dep d s := fun x hx s hs => by
    rw [hd, if_neg]
    intro hy
    rcases List.mem_append.1 hy with hy | hy
    · exact (pa' x (List.mem_cons_of_mem _ hx)).2.2 s hy hs
    · exact (pb' x hx).2.2 s hy hs
  have hC : both l ∈ join l := List.mem_append_right _ (List.mem_singleton.2 rfl)
  have hRj : ∀ x ∈ rest2 l, x ∈ join l := fun x hx => List.mem_append_left _ hx
  have hUC := hU (both l) hC
  -- the two least ones
  have two : ∀ x, x = first l ∨ x = second l → (∀ s ∈ x.2, s ∈ (both l).2) ∧ ∀ s ∈ x.2, dep d' s = dep d s + 1 := by
    rintro x (rfl | rfl)
    · exact ⟨fun s hs => List.mem_append_left _ hs, hA⟩
    · exact ⟨fun s hs => List.mem_append_right _ hs, hB⟩
  have hCC : ∀ x y, (x = first l ∨ x = second l) → (y = first l ∨ y = second l) → Dle F d x y := by
    intro x y hx hy s hs s' hs'
    obtain ⟨x1, x2⟩ := two x hx
    obtain ⟨y1, y2⟩ := two y hy
    have := hUC s (x1 s hs) s' (y1 s' hs')
    rw [x2 s hs, y2 s' hs'] at this
    omega
  have hNC : ∀ x ∈ rest2 l, Dle1 F d' x (both l) := by
    intro x hx
    refine hN (max (first l).1 (second l).1) (fun z hz => ?_) (both l) hC ?_ x (hRj x hx)
    · rcases List.mem_append.1 hz with hz | hz
      · have := hmin z hz
        omega
      · rw [List.mem_singleton.1 hz]
        show _ ≤ (first l).1 + (second l).1
        omega
    · show (first l).1 + (second l).1 ≤ _
      omega
  -- a rest is no deeper than the two
  have hRT : ∀ x y, x ∈ rest2 l → (y = first l ∨ y = second l) → Dle F d x y := by
    intro x y hx hy s hs s' hs'
    obtain ⟨y1, y2⟩ := two y hy
    have := hNC x hx s hs s' (y1 s' hs')
    rw [hR x hx s hs, y2 s' hs'] at this
    omega
  obtain ⟨hMr, _, hMC⟩ := List.pairwise_append.1 hM
  have hall : ∀ x ∈ l, (x = first l ∨ x = second l) ∨ x ∈ rest2 l := by
    intro x hx
    rcases List.mem_cons.1 (hp.mem_iff.1 hx) with rfl | hx
    · exact .inl (.inl rfl)
    · rcases List.mem_cons.1 hx with rfl | hx
      · exact .inl (.inr rfl)
      · exact .inr hx
  have mf : first l ∈ l := hp.mem_iff.2 (List.mem_cons_self ..)
  have ms : second l ∈ l := hp.mem_iff.2 (List.mem_cons_of_mem _ (List.mem_cons_self ..))
  refine ⟨?_, ?_, ?_⟩
  · intro x hx
    rcases hall x hx with hx | hx
    · exact hCC x x hx hx
    · intro s hs s' hs'
      have := hU x (hRj x hx) s hs s' hs'
      rw [hR x hx s hs, hR x hx s' hs'] at this
      exact this
  · obtain ⟨pa, pb, pos, P⟩ := pos_of l h2
    rw [List.pairwise_iff_getElem]
    intro i j hi hj hij
    have gi : l[i]? = some l[i] := List.getElem?_eq_getElem hi
    have gj : l[j]? = some l[j] := List.getElem?_eq_getElem hj
    have key : ∀ i (hi : i < l.length), (i = pa ∧ l[i] = first l) ∨ (i = pb ∧ l[i] = second l) ∨ ∃ k, pos k = i ∧ (rest2 l)[k]? = some l[i] := by
      intro i hi
      have gi : l[i]? = some l[i] := List.getElem?_eq_getElem hi
      rcases P.onto i hi with e | e | ⟨k, e⟩
      · subst e
        exact .inl ⟨rfl, Option.some.inj (gi.symm.trans P.fa)⟩
      · subst e
        exact .inr (.inl ⟨rfl, Option.some.inj (gi.symm.trans P.fb)⟩)
      · exact .inr (.inr ⟨k, e, by rw [P.get, e]; exact gi⟩)
    have ki : (i = pa ∨ i = pb) ∧ (l[i] = first l ∨ l[i] = second l) ∨ ∃ k, pos k = i ∧ (rest2 l)[k]? = some l[i] := by
      rcases key i hi with ⟨e, q⟩ | ⟨e, q⟩ | q
      · exact .inl ⟨.inl e, .inl q⟩
      · exact .inl ⟨.inr e, .inr q⟩
      · exact .inr q
    rcases ki with ⟨_, qi⟩ | ⟨k, ek, gk⟩
    · rcases key j hj with ⟨_, qj⟩ | ⟨_, qj⟩ | ⟨k, ek, gk⟩
      · exact ⟨fun _ => hCC _ _ (.inl qj) qi, fun _ => hCC _ _ qi (.inl qj)⟩
      · exact ⟨fun _ => hCC _ _ (.inr qj) qi, fun _ => hCC _ _ qi (.inr qj)⟩
      · have hmem : l[j] ∈ rest2 l := List.mem_of_getElem? gk
        refine ⟨fun _ => hRT _ _ hmem qi, fun hlt => ?_⟩
        have := hmin _ hmem
        rcases qi with q | q <;> rw [q] at hlt <;> omega
    · have hmem : l[i] ∈ rest2 l := List.mem_of_getElem? gk
      rcases key j hj with ⟨ej, qj⟩ | ⟨ej, qj⟩ | ⟨k', ek', gk'⟩
      · have := P.aM i l[i] (by omega) gi
        refine ⟨fun hle => ?_, fun _ => hRT _ _ hmem (.inl qj)⟩
        rw [qj] at hle
        omega
      · by_cases hia : i = pa
        · subst hia
          have e := Option.some.inj (gi.symm.trans P.fa)
          exact ⟨fun _ => hCC _ _ (.inr qj) (.inl e), fun _ => hCC _ _ (.inl e) (.inr qj)⟩
        · have := P.bM i l[i] (by omega) hia gi
          refine ⟨fun hle => ?_, fun _ => hRT _ _ hmem (.inr qj)⟩
          rw [qj] at hle
          omega
      · have hkk : k < k' := by
          refine Nat.lt_of_not_le fun hle => ?_
          rcases Nat.lt_or_eq_of_le hle with h | h
          · have := P.mono _ _ h
            omega
          · rw [h] at ek'
            omega
        have hmem' : l[j] ∈ rest2 l := List.mem_of_getElem? gk'
        obtain ⟨hk1, e1⟩ := List.getElem?_eq_some_iff.1 gk
        obtain ⟨hk2, e2⟩ := List.getElem?_eq_some_iff.1 gk'
        have := List.pairwise_iff_getElem.1 hMr k k' hk1 hk2 hkk
        rw [e1, e2] at this
        refine ⟨fun hle s hs s' hs' => ?_, fun hlt s hs s' hs' => ?_⟩
        · have q := this.1 hle s hs s' hs'
          rw [hR _ hmem' s hs, hR _ hmem s' hs'] at q
          exact q
        · have q := this.2 hlt s hs s' hs'
          rw [hR _ hmem s hs, hR _ hmem' s' hs'] at q
          exact q
  · intro m hm y hy hy2 x hx
    rcases hall y hy with hy' | hy'
    · rcases hall x hx with hx' | hx'
      · intro s hs s' hs'
        have := hCC x y hx' hy' s hs s' hs'
        omega
      · intro s hs s' hs'
        have := hRT x y hx' hy' s hs s' hs'
        omega
    · rcases hall x hx with hx' | hx'
      · intro s hs s' hs'
        have hle : y.1 ≤ (both l).1 := by
          have h1 := hm _ mf
          have h3 := hm _ ms
          show y.1 ≤ (first l).1 + (second l).1
          omega
        obtain ⟨x1, x2⟩ := two x hx'
        have := (hMC y hy' (both l) (List.mem_singleton.2 rfl)).1 hle s (x1 s hs) s' hs'
        rw [x2 s hs, hR y hy' s' hs'] at this
        omega
      · intro s hs s' hs'
        have := hN m (fun z hz => by
          rcases List.mem_append.1 hz with hz | hz
          · exact hm z (hp.mem_iff.2 (List.mem_cons_of_mem _ (List.mem_cons_of_mem _ hz)))
          · rw [List.mem_singleton.1 hz]
            have h1 := hm _ mf
            show m ≤ (first l).1 + (second l).1
            omega) y (hRj y hy') hy2 x (hRj x hx') s hs s' hs'
        rw [hR x hx' s hs, hR y hy' s' hs'] at this
        exact this
theorem run_mono (f : Nat) : ∀ (l : List Tree) (d : List Nat) (n : Nat), Inv l d n → l.length ≤ f → Unif (run f l d) d l ∧ l.Pairwise (Rel (run f l d) d) ∧ Near (run f l d) d l := by
  have base : ∀ (l : List Tree) (d : List Nat), l.length ≤ 1 → Unif d d l ∧ l.Pairwise (Rel d d) ∧ Near d d l := by
    intro l d hl
    refine ⟨fun x _ s _ s' _ => by omega, ?_, fun m _ y _ _ x _ s _ s' _ => by omega⟩
    match l, hl with
    | [], _ => exact List.Pairwise.nil
    | [x], _ => exact List.pairwise_singleton _ _
  induction f with
  | zero =>
    intro l d n _ hl
    exact base l d (by omega)
  | succ f ih =>
    intro l d n h hl
    rw [run]
    by_cases h1 : l.length ≤ 1
    · rw [if_pos h1]
      exact base l d h1
    · rw [if_neg h1]
      have hjl := join_length l (by omega)
      obtain ⟨a, b, c⟩ := ih (join l) _ n (h.join (by omega)) (by omega)
      exact mono_step h (by omega) a b c
theorem tree_mem (c : List Nat) : ∀ n i, i < n → 0 < c.getD i 0 → (c.getD i 0, [i]) ∈ trees c n
  | 0, i, h, _ => absurd h (Nat.not_lt_zero i)
  | n + 1, i, h, h0 => by
    rw [trees]
    by_cases e : i = n
    · subst e
      rw [if_pos h0]
      exact List.mem_append_right _ (List.mem_singleton.2 rfl)
    · have := tree_mem c n i (by omega) h0
      split
      · exact List.mem_append_left _ this
      · exact this
/-- what counts more goes no deeper -/
theorem depths_mono (c : List Nat) (i j : Nat) (hi : i < c.length) (hj : j < c.length) (h : c.getD j 0 < c.getD i 0) (h0 : 0 < c.getD j 0) : dep (depths c) i ≤ dep (depths c) j := by
  have hinv := trees_inv c c.length (Nat.le_refl _)
  have hti : (c.getD i 0, [i]) ∈ trees c c.length := tree_mem c c.length i hi (by omega)
  have htj : (c.getD j 0, [j]) ∈ trees c c.length := tree_mem c c.length j hj h0
  have hne : (trees c c.length).length ≠ 1 := by
    intro h1
    obtain ⟨t, ht⟩ := List.length_eq_one_iff.1 h1
    rw [ht] at hti htj
    have e := (List.mem_singleton.1 hti).trans (List.mem_singleton.1 htj).symm
    have := congrArg Prod.fst e
    simp only at this
    omega
  have hD : depths c = run (trees c c.length).length (trees c c.length) (zeros c.length) := by
    unfold depths
    rw [if_neg hne]
  obtain ⟨_, hM, _⟩ := run_mono (trees c c.length).length (trees c c.length) (zeros c.length) _ hinv (Nat.le_refl _)
  rw [← hD] at hM
  obtain ⟨p, hp, ep⟩ := List.getElem_of_mem hti
  obtain ⟨q, hq, eq⟩ := List.getElem_of_mem htj
  have fin : Dle (depths c) (zeros c.length) (c.getD i 0, [i]) (c.getD j 0, [j]) := by
    rcases Nat.lt_trichotomy p q with hpq | hpq | hpq
    · have := List.pairwise_iff_getElem.1 hM p q hp hq hpq
      rw [ep, eq] at this
      exact this.2 h
    · subst hpq
      rw [ep] at eq
      have := congrArg Prod.fst eq
      simp only at this
      omega
    · have := List.pairwise_iff_getElem.1 hM q p hq hp hpq
      rw [ep, eq] at this
      exact this.1 (by show c.getD j 0 ≤ c.getD i 0; omega)
  have := fin i (List.mem_singleton.2 rfl) j (List.mem_singleton.2 rfl)
  rw [dep_zeros, dep_zeros] at this
  omega
theorem lenOf_mono (c : List Nat) (hs : c.sum < 300) (i j : Nat) (hi : i < c.length) (hj : j < c.length) (h : c.getD j 0 < c.getD i 0) (h0 : 0 < c.getD j 0) : dep (lenOf c) i ≤ dep (lenOf c) j := by
  have ho : okay (depths c) = true := by
    unfold okay
    rw [List.all_eq_true]
    intro x hx
    obtain ⟨k, hk, rfl⟩ := List.getElem_of_mem hx
    have hd : dep (depths c) k = (depths c)[k] := by
      unfold dep
      rw [List.getD_eq_getElem?_getD, List.getElem?_eq_getElem hk]
      rfl
    rw [← hd]
    refine decide_eq_true (Nat.le_of_not_lt fun h12 => ?_)
    rcases depths_bound c k with h1 | h1
    · omega
    · have h2 := fib_mono (show 15 ≤ dep (depths c) k + 2 by omega)
      rw [show fib 15 = 610 from rfl] at h2
      omega
  rw [lenOf_yes c ho]
  exact depths_mono c i j hi hj h h0
end Go.Proofs.Ytmkpakhpjgocjaa.Hf
