/- The walk of impl.LengthsOf. -/
import Derived.Test.YtmkpakhpjgocjaaHuDepths
namespace Go.Proofs.Ytmkpakhpjgocjaa.Hf
open Go.RowKit
open Go.Proofs.Ytmkpakhpjgocjaa.In (IsI irow Ints OwnI)
open Go.Proofs.Ytmkpakhpjgocjaa.Bi (within within_yes within_of within_impl)

/-- the sum of the numbers that a slice sees -/
def sumAt (W : World) : Value → Nat
  | .slice (some ⟨b, off, _⟩) n _ => ((List.range n).map fun j => match W.cell? ⟨b, off + j, none⟩ with | some (.int _ x) => x.toNat | _ => 0).sum
  | _ => 0
theorem sumAt_ints {W : World} {B n q : Nat} {x : Option Addr} {c : List Nat} (h : Ints W B x (up c)) (hn : c.length = n) : sumAt W (.slice x n q) = c.sum := by
  rcases h with h0 | ⟨b, off, rfl, _, hc⟩
  · have hc0 : c = [] := by
      have := congrArg List.length h0
      rw [up_length] at this
      exact List.eq_nil_of_length_eq_zero this
    subst hc0
    subst hn
    cases x <;> rfl
  · have e : ((List.range n).map fun j => match W.cell? ⟨b, off + j, none⟩ with | some (.int _ x) => x.toNat | _ => 0) = c := by
     apply List.ext_getElem
     · simp [hn]
     · intro j h1 h2
       rw [List.getElem_map, List.getElem_range, hc j (by rw [up_length]; exact h2), up_at c j h2, List.getD_eq_getElem?_getD, List.getElem?_eq_getElem h2]
       simp
    exact congrArg List.sum e
theorem own_of {W : World} {g base n : Nat} {l : List Int} (h : IsI W g 2 l) (hg : base ≤ g) (hn : l.length = n) (hm : n ≤ 1048576) : OwnI W base (.slice (some ⟨g, 0, none⟩) n n) l := by
  subst hn
  refine ⟨by simp, .inr ⟨g, l.length, irow l, rfl, hg, h, Nat.le_refl _, by unfold maxLen; omega, by rw [In.irow_size, Nat.mul_one], ?_⟩⟩
  unfold irow
  rw [List.take_of_length_le (by simp)]
theorem within_okay (d : List Nat) (h : d.length ≤ 257) : within (up d) 12 = okay d := by
  cases ho : okay d with
  | true =>
    refine within_of (by rw [up_length]; exact h) fun x hx => ?_
    obtain ⟨y, hy, rfl⟩ := List.mem_map.1 hx
    have := of_decide_eq_true (List.all_eq_true.1 ho y hy)
    omega
  | false =>
    refine Bool.eq_false_iff.2 fun hw => ?_
    have := (within_yes hw).2
    rw [Bool.eq_false_iff] at ho
    refine ho (List.all_eq_true.2 fun y hy => decide_eq_true ?_)
    have := (this (y : Int) (List.mem_map.2 ⟨y, hy, rfl⟩)).2
    omega
def nats (l : List Int) : List Nat := l.map Int.toNat
theorem up_nats (l : List Int) (m : Int) (h : within l m = true) : up (nats l) = l := by
  have := (within_yes h).2
  unfold up nats
  rw [List.map_map]
  conv => rhs; rw [← List.map_id l]
  refine List.map_congr_left fun x hx => ?_
  have := this x hx
  show ((x.toNat : Nat) : Int) = x
  omega
def lensR (l : List Int) : List Int := if within l 10000 = true then up (lenOf (nats l)) else []
theorem flat_small (c : List Nat) (h : ∀ x ∈ c, x ≤ 10000) : ∀ x ∈ flat c, x ≤ 10000 := by
  intro x hx
  obtain ⟨y, hy, rfl⟩ := List.mem_map.1 hx
  have := h y hy
  split <;> omega

set_option maxRecDepth 100000 in
set_option maxHeartbeats 600000 in
theorem lengths_impl (a : Option Addr) (cap : Nat) (l : List Int) (w : World) (h : Ints w w.heap.size a l) (hl : l.length ≤ 1048576) :
    Calls Try.prog 9 #[.slice a l.length cap] w fun e w' => ∃ v, e = .returned v ∧ OwnI w' w.heap.size v (lensR l) ∧ Below w.heap.size w w' := by
  have HW := hideH (within_impl l 10000 a cap w.heap.size w h hl)
  cases hw : within l 10000 with
  | false =>
    have HR : Hid (lensR l = []) := if_neg (by rw [hw]; decide)
    rw [hw] at HW
    generalize l.length = n at HW ⊢
    go_enter Try.func9, Try.ntmps9
    go_wp2_with fail
    refine HW.out.mono ?_
    rintro e w1 ⟨rfl, hw1⟩
    subst w1
    go_wp2_with fail
    go_ret
    exact ⟨_, rfl, by rw [HR.out]; exact OwnI.nil _ _, Below.refl _ _⟩
  | true =>
    have hlen := (within_yes hw).1
    have hup := up_nats l 10000 hw
    have HR : Hid (lensR l = up (lenOf (nats l))) := if_pos hw
    have HI : Hid (Ints w w.heap.size a (up (nats l))) := by rw [hup]; exact h
    have HM : Hid (∀ x ∈ nats l, x ≤ 10000) := by
      intro x hx
      obtain ⟨y, hy, rfl⟩ := List.mem_map.1 hx
      have := (within_yes hw).2 y hy
      omega
    have HN : Hid ((nats l).length = l.length) := List.length_map ..
    rw [hw] at HW
    rw [HR.out]
    generalize nats l = c0 at HI HM HN
    generalize l.length = n at HW hlen HN ⊢
    clear hw hup h hl HR
    obtain ⟨R, hR⟩ : ∃ R, R = lenOf c0 := ⟨_, rfl⟩
    have HRR := hideH hR
    rw [← hR]
    clear hR
    go_enter Try.func9, Try.ntmps9
    go_wp2_with fail
    refine HW.out.mono ?_
    rintro e w1 ⟨rfl, hw1⟩
    subst w1
    go_wp2_with fail
    refine (depths_any a cap n c0 w HI.out HN.out hlen HM.out).mono ?_
    rintro e w2 ⟨rfl, hi2, hb2⟩
    have HI2 := hideH hi2
    have HB2 := hideH hb2
    have hz2 := hi2.lt
    clear hi2 hb2
    go_wp2_with fail
    go_loopw [0, 3] (fun cv lv wr => ∃ (c : List Nat) (x : Option Addr) (q g : Nat), cv = .slice x n q ∧ lv = .slice (some ⟨g, 0, none⟩) n n ∧ Ints wr wr.heap.size x (up c) ∧ c.length = n ∧ (∀ y ∈ c, y ≤ 10000) ∧ R = lenOf c ∧ IsI wr g 2 (up (depths c)) ∧ w.heap.size ≤ g ∧ Below w.heap.size w wr) (fun cv _ wr => sumAt wr cv)
    case atStart => exact ⟨c0, a, cap, w.heap.size, rfl, rfl, (HI.out.below HB2.out).mono HB2.out.size, HN.out, HM.out, HRR.out, HI2.out, Nat.le_refl _, HB2.out⟩
    case round =>
      obtain ⟨c, x, q, g, rfl, rfl, hxi, hcn, hcm, hcr, hgi, hgl, hbw⟩ := hrel
      have XI := hideH hxi
      have CN := hideH hcn
      have CM := hideH hcm
      have CR := hideH hcr
      have GI := hideH hgi
      have BW := hideH hbw
      have HWI := hideH (within_impl (up (depths c)) 12 (some ⟨g, 0, none⟩) n wr.heap.size wr (hgi.ints hgi.lt) (by rw [up_length, depths_length, hcn]; omega))
      rw [up_length, depths_length, hcn, within_okay _ (by rw [depths_length, hcn]; exact hlen)] at HWI
      have hzw := hbw.size
      clear hxi hcn hcm hcr hgi hbw
      cases hok : okay (depths c) with
      | true =>
        have HF : Hid (R = depths c) := CR.out.trans (lenOf_yes c hok)
        rw [hok] at HWI
        clear hok
        go_wp2_with fail
        refine HWI.out.mono ?_
        rintro e w3 ⟨rfl, hw3⟩
        subst w3
        go_wp2_with fail
        go_ret
        exact ⟨_, rfl, by rw [HF.out]; exact own_of GI.out hgl (by rw [up_length, depths_length, CN.out]) (by omega), BW.out⟩
      | false =>
        have HNO := hideH (lenOf_no c (by have := CN.out; omega) (by rw [hok]; decide))
        have HLT := hideH (flat_more c (by have := CN.out; omega) (by rw [hok]; decide))
        rw [hok] at HWI
        clear hok
        go_wp2_with fail
        refine HWI.out.mono ?_
        rintro e w3 ⟨rfl, hw3⟩
        subst w3
        go_wp2_with fail
        refine (flat_any x q n c wr XI.out CN.out hlen CM.out).mono ?_
        rintro e w4 ⟨rfl, hi4, hb4⟩
        have I4 := hideH hi4
        have B4 := hideH (BW.out.trans (hb4.mono hzw))
        have hz4 := hi4.lt
        clear hi4 hb4
        go_wp2_with fail
        have CN4 : Hid ((flat c).length = n) := by rw [flat_length]; exact CN.out
        refine (depths_any (some ⟨wr.heap.size, 0, none⟩) n n (flat c) w4 (I4.out.ints hz4) CN4.out hlen (flat_small c CM.out)).mono ?_
        rintro e w5 ⟨rfl, hi5, hb5⟩
        have I5 := hideH hi5
        have I4' := hideH ((I4.out.below hb5 hz4))
        have B5 := hideH (B4.out.trans (hb5.mono (by omega)))
        have hz5 := hb5.size
        clear hi5 hb5
        go_wp2_with fail
        go_roundw
        case rel => exact ⟨flat c, some ⟨wr.heap.size, 0, none⟩, n, w4.heap.size, rfl, rfl, I4'.out.ints I4'.out.lt, CN4.out, flat_small c CM.out, CR.out.trans HNO.out, I5.out, by omega, B5.out⟩
        case measure =>
          have e1 := sumAt_ints (q := q) XI.out CN.out
          have e2 := sumAt_ints (q := n) (I4'.out.ints I4'.out.lt) CN4.out
          have e3 := HLT.out
          rw [← e1, ← e2] at e3
          exact e3
end Go.Proofs.Ytmkpakhpjgocjaa.Hf
