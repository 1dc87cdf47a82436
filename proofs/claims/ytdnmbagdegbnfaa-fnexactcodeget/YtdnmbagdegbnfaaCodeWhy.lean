/- The walk of impl.whyNoCode: a range over the map of codes, out of which those go that do not begin with the bits. -/
import Derived.Test.YtdnmbagdegbnfaaCodeMap
namespace Go.Proofs.Ytdnmbagdegbnfaa.Bi
open Go.RowKit Go.Maps
open Go.WideMaps (keyOf_string_mk string_of_keyOf)

def pf (t : ByteArray) : Lit → Bool
  | .string bs => Lib.hasPrefix bs t.data.toList
  | _ => false
theorem pf_kl (t c : ByteArray) : pf t (kl c) = Lib.hasPrefix c.data.toList t.data.toList := rfl
/-- what the map holds while the codes in left are still to come -/
def Swept (D D' : DU) (t : ByteArray) (left : Lit → Bool) : Prop := ∀ z, Maps.has D' z = (Maps.has D z && (left z || pf t z))
theorem Swept.start (D : DU) (t : ByteArray) : Swept D D t (Maps.has D) := fun z => by cases Maps.has D z <;> simp
theorem same_kl (c : ByteArray) : (kl c).sameKey (kl c) = true := by simp [kl, Lit.sameKey]
theorem Swept.stays {D D' : DU} {t : ByteArray} {left : Lit → Bool} {c : ByteArray} (h : Swept D D' t left) (hp : Lib.hasPrefix c.data.toList t.data.toList = true) : Swept D D' t (fun z => left z && !z.sameKey (kl c)) := fun z => by
  rw [h z]
  by_cases e : z = kl c
  · subst e
    rw [pf_kl, hp]
    simp
  · simp only [sameKey_ne e]
    simp
theorem Swept.goes {D D' : DU} {t : ByteArray} {left : Lit → Bool} {c : ByteArray} (h : Swept D D' t left) (hp : Lib.hasPrefix c.data.toList t.data.toList = false) : Swept D (D'.del (kl c)) t (fun z => left z && !z.sameKey (kl c)) := fun z => by
  by_cases e : z = kl c
  · subst e
    rw [has_del_same, pf_kl, hp]
    simp only [same_kl]
    simp
  · rw [has_del_other e, h z]
    simp only [sameKey_ne e]
    simp
theorem size_none {D : DU} (hD : IsMap D) (h : ∀ z, Maps.has D z = false) (hk : ∀ es, D = .map es → ∀ p ∈ es, WideAt.IsKeyLit p.1) : Maps.size D = 0 := by
  obtain ⟨es, rfl⟩ := hD
  cases es with
  | nil => rfl
  | cons p es =>
    exfalso
    have h1 := hk _ rfl p List.mem_cons_self
    have h2 := h p.1
    rw [has_eq, List.any_cons] at h2
    have h3 : p.1.sameKey p.1 = true := by
      obtain ⟨k, d⟩ := p
      cases k <;> simp_all [Lit.sameKey, WideAt.IsKeyLit]
    rw [h3] at h2
    simp at h2
theorem size_some {D : DU} (hD : IsMap D) {z : Lit} (h : Maps.has D z = true) : 0 < Maps.size D := by
  obtain ⟨es, rfl⟩ := hD
  cases es with
  | nil => simp [Maps.has] at h
  | cons p es => simp [size_eq]

set_option maxRecDepth 100000 in
set_option maxHeartbeats 4000000 in
theorem why_any (l : List Int) (t : ByteArray) (b n B : Nat) (D : DU) (w : World) (hown : w.ownsMap Try.prog 9 (plainElem Try.prog 2) b n D) (hcm : CM l D l.length) (hB : B ≤ b) (hBw : B ≤ w.heap.size) :
    Calls Try.prog 90 #[.map (some b), .string t] w fun e w' => e = .returned (.int .i64 (why l t)) ∧ Below B w w' := by
  have HCM := hideB hcm
  clear hcm
  have hbw := hown.lt
  go_enter Try.func90, Try.ntmps90
  go_wp2_with (first | (at_range; refine wpList_range_own _ rfl _ 79 rfl 9 2 lawS Try.underlying79 _ b n _ rfl hown ?_; intro w0 hrg0 hg0 hs0))
  have HB0 := hideB ((Below.refl B w).grown hg0 hBw (fun j hj => by cases hj))
  go_frame
  go_loopw [5] (fun _ wr => ∃ (left : Lit → Bool) (cnt : Nat) (D' : DU), wr.ranges Try.prog 9 (plainElem Try.prog 2) b w.heap.size n D' left cnt ∧ Swept D D' t left ∧ Below B w wr) (fun _ wr => wr.rangeLeft b w.heap.size)
  case atStart => exact ⟨_, _, D, hrg0, Swept.start D t, HB0.out⟩
  case round =>
    obtain ⟨left, cnt, D', hrg, hsw, hbel⟩ := hrel
    have HSW := hideB hsw
    have GB := hideB hbel
    clear hsw hbel
    go_wp2_with (first | (at_next; refine wpList_next_ranges _ rfl _ rfl 9 lawS (plainElem Try.prog 2) Value.string (Value.int .i64) (fun key kl hkey => by obtain ⟨s, rfl, _⟩ := string_of_keyOf Try.underlying9 hkey; exact ⟨s, rfl⟩) (fun v y hv => by obtain ⟨c, rfl, _⟩ := plainElem_int_inv Try.underlying2 hv; exact ⟨c, rfl⟩) b w.heap.size n D' left cnt rfl hrg ?_ ?_))
    · intro _ hl0
      have hown' := hrg.owns
      have HPF : Hid (∀ z, Maps.has D' z = (Maps.has D z && pf t z)) := fun z => by
        rw [HSW.out z, hl0 z, Bool.false_or]
      cases hw : wth l t with
      | true =>
        have hz : (((Maps.size D' : Nat) : Int) == 0) = false := by
          obtain ⟨i, h1, h2, h3⟩ := wth_yes hw
          have h4 : Maps.has D' (kl (codeOf l i)) = true := by
            rw [HPF.out, (HCM.out.1 _).2 ⟨i, h1, h1, h2, rfl⟩, pf_kl, h3]
            rfl
          have h5 := size_some hown'.isMap h4
          exact beq_eq_false_iff_ne.2 (by omega)
        have HE : Hid (why l t = 4) := by
          unfold Hid why
          rw [if_pos hw]
        clear hw hl0 hrg
        go_wp2_with (first | (at_len; refine wpList_len_own _ rfl _ 79 rfl 9 2 Try.underlying79 _ b n D' rfl hown' ?_))
        go_ret
        exact ⟨by rw [HE.out]; rfl, GB.out⟩
      | false =>
        have hz : Maps.size D' = 0 := by
          obtain ⟨es, hes, _, hks⟩ := hown'.entries lawS
          refine size_none hown'.isMap (fun z => ?_) (fun es' he' p hp => by rw [hes] at he'; cases he'; exact hks p hp)
          rw [HPF.out]
          cases hh : Maps.has D z with
          | false => rfl
          | true =>
            obtain ⟨i, h1, h2, h3, rfl⟩ := (HCM.out.1 z).1 hh
            rw [pf_kl, Bool.true_and]
            cases hp : Lib.hasPrefix (codeOf l i).data.toList t.data.toList with
            | false => rfl
            | true => rw [wth_of h2 h3 hp] at hw; cases hw
        have HE : Hid (why l t = 3) := by
          unfold Hid why
          rw [if_neg (by rw [hw]; decide)]
        clear hw hl0 hrg
        go_wp2_with (first | (at_len; refine wpList_len_own _ rfl _ 79 rfl 9 2 Try.underlying79 _ b n D' rfl hown' ?_; rw [hz]))
        go_ret
        exact ⟨by rw [HE.out]; rfl, GB.out⟩
    · intro x c klx y1 y2 w1 cnt1 hkey hlx hRv hat hrg1 hlt hg1 hs1 hen
      obtain ⟨s, es, hk2, hsz⟩ := string_of_keyOf Try.underlying9 hkey
      obtain rfl : x = s := by simpa using es
      obtain rfl : klx = kl x := hk2
      have GB1 := hideB (GB.out.grown hg1 (Nat.le_trans hBw GB.out.size) (fun j hj => by cases hj; exact hBw))
      have HPX := hideB (prefix_any x t w1)
      cases hp : Lib.hasPrefix x.data.toList t.data.toList with
      | true =>
        have HS1 := hideB (HSW.out.stays hp)
        rw [hp] at HPX
        clear hp es hRv hat
        go_wp2_with fail
        refine HPX.out.mono ?_
        rintro e w' ⟨rfl, hw⟩
        subst w'
        go_wp2_with fail
        go_roundw
        case rel => exact ⟨_, cnt1, D', hrg1, HS1.out, GB1.out⟩
        case measure => rw [hrg1.left_eq, hrg.left_eq]; exact hlt
      | false =>
        have HS1 := hideB (HSW.out.goes hp)
        rw [hp] at HPX
        clear hp es hRv hat
        go_wp2_with fail
        refine HPX.out.mono ?_
        rintro e w' ⟨rfl, hw⟩
        subst w'
        go_wp2_with (first | (at_delete; refine wpList_delete_ranges _ rfl _ _ 79 9 rfl 2 lawS Try.underlying79 _ b w.heap.size n _ _ _ rfl hrg1 _ _ rfl hkey ?_; intro w2 cnt2 hrg2 hle hturn; go_frame))
        rw [strike_twice] at hrg2
        have GB2 := hideB (GB1.out.grown hturn.grown (Nat.le_trans hBw GB1.out.size) (fun j hj => by cases hj; exact hB))
        go_roundw
        case rel => exact ⟨_, cnt2, _, hrg2, HS1.out, GB2.out⟩
        case measure => rw [hrg2.left_eq, hrg.left_eq]; omega
end Go.Proofs.Ytdnmbagdegbnfaa.Bi
