/- Texts put together: HuImpl, HuCounts, HuLeastT, HuJoinP, AppFresh, HuJoin, AppKeep. -/
import Derived.Test.YthbpenanelbbcaaGreatDoorBz18
import Derived.Test.YthbpenanelbbcaaGreatDoorBz11
import Derived.Deep.QuietTactic
import Derived.BigQuiet
import Derived.Laws.AppendOwn
import Derived.WalkKit
import Derived.Below
import Derived.BigRegion
import Derived.WalkSmall
/- The walk of impl.LengthsOf. -/
namespace Go.Proofs.YthbpenanelbbcaaGreatDoor.Hf
open Go.RowKit
open Go.Proofs.YthbpenanelbbcaaGreatDoor.In (IsI irow Ints OwnI)
open Go.Proofs.YthbpenanelbbcaaGreatDoor.Bi (within within_yes within_of within_impl)
def sumAt (W : World) : Value → Nat
 | .slice (some ⟨b, off, _⟩) n _ => ((List.range n).map fun j => match W.cell? ⟨b, off + j, none⟩ with | some (.int _ x) => x.toNat | _ => 0).sum
 | _ => 0
theorem sumAt_ints {W : World} {B n q : Nat} {x : Option Addr} {c : List Nat} (h : Ints W B x (up c)) (hn : c.length = n) : sumAt W (.slice x n q) = c.sum := by
  rcases h with h0 | ⟨b, off, rfl, _, hc⟩
  · have hc0 : c = [] := by
      have := congrArg List.length h0
      rw [up_length] at this
      exact List.eq_nil_of_length_eq_zero this
    subst hc0
    subst hn
    cases x <;> rfl
  · have e : ((List.range n).map fun j => match W.cell? ⟨b, off + j, none⟩ with | some (.int _ x) => x.toNat | _ => 0) = c := by
     apply List.ext_getElem
     · simp [hn]
     · intro j h1 h2
       rw [List.getElem_map, List.getElem_range, hc j (by rw [up_length]; exact h2), up_at c j h2, List.getD_eq_getElem?_getD, List.getElem?_eq_getElem h2]
       simp
    exact congrArg List.sum e
theorem own_of {W : World} {g base n : Nat} {l : List Int} (h : IsI W g 2 l) (hg : base ≤ g) (hn : l.length = n) (hm : n ≤ 1048576) : OwnI W base (.slice (some ⟨g, 0, none⟩) n n) l := by
 subst hn
 refine ⟨by simp, .inr ⟨g, l.length, irow l, rfl, hg, h, Nat.le_refl _, by unfold maxLen; omega, by rw [In.irow_size, Nat.mul_one], ?_⟩⟩
 unfold irow
 rw [List.take_of_length_le (by simp)]
theorem within_okay (d : List Nat) (h : d.length ≤ 257) : within (up d) 12 = okay d := by
 cases ho : okay d with
 | true =>
  refine within_of (by rw [up_length]; exact h) fun x hx => ?_
  obtain ⟨y, hy, rfl⟩ := List.mem_map.1 hx
  have := of_decide_eq_true (List.all_eq_true.1 ho y hy)
  omega
 | false =>
  refine Bool.eq_false_iff.2 fun hw => ?_
  have := (within_yes hw).2
  rw [Bool.eq_false_iff] at ho
  refine ho (List.all_eq_true.2 fun y hy => decide_eq_true ?_)
  have := (this (y : Int) (List.mem_map.2 ⟨y, hy, rfl⟩)).2
  omega
def nats (l : List Int) : List Nat := l.map Int.toNat
theorem up_nats (l : List Int) (m : Int) (h : within l m = true) : up (nats l) = l := by
 have := (within_yes h).2
 unfold up nats
 rw [List.map_map]
 conv => rhs; rw [← List.map_id l]
 refine List.map_congr_left fun x hx => ?_
 have := this x hx
 show ((x.toNat : Nat) : Int) = x
 omega
def lensR (l : List Int) : List Int := if within l 10000 = true then up (lenOf (nats l)) else []
theorem flat_small (c : List Nat) (h : ∀ x ∈ c, x ≤ 10000) : ∀ x ∈ flat c, x ≤ 10000 := by
 intro x hx
 obtain ⟨y, hy, rfl⟩ := List.mem_map.1 hx
 have := h y hy
 split <;> omega
set_option maxRecDepth 100000 in
set_option maxHeartbeats 600000 in
theorem lengths_impl (a : Option Addr) (cap : Nat) (l : List Int) (w : World) (h : Ints w w.heap.size a l) (hl : l.length ≤ 1048576) :
  Calls Tryz.prog 44 #[.slice a l.length cap] w fun e w' => ∃ v, e = .returned v ∧ OwnI w' w.heap.size v (lensR l) ∧ Below w.heap.size w w' := by
 have HW := hideH (within_impl l 10000 a cap w.heap.size w h hl)
 cases hw : within l 10000 with
 | false =>
  have HR : Hid (lensR l = []) := if_neg (by rw [hw]; decide)
  rw [hw] at HW
  generalize l.length = n at HW ⊢
  go_enter Tryz.func44, Tryz.ntmps44
  go_wp2_with fail
  refine HW.out.mono ?_
  rintro e w1 ⟨rfl, hw1⟩
  subst w1
  go_wp2_with fail
  go_ret
  exact ⟨_, rfl, by rw [HR.out]; exact OwnI.nil _ _, Below.refl _ _⟩
 | true =>
  have hlen := (within_yes hw).1
  have hup := up_nats l 10000 hw
  have HR : Hid (lensR l = up (lenOf (nats l))) := if_pos hw
  have HI : Hid (Ints w w.heap.size a (up (nats l))) := by rw [hup]; exact h
  have HM : Hid (∀ x ∈ nats l, x ≤ 10000) := by
   intro x hx
   obtain ⟨y, hy, rfl⟩ := List.mem_map.1 hx
   have := (within_yes hw).2 y hy
   omega
  have HN : Hid ((nats l).length = l.length) := List.length_map ..
  rw [hw] at HW
  rw [HR.out]
  generalize nats l = c0 at HI HM HN
  generalize l.length = n at HW hlen HN ⊢
  clear hw hup h hl HR
  obtain ⟨R, hR⟩ : ∃ R, R = lenOf c0 := ⟨_, rfl⟩
  have HRR := hideH hR
  rw [← hR]
  clear hR
  go_enter Tryz.func44, Tryz.ntmps44
  go_wp2_with fail
  refine HW.out.mono ?_
  rintro e w1 ⟨rfl, hw1⟩
  subst w1
  go_wp2_with fail
  refine (depths_any a cap n c0 w HI.out HN.out hlen HM.out).mono ?_
  rintro e w2 ⟨rfl, hi2, hb2⟩
  have HI2 := hideH hi2
  have HB2 := hideH hb2
  have hz2 := hi2.lt
  clear hi2 hb2
  go_wp2_with fail
  go_loopw [0, 3] (fun cv lv wr => ∃ (c : List Nat) (x : Option Addr) (q g : Nat), cv = .slice x n q ∧ lv = .slice (some ⟨g, 0, none⟩) n n ∧ Ints wr wr.heap.size x (up c) ∧ c.length = n ∧ (∀ y ∈ c, y ≤ 10000) ∧ R = lenOf c ∧ IsI wr g 2 (up (depths c)) ∧ w.heap.size ≤ g ∧ Below w.heap.size w wr) (fun cv _ wr => sumAt wr cv)
  case atStart => exact ⟨c0, a, cap, w.heap.size, rfl, rfl, (HI.out.below HB2.out).mono HB2.out.size, HN.out, HM.out, HRR.out, HI2.out, Nat.le_refl _, HB2.out⟩
  case round =>
   obtain ⟨c, x, q, g, rfl, rfl, hxi, hcn, hcm, hcr, hgi, hgl, hbw⟩ := hrel
   have XI := hideH hxi
   have CN := hideH hcn
   have CM := hideH hcm
   have CR := hideH hcr
   have GI := hideH hgi
   have BW := hideH hbw
   have HWI := hideH (within_impl (up (depths c)) 12 (some ⟨g, 0, none⟩) n wr.heap.size wr (hgi.ints hgi.lt) (by rw [up_length, depths_length, hcn]; omega))
   rw [up_length, depths_length, hcn, within_okay _ (by rw [depths_length, hcn]; exact hlen)] at HWI
   have hzw := hbw.size
   clear hxi hcn hcm hcr hgi hbw
   cases hok : okay (depths c) with
   | true =>
    have HF : Hid (R = depths c) := CR.out.trans (lenOf_yes c hok)
    rw [hok] at HWI
    clear hok
    go_wp2_with fail
    refine HWI.out.mono ?_
    rintro e w3 ⟨rfl, hw3⟩
    subst w3
    go_wp2_with fail
    go_ret
    exact ⟨_, rfl, by rw [HF.out]; exact own_of GI.out hgl (by rw [up_length, depths_length, CN.out]) (by omega), BW.out⟩
   | false =>
    have HNO := hideH (lenOf_no c (by have := CN.out; omega) (by rw [hok]; decide))
    have HLT := hideH (flat_more c (by have := CN.out; omega) (by rw [hok]; decide))
    rw [hok] at HWI
    clear hok
    go_wp2_with fail
    refine HWI.out.mono ?_
    rintro e w3 ⟨rfl, hw3⟩
    subst w3
    go_wp2_with fail
    refine (flat_any x q n c wr XI.out CN.out hlen CM.out).mono ?_
    rintro e w4 ⟨rfl, hi4, hb4⟩
    have I4 := hideH hi4
    have B4 := hideH (BW.out.trans (hb4.mono hzw))
    have hz4 := hi4.lt
    clear hi4 hb4
    go_wp2_with fail
    have CN4 : Hid ((flat c).length = n) := by rw [flat_length]; exact CN.out
    refine (depths_any (some ⟨wr.heap.size, 0, none⟩) n n (flat c) w4 (I4.out.ints hz4) CN4.out hlen (flat_small c CM.out)).mono ?_
    rintro e w5 ⟨rfl, hi5, hb5⟩
    have I5 := hideH hi5
    have I4' := hideH ((I4.out.below hb5 hz4))
    have B5 := hideH (B4.out.trans (hb5.mono (by omega)))
    have hz5 := hb5.size
    clear hi5 hb5
    go_wp2_with fail
    go_roundw
    case rel => exact ⟨flat c, some ⟨wr.heap.size, 0, none⟩, n, w4.heap.size, rfl, rfl, I4'.out.ints I4'.out.lt, CN4.out, flat_small c CM.out, CR.out.trans HNO.out, I5.out, by omega, B5.out⟩
    case measure =>
     have e1 := sumAt_ints (q := q) XI.out CN.out
     have e2 := sumAt_ints (q := n) (I4'.out.ints I4'.out.lt) CN4.out
     have e3 := HLT.out
     rw [← e1, ← e2] at e3
     exact e3
end Go.Proofs.YthbpenanelbbcaaGreatDoor.Hf


/- The walk of l04Counts. -/
namespace Go.Proofs.YthbpenanelbbcaaGreatDoor.Hf
open Go.RowKit
open Go.Proofs.YthbpenanelbbcaaGreatDoor.In (IsI irow Ints OwnI)
open Go.Proofs.YthbpenanelbbcaaGreatDoor.Bi (within within_yes within_of within_long within_bad)
end Go.Proofs.YthbpenanelbbcaaGreatDoor.Hf


/- The walk of l04Least. -/
namespace Go.Proofs.YthbpenanelbbcaaGreatDoor.Hf
open Go.RowKit
set_option maxRecDepth 100000 in
set_option maxHeartbeats 1000000 in
theorem leastS_any (g n cap a : Nat) (but : Int) (m : List MT) (w : World) (hn : m.length = n) (h257 : n ≤ 257) (hbut : ∀ i, i < n → ((i : Int) = but ↔ i = a)) (hc : ∀ i (h : i < m.length), w.cell? ⟨g, i * 2, none⟩ = some (.int .i64 (m[i].1.1 : Nat))) :
  Calls Tryz.prog 157 #[.slice (some ⟨g, 0, none⟩) n cap, .int .i64 but] w fun e w' => e = .returned (.int .i64 (oi (lb (mt m) a n))) ∧ ∃ d, w' = w.drewN d := by
 have HN := hideH hn
 have HB := hideH hbut
 have HC := hideH hc
 have HL := hideH (lb_lt (mt m) a)
 clear hn hbut hc
 go_enter Tryz.func157, Tryz.ntmps157
 go_wp2_with fail
 go_loopw [6, 5] (fun iv kv wr => ∃ (i : Nat) (k : Int), iv = .int .i64 i ∧ kv = .int .i64 k ∧ i ≤ n ∧ k = oi (lb (mt m) a i) ∧ ∃ d, wr = w.drewN d) (fun iv _ _ => n - (intOf iv).toNat)
 case atStart => exact ⟨0, -1, rfl, rfl, Nat.zero_le _, rfl, 0, rfl⟩
 case round =>
  obtain ⟨i, k, rfl, rfl, hi, hk, d, hw⟩ := hrel
  subst wr
  have HK := hideH hk
  clear hk
  by_cases hlt : i < n
  ·have hi' : i < m.length := by rw [HN.out]; exact hlt
   by_cases hia : i = a
   ·obtain rfl := (HB.out i hlt).2 hia
    have HF : Hid (k = oi (lb (mt m) a (i + 1))) := by
     unfold Hid
     rw [lb, if_pos hia]
     exact HK.out
    clear hia HB HK HL HC
    go_wp2_with fail
    go_big_quiet (fail)
    go_wp2_with fail
    go_roundw
    case rel => exact ⟨i + 1, k, by go_num, rfl, by omega, HF.out, _, rfl⟩
    case measure => simp [intOf]; omega
   ·have hne : ¬ ((i : Int) = but) := fun e => hia ((HB.out i hlt).1 e)
    have hq : ((i : Int) != but) = true := by simp; exact hne
    clear hne
    have HIA := hideH hia
    clear hia
    cases hlb : lb (mt m) a i with
    | none =>
     have HF := hideH (lb_none hlb HIA.out)
     have hkn : k < 0 := by rw [HK.out, hlb]; decide
     have hkd : decide (k < 0) = true := decide_eq_true hkn
     clear HK hlb
     go_wp2_with fail
     go_big_quiet (fail)
     go_wp2_with fail
     go_roundw
     case rel => exact ⟨i + 1, i, by go_num, rfl, by omega, by rw [HF.out]; rfl, _, rfl⟩
     case measure => simp [intOf]; omega
    | some kk =>
     have hkl := HL.out i kk hlb
     have hk' : kk < m.length := by rw [HN.out]; omega
     have HF := hideH (lb_some hlb HIA.out)
     rw [wt_mt m i hi', wt_mt m kk hk'] at HF
     obtain rfl : k = (kk : Int) := by rw [HK.out, hlb]; rfl
     have ci := HC.out i hi'
     have ck := HC.out kk hk'
     generalize m[i].1.1 = x at ci HF
     generalize m[kk].1.1 = y at ck HF
     have hkd : decide ((kk : Int) < 0) = false := decide_eq_false (by omega)
     have hin : (i : Int) < (n : Int) := by omega
     have hkn : (kk : Int) < (n : Int) := by omega
     clear HK hlb hi' hk'
     by_cases hxy : x < y
     ·have hxy' : (x : Int) < (y : Int) := by omega
      rw [if_pos hxy] at HF
      go_wp2_with fail
      go_big_quiet (fail)
      go_wp2_with fail
      go_roundw
      case rel => exact ⟨i + 1, i, by go_num, rfl, by omega, by rw [HF.out]; rfl, _, rfl⟩
      case measure => simp [intOf]; omega
     ·have hxy' : decide ((x : Int) < (y : Int)) = false := by simp; omega
      rw [if_neg hxy] at HF
      go_wp2_with fail
      go_big_quiet (fail)
      go_wp2_with fail
      go_roundw
      case rel => exact ⟨i + 1, kk, by go_num, rfl, by omega, by rw [HF.out]; rfl, _, rfl⟩
      case measure => simp [intOf]; omega
  ·obtain rfl : i = n := by omega
   go_wp2_with fail
   go_ret
   exact ⟨by rw [HK.out]; rfl, _, rfl⟩
end Go.Proofs.YthbpenanelbbcaaGreatDoor.Hf


/- Plain mathematics for l04Join: all but two, in their order. -/
namespace Go.Proofs.YthbpenanelbbcaaGreatDoor.Hf
open Go.RowKit
theorem erase_snoc {α : Type} (X : List α) (y : α) (k : Nat) : (X ++ [y]).eraseIdx k = if k < X.length then X.eraseIdx k ++ [y] else if k = X.length then X else X ++ [y] := by
 by_cases h : k < X.length
 ·rw [if_pos h, List.eraseIdx_append_of_lt_length h]
 ·rw [if_neg h, List.eraseIdx_append_of_length_le (by omega)]
  by_cases h2 : k = X.length
  ·rw [if_pos h2, h2, Nat.sub_self]
   simp
  ·rw [if_neg h2, List.eraseIdx_of_length_le (by simp; omega)]
def midJ (m : List MT) (a b i : Nat) : List MT := ((m.take i).eraseIdx a).eraseIdx b
theorem take_snoc (m : List MT) (i : Nat) (hi : i < m.length) : m.take (i + 1) = m.take i ++ [m[i]] := by
 rw [List.take_add_one, List.getElem?_eq_getElem hi]
 rfl
theorem midJ_step (m : List MT) (a b i : Nat) (hi : i < m.length) : midJ m a b (i + 1) = if i = a ∨ i = shift a b then midJ m a b i else midJ m a b i ++ [m[i]] := by
 have hl : (m.take i).length = i := by rw [List.length_take]; omega
 unfold midJ
 rw [take_snoc m i hi]
 generalize m[i] = y
 generalize m.take i = X at hl ⊢
 rw [erase_snoc, hl]
 by_cases h1 : a < i
 ·rw [if_pos h1, erase_snoc]
  have hle : (X.eraseIdx a).length = i - 1 := by rw [List.length_eraseIdx, if_pos (by omega), hl]
  rw [hle]
  by_cases h2 : b < i - 1
  ·rw [if_pos h2, if_neg]
   unfold shift
   split <;> omega
  ·rw [if_neg h2, List.eraseIdx_of_length_le (l := X.eraseIdx a) (k := b) (by omega)]
   by_cases h3 : b = i - 1
   ·rw [if_pos h3, if_pos]
    unfold shift
    rw [if_neg (by omega)]
    omega
   ·rw [if_neg h3, if_neg]
    unfold shift
    rw [if_neg (by omega)]
    omega
 ·rw [if_neg h1, List.eraseIdx_of_length_le (l := X) (k := a) (by omega)]
  by_cases h2 : a = i
  ·rw [if_pos h2, if_pos (.inl h2.symm)]
  ·rw [if_neg h2, erase_snoc, hl]
   by_cases h3 : b < i
   ·rw [if_pos h3, if_neg]
    unfold shift
    rw [if_pos (by omega)]
    omega
   ·rw [if_neg h3, List.eraseIdx_of_length_le (l := X) (k := b) (by omega)]
    by_cases h4 : b = i
    ·rw [if_pos h4, if_pos]
     unfold shift
     rw [if_pos (by omega)]
     omega
    ·rw [if_neg h4, if_neg]
     unfold shift
     split <;> omega
theorem midJ_skip (m : List MT) (a b i : Nat) (hi : i < m.length) (h : i = a ∨ i = shift a b) : midJ m a b (i + 1) = midJ m a b i := by
 rw [midJ_step m a b i hi, if_pos h]
theorem midJ_keep (m : List MT) (a b i : Nat) (hi : i < m.length) (h : ¬ i = a) (h' : ¬ i = shift a b) : midJ m a b (i + 1) = midJ m a b i ++ [m[i]] := by
 rw [midJ_step m a b i hi, if_neg (by omega)]
theorem midJ_length (m : List MT) (a b i : Nat) : (midJ m a b i).length ≤ i := by
 unfold midJ
 rw [List.length_eraseIdx, List.length_eraseIdx, List.length_take]
 split <;> split <;> omega
theorem midJ_mem (m : List MT) (a b i : Nat) (x : MT) (h : x ∈ midJ m a b i) : x ∈ m :=
 List.mem_of_mem_take (List.mem_of_mem_eraseIdx (List.mem_of_mem_eraseIdx h))
theorem midJ_all (m : List MT) (a b : Nat) : midJ m a b m.length = (m.eraseIdx a).eraseIdx b := by
 unfold midJ
 rw [List.take_length]
theorem erase_at (m : List MT) (a b : Nat) : (m.eraseIdx a)[b]? = m[shift a b]? := by
 unfold shift
 split
 ·rw [List.getElem?_eraseIdx_of_lt (by assumption)]
 ·rw [List.getElem?_eraseIdx_of_ge (by omega)]
theorem lb_first (l : List Tree) (n : Nat) (hn : l.length = n) (h0 : 0 < n) : lb l n n = some (least l n) := by
 have h := lb_low l n n (Nat.le_refl _)
 rw [if_neg (by omega), List.eraseIdx_of_length_le (by omega)] at h
 rw [h]
 have := least_le l n
 unfold shift
 rw [if_pos (by omega)]
theorem incs_two (d s t : List Nat) : incs d (s ++ t) = incs (incs d s) t := by
 unfold incs
 rw [List.foldl_append]
structure Two (m : List MT) (n a b : Nat) (y1 y2 : MT) : Prop where
 an : a < n + 2
 bn : b < n + 2
 ne : ¬ a = b
 fa : lb (mt m) (n + 2) (n + 2) = some a
 fb : lb (mt m) a (n + 2) = some b
 at1 : m[a]? = some y1
 at2 : m[b]? = some y2
 jn : ∃ b', b = shift a b' ∧ mt (midJ m a b' (n + 2)) ++ [(y1.1.1 + y2.1.1, y1.1.2 ++ y2.1.2)] = join (mt m) ∧ y1.1 = first (mt m) ∧ y2.1 = second (mt m)
theorem two_of (m : List MT) (n : Nat) (hn : m.length = n + 2) : ∃ a b y1 y2, Two m n a b y1 y2 := by
 obtain ⟨y1, hy1, _, hf1, hm1, hl1, _⟩ := taken m (n + 1) hn
 obtain ⟨y2, hy2, _, hf2, hm2, hl2, _⟩ := taken (m.eraseIdx (least (mt m) (n + 1 + 1))) n hl1
 have hle := least_le (mt m) (n + 2)
 have hle2 := least_le (mt (m.eraseIdx (least (mt m) (n + 2)))) (n + 1)
 have he : (mt m).eraseIdx (least (mt m) (n + 2)) = mt (m.eraseIdx (least (mt m) (n + 2))) := by
  unfold mt
  rw [erase_map]
 refine ⟨least (mt m) (n + 2), shift (least (mt m) (n + 2)) (least (mt (m.eraseIdx (least (mt m) (n + 2)))) (n + 1)), y1, y2, by omega, ?_, ?_, lb_first _ _ (by rw [mt_length]; exact hn) (by omega), ?_, hy1, ?_, _, rfl, ?_, hf1, ?_⟩
 ·unfold shift
  split <;> omega
 ·unfold shift
  split <;> omega
 ·have := lb_all (mt m) (least (mt m) (n + 2)) (n + 2) (by omega) (by omega)
  rw [this, he]
  rfl
 ·rw [← erase_at]
  exact hy2
 ·rw [← hn, midJ_all, hn, hm2, hm1, hf1, hf2, hm1]
  rfl
 ·rw [hf2, hm1]
  rfl
end Go.Proofs.YthbpenanelbbcaaGreatDoor.Hf


/- An append of some things onto a row of the call's own, or onto one that is empty and has no room: the row behind it lies above a mark. -/
namespace Go.Proofs.YthbpenanelbbcaaGreatDoor.Ap
open Go.RowKit
def Own0 (w : World) (base : Nat) (e : TypeId) (size : Nat) (v : Value) (n : Nat) (xs : List Value) : Prop :=
 (∃ b, v = .slice (some b) 0 0 ∧ n = 0 ∧ xs = []) ∨ w.ownsRow base e size v n xs
theorem Own0.below {w w' : World} {base : Nat} {e : TypeId} {size : Nat} {v : Value} {n : Nat} {xs : List Value} (h : Own0 w base e size v n xs) (b : Below w.heap.size w w') : Own0 w' base e size v n xs := by
 rcases h with h | ⟨hl, h⟩
 ·exact .inl h
 ·refine .inr ⟨hl, ?_⟩
  rcases h with h | ⟨g, cap, cur, hv, hg, hb, rest⟩
  ·exact .inl h
  ·exact .inr ⟨g, cap, cur, hv, hg, by rw [b.block g (Array.getElem?_eq_some_iff.1 hb).1]; exact hb, rest⟩
theorem Own0.alloc {w : World} {base : Nat} {e : TypeId} {size : Nat} {v : Value} {n : Nat} {xs : List Value} (h : Own0 w base e size v n xs) (o : Obj) : Own0 (w.alloc o) base e size v n xs :=
 h.below ((Below.refl _ _).alloc (Nat.le_refl _) o)
theorem Own0.keep {w w' : World} {base : Nat} {e : TypeId} {size : Nat} {v : Value} {n : Nat} {xs : List Value} (h : Own0 w base e size v n xs) (b : ∀ k, base ≤ k → k < w.heap.size → w'.heap[k]? = w.heap[k]?) : Own0 w' base e size v n xs := by
 rcases h with h | ⟨hl, h⟩
 ·exact .inl h
 ·refine .inr ⟨hl, ?_⟩
  rcases h with h | ⟨g, cap, cur, hv, hg, hb, rest⟩
  ·exact .inl h
  ·exact .inr ⟨g, cap, cur, hv, hg, by rw [b g hg (Array.getElem?_eq_some_iff.1 hb).1]; exact hb, rest⟩
theorem run_append_own0 {P : Program} (w : World) (base : Nat) (t ty e : TypeId) (i : TypeInfo) (z : Value) (size bytes : Nat) (ht : P.underlying t = some (.slice e)) (hi : P.info? e = some i) (hz : i.zero = some z)
  (hsize : i.size = size) (hby : i.bytes = bytes) (hzs : z.cells.size = size) (hsz : 0 < size)
  (v : Value) (n : Nat) (xs : List Value) (hown : Own0 w base e size v n xs)
  (a : Addr) (m c : Nat) (news : List Value) (hl : news.length = m * size) (hnews : ∀ j u, news[j]? = some u → w.cell? (a.add j) = some u) (h1 : ∀ u ∈ news, u.oneCell' = true) (hm : 0 < m)
  (h63 : n + m ≤ maxLen) (hbytes : (n + m) * bytes ≤ 140737488355328) (hbase : base ≤ w.heap.size) :
  ∃ v' w', (Builtin.append_ #[t, t] ty #[v, .slice (some a) m c]).run P w = .ok v' w' ∧ w'.ownsRow base e size v' (n + m) (xs ++ news) ∧ ∀ B, B ≤ base → Below B w w' := by
 rcases hown with ⟨b, rfl, rfl, rfl⟩ | hown
 ·subst hsize
  subst hby
  have hsmall : m ≤ 9223372036854775807 := by simp only [maxLen] at h63; omega
  have hr := run_append_grow (P := P) w t ty e i z ht hi hz b 0 0 [] (by simp) (by simp) a m c news hl hnews (by omega) (by omega) (growslice_fits (by omega) hbytes)
  refine ⟨_, _, hr, ?_, fun B hB => ?_⟩
  ·have hge := grownCap_ge w (0 + m) 0 e
   have hcm : grownCap w (0 + m) 0 e ≤ maxLen := grownCap_le_maxLen w (0 + m) 0 e h63
   refine ⟨by simpa using hl, .inr ⟨w.heap.size, _, _, rfl, hbase, heap_alloc_new w.drew _, hge, hcm, ?_, ?_⟩⟩
   ·simp only [Array.size_append, List.size_toArray, size_zeroCells, hzs, hl, List.length_nil]
    rw [Nat.zero_add, ← Nat.add_mul]
    congr 1
    omega
   ·simp only [Array.toList_append, List.nil_append]
    rw [show (0 + m) * i.size = news.length by rw [Nat.zero_add, hl]]
    exact List.take_left
  ·exact ((Below.refl B w).drew).alloc (by simp; omega) _
 ·obtain ⟨v', w', hr, h2, h3, _⟩ := run_append_own (P := P) w base t ty e i z size bytes ht hi hz hsize hby hzs hsz v n xs hown a m c news hl hnews h1 h63 hbytes hbase
  refine ⟨v', w', hr, h2, fun B hB => (Below.refl B w).grown h3 (by omega) ?_⟩
  intro k hk
  exact Nat.le_trans hB (hown.lt k hk).1
theorem wpList_append_own0 {P : Program} (w : World) {ops : Array Oper} {rest : List Oper} {o : Oper} {a : Act} {Q : Exit → Act → World → Prop} (hgd : o.guard = none) (s x : Operand) (t : TypeId)
  (ho : o.op = .call { callee := .builtin .append, args := #[s, x], argTypes := #[t, t] })
  (base : Nat) (e : TypeId) (i : TypeInfo) (z : Value) (size bytes : Nat) (ht : P.underlying t = some (.slice e)) (hi : P.info? e = some i) (hz : i.zero = some z)
  (hsize : i.size = size) (hby : i.bytes = bytes) (hzs : z.cells.size = size) (hsz : 0 < size)
  (v : Value) (n : Nat) (xs : List Value) (hs : a.eval s = v) (hown : Own0 w base e size v n xs)
  (ad : Addr) (m c : Nat) (news : List Value) (hx : a.eval x = .slice (some ad) m c) (hl : news.length = m * size) (hnews : ∀ j u, news[j]? = some u → w.cell? (ad.add j) = some u) (h1 : ∀ u ∈ news, u.oneCell' = true) (hm : 0 < m)
  (h63 : n + m ≤ maxLen) (hbytes : (n + m) * bytes ≤ 140737488355328) (hbase : base ≤ w.heap.size)
  (h : ∀ v' w', w'.ownsRow base e size v' (n + m) (xs ++ news) → (∀ B, B ≤ base → Below B w w') → wpList P ops Q rest (a.put o.dst v') w') : wpList P ops Q (o :: rest) a w :=
 wpList_plain hgd fun _ hK => by
  obtain ⟨v', w', hr, h2, h3⟩ := run_append_own0 (P := P) w base t o.type e i z size bytes ht hi hz hsize hby hzs hsz v n xs hown ad m c news hl hnews h1 hm h63 hbytes hbase
  unfold Oper.wp execOp
  simp only [ho, resolve, invoke, builtin, Sem.run_bind, Sem.run_pure, Result.andThen_ok, List.map_toArray, List.map_cons, List.map_nil, hs, hx, hr]
  exact hK _ _ (h v' w' h2 h3)
end Go.Proofs.YthbpenanelbbcaaGreatDoor.Ap


/- The walk of l04Join. -/
namespace Go.Proofs.YthbpenanelbbcaaGreatDoor.Hf
open Go.RowKit
open Go.Proofs.YthbpenanelbbcaaGreatDoor.In (IsI irow Ints)
open Go.Proofs.YthbpenanelbbcaaGreatDoor.Ap (Own0 wpList_append_own0)
theorem Tryz.infoTreeS : (Tryz.prog.info? 175).map (fun i => (i.zero, i.size, i.bytes)) = some (some (.agg #[.int .i64 0, .slice none 0 0]), 2, 32) := by kernel_rfl
theorem leastS_at (g n cap a : Nat) (but : Int) (k : Nat) (m : List MT) (cur : Array Value) (t : TypeId) (w W : World) (hB : Below w.heap.size w W) (hb : w.heap[g]? = some (.cells cur t (0, 0))) (ht : cur.toList.take (m.length * 2) = cells m) (hn : m.length = n) (h257 : n ≤ 257) (hbut : ∀ i, i < n → ((i : Int) = but ↔ i = a)) (hk : lb (mt m) a n = some k) :
  Calls Tryz.prog 157 #[.slice (some ⟨g, 0, none⟩) n cap, .int .i64 but] W fun e w' => e = .returned (.int .i64 (k : Nat)) ∧ Below w.heap.size w w' := by
 have := leastS_any g n cap a but m W hn h257 hbut (fun i hi => (row_at ((hB.block g (lt_row hb)).trans hb) ht i hi).1)
 rw [hk] at this
 refine this.mono ?_
 rintro e w' ⟨rfl, d, rfl⟩
 exact ⟨rfl, below_drewN hB d⟩
theorem Wr.drew {g gl : Nat} {a b : World} (h : Wr g gl a b) : Wr g gl a b.drew := ⟨h.os, h.tape, h.output, h.size, h.block⟩
theorem OwnT.mono {W : World} {e : TypeId} {base base' : Nat} {v : Value} {m : List MT} (h : OwnT W e base v m) (hb : base' ≤ base) : OwnT W e base' v m := by
 obtain ⟨hl, h⟩ := h
 refine ⟨hl, ?_⟩
 rcases h with h | ⟨g, cap, cur, hv, hg, rest⟩
 ·exact .inl h
 ·exact .inr ⟨g, cap, cur, hv, Nat.le_trans hb hg, rest⟩
theorem Wr.low {gl : Nat} {a b c : World} (h : Below a.heap.size a b) (k : Wr gl gl b c) : Wr gl gl a c :=
 ⟨k.os.trans h.os, k.tape.trans h.tape, k.output.trans h.output, Nat.le_trans h.size k.size, fun i hi h1 h2 => (k.block i (Nat.lt_of_lt_of_le hi h.size) h1 h2).trans (h.block i hi)⟩
set_option maxRecDepth 100000 in
set_option maxHeartbeats 2000000 in
theorem joinS_any (g gl n cap nl capl : Nat) (m : List MT) (d : List Nat) (cur : Array Value) (w : World) (hn : m.length = n + 2) (h257 : n + 2 ≤ 257) (hb : w.heap[g]? = some (.cells cur 175 (0, 0))) (ht : cur.toList.take (m.length * 2) = cells m)
  (hy : Syms w m) (hsl : ∀ x ∈ m, x.1.2.length ≤ 257) (hne : ∀ x ∈ m, 0 < x.1.2.length) (hlt : ∀ x ∈ m, ∀ s ∈ x.1.2, s < d.length) (hd : IsI w gl 2 (up d)) (hdn : d.length = nl) (hdm : ∀ j, d.getD j 0 ≤ 3000000) (hww : (first (mt m)).1 + (second (mt m)).1 ≤ 2570000) :
  Calls Tryz.prog 150 #[.slice (some ⟨g, 0, none⟩) (n + 2) cap, .slice (some ⟨gl, 0, none⟩) nl capl] w fun e w' =>
   ∃ v m', e = .returned v ∧ mt m' = join (mt m) ∧ OwnT w' 175 w.heap.size v m' ∧ Syms w' m' ∧ IsI w' gl 2 (up (incs (incs d (first (mt m)).2) (second (mt m)).2)) ∧ Wr gl gl w w' := by
 obtain ⟨i0, hi, hz0, hz1, hz2⟩ := info_parts Tryz.infoInt
 obtain ⟨j0, hji, hj0, hj1, hj2⟩ := info_parts Tryz.infoTreeS
 obtain ⟨a, b, y1, y2, T⟩ := two_of m n hn
 obtain ⟨b', hbb, hjn, hf1, hf2⟩ := T.jn
 have an := T.an
 have bn := T.bn
 have hgl : g ≠ gl := by
  rintro rfl
  have := hd
  unfold IsI at this
  rw [hb] at this
  simp at this
 have HL1 := hideH (fun (W : World) (hB : Below w.heap.size w W) => leastS_at g (n + 2) cap (n + 2) (-1) a m cur _ w W hB hb ht hn h257 (fun i hi => ⟨fun h => by omega, fun h => by omega⟩) T.fa)
 have HL2 := hideH (fun (W : World) (hB : Below w.heap.size w W) => leastS_at g (n + 2) cap a (a : Int) b m cur _ w W hB hb ht hn h257 (fun i hi => by omega) T.fb)
 have hal : a < m.length := by omega
 have hbl : b < m.length := by omega
 have e1 : m[a] = y1 := by have := T.at1; rw [List.getElem?_eq_getElem hal] at this; exact Option.some.inj this
 have e2 : m[b] = y2 := by have := T.at2; rw [List.getElem?_eq_getElem hbl] at this; exact Option.some.inj this
 have hm1 : y1 ∈ m := by rw [← e1]; exact List.getElem_mem hal
 have hm2 : y2 ∈ m := by rw [← e2]; exact List.getElem_mem hbl
 have HR1 := hideH (fun (W : World) (h : W.heap[g]? = some (.cells cur 175 (0, 0))) => row_at (m := m) h ht a hal)
 have HR2 := hideH (fun (W : World) (h : W.heap[g]? = some (.cells cur 175 (0, 0))) => row_at (m := m) h ht b hbl)
 have HRI := hideH (fun (W : World) (h : W.heap[g]? = some (.cells cur 175 (0, 0))) => row_at (m := m) h ht)
 rw [e1] at HR1
 rw [e2] at HR2
 have HY1 := hy y1 hm1
 have HY2 := hy y2 hm2
 have hs1 := hsl y1 hm1
 have hs2 := hsl y2 hm2
 have hn1 := hne y1 hm1
 have HLT : Hid (∀ s ∈ y1.1.2 ++ y2.1.2, s < d.length) := by
  intro s hs
  rcases List.mem_append.1 hs with hs | hs
  ·exact hlt y1 hm1 s hs
  ·exact hlt y2 hm2 s hs
 have hwl : y1.1.1 + y2.1.1 ≤ 2570000 := by rw [hf1, hf2]; exact hww
 have HINC : Hid (incs (incs d (first (mt m)).2) (second (mt m)).2 = incs d (y1.1.2 ++ y2.1.2)) := by
  unfold Hid
  rw [← hf1, ← hf2, incs_two]
 have HJN := hideH hjn
 have HSK := hideH (midJ_skip m a b')
 have HKP := hideH (midJ_keep m a b')
 rw [← hbb] at HSK HKP
 have HML := hideH (midJ_length m a b')
 have HMM := hideH (midJ_mem m a b')
 have HN := hideH hn
 have HY := hideH hy
 have HB := hideH hb
 have HD := hideH hd
 have HDM := hideH hdm
 have HDN := hideH hdn
 have hgz := lt_row hb
 have hlz := hd.lt
 have hne2 := T.ne
 rw [HINC.out]
 clear hjn hbb e1 e2 hal hbl hm1 hm2 hsl hne hlt hdm hdn hd hb ht hy hn hww hf1 hf2 T HINC
 obtain ⟨⟨w1', s1⟩, v1⟩ := y1
 obtain ⟨⟨w2', s2⟩, v2⟩ := y2
 simp only at HR1 HR2 HY1 HY2 hs1 hs2 hn1 HLT hwl HJN ⊢
 obtain ⟨g1, c1, cu1, rfl, hh1, hq1, hc1⟩ := HY1
 obtain ⟨g2, c2, cu2, rfl, hh2, hq2, hc2⟩ := HY2
 have HNA := hideH (fun (W : World) (h : Keeps w W) => Sym.news (W := W) (g := g1) (s := s1) fun j hj => (cell_of_row W g1 j _ _ _ (h g1 _ hh1)).trans (hc1 j hj))
 have HNB := hideH (fun (W : World) (h : Keeps w W) => Sym.news (W := W) (g := g2) (s := s2) fun j hj => (cell_of_row W g2 j _ _ _ (h g2 _ hh2)).trans (hc2 j hj))
 have HLA := hideH (nums_length s1)
 have HLB := hideH (nums_length s2)
 obtain ⟨na, hna⟩ : ∃ na, na = s1.length := ⟨_, rfl⟩
 obtain ⟨nb, hnb⟩ : ∃ nb, nb = s2.length := ⟨_, rfl⟩
 have EA := hideH hna
 have EB := hideH hnb
 rw [← hna] at hs1 hn1 HR1
 rw [← hnb] at hs2 HR2
 clear hna hnb hh1 hc1 hq1 hh2 hc2 hq2
 have an' : (a : Int) < (n : Int) + 2 := by omega
 have bn' : (b : Int) < (n : Int) + 2 := by omega
 go_enter Tryz.func150, Tryz.ntmps150
 go_wp2_with fail
 refine (HL1.out _ (Below.refl _ _)).mono ?_
 rintro e w3 ⟨rfl, hb3⟩
 have B3 := hideH hb3
 clear hb3
 go_wp2_with fail
 refine (HL2.out _ B3.out).mono ?_
 rintro e w4 ⟨rfl, hb4⟩
 have B4 := hideH hb4
 have hz4 := hb4.size
 have G4 := hideH ((hb4.block g hgz).trans HB.out)
 have B4a : Hid (Below w4.heap.size w4 (w4.alloc (.cells #[] 3))) := (Below.refl _ _).alloc (Nat.le_refl _) _
 obtain ⟨r10, r11⟩ := HR1.out _ ((B4a.out.block g (by omega)).trans G4.out)
 clear hb4 HL1 HL2 B3
 go_wp2_with (at_builtin; refine wpList_append_own0 _ rfl (.tmp 17) (.tmp 22) 135 rfl w.heap.size 3 i0 (.int .i64 0) 1 8 Tryz.underlying135 hi hz0 hz1 hz2 rfl (by decide) _ 0 [] rfl (.inl ⟨_, rfl, rfl, rfl⟩) ⟨g1, 0, none⟩ na c1 (nums s1) rfl (by rw [HLA.out, ← EA.out]; omega) (HNA.out _ ?k1) (nums_one _) hn1 (by unfold maxLen; omega) (by omega) ?z1 ?_)
 case z1 => simp; omega
 case k1 => exact (Keeps.below (B4.out.mono (by omega))).trans (Keeps.below B4a.out)
 intro v5 w5 hown hbel
 have O5 : Hid (OwnY w5 w.heap.size v5 s1) := by
  unfold Hid OwnY
  rw [← EA.out]
  simpa using hown
 have B5 : Hid (Below w.heap.size w w5) := (B4.out.alloc hz4 _).trans (hbel _ (Nat.le_refl _))
 have hz5 := B5.out.size
 have G5 := hideH ((B5.out.block g hgz).trans HB.out)
 clear hown hbel r10 r11
 obtain ⟨r20, r21⟩ := HR2.out _ G5.out
 clear B4 B4a G4 hz4
 go_wp2_with (at_builtin; refine wpList_append_own _ rfl (.tmp 24) (.tmp 29) 135 rfl w.heap.size 3 i0 (.int .i64 0) 1 8 Tryz.underlying135 hi hz0 hz1 hz2 rfl (by decide) _ _ _ rfl O5.out ⟨g2, 0, none⟩ nb c2 (nums s2) rfl (by rw [HLB.out, ← EB.out]; omega) (HNB.out _ (Keeps.below B5.out)) (nums_one _) (by unfold maxLen; rw [← EA.out]; omega) (by rw [← EA.out]; omega) hz5 ?_)
 intro v6 w6 hown hgrow _
 have O6 : Hid (OwnY w6 w.heap.size v6 (s1 ++ s2)) := by
  rw [EB.out] at hown
  exact OwnY.app hown
 have B6 : Hid (Below w.heap.size w w6) := by
  refine B5.out.grown hgrow hz5 ?_
  intro k hk
  exact (World.ownsRow.lt O5.out k hk).1
 clear hown hgrow r20 r21 O5 B5 G5 hz5
 have hz6 := B6.out.size
 have HSL : Hid (na + nb = (s1 ++ s2).length) := by
  unfold Hid
  rw [List.length_append, ← EA.out, ← EB.out]
 obtain ⟨g7, c7, cu7, hv6, hh7, hq7, hc7⟩ := O6.out.sym (by rw [← HSL.out]; omega)
 rw [← HSL.out] at hv6
 subst hv6
 have H7 := hideH hh7
 have HC7 := hideH hc7
 have HS6 : Hid (Sym w6 (.slice (some ⟨g7, 0, none⟩) (na + nb) c7) (s1 ++ s2)) := O6.out.sym (by rw [← HSL.out]; omega)
 have h7z := lt_row hh7
 have hd6 : IsI w6 gl 2 (up d) := HD.out.below B6.out hlz
 have h7l : g7 ≠ gl := by
  rintro rfl
  unfold IsI at hd6
  rw [hh7] at hd6
  simp at hd6
 have hsn : na + nb ≤ 514 := by omega
 have HIN := hideH (fun j => incs_le ((s1 ++ s2).take j) d)
 have HD6 : Hid (IsI w6 gl 2 (up (incs d ((s1 ++ s2).take 0)))) := hd6
 generalize hse : s1 ++ s2 = s at HLT HJN HSL HC7 HS6 HIN HD6 ⊢
 have HSE := hideH hse
 clear hse
 clear hh7 hq7 hc7 O6 HNA HNB hd6 HLA HLB EA EB
 obtain ⟨sl, hsl⟩ : ∃ sl, sl = na + nb := ⟨_, rfl⟩
 rw [← hsl] at HSL HS6 hsn ⊢
 have hs0 : 0 < sl := by omega
 clear hsl
 go_wp2_with fail
 go_loopw [8] (fun iv wr => ∃ j : Nat, iv = .int .i64 j ∧ j ≤ sl ∧ IsI wr gl 2 (up (incs d (s.take j))) ∧ Wr gl gl w6 wr) (fun iv _ => sl - (intOf iv).toNat)
 case atStart => exact ⟨0, rfl, Nat.zero_le _, HD6.out, Wr.refl _ _ _⟩
 case round =>
  obtain ⟨j, rfl, hj, hdj, hwr⟩ := hrel
  have HDJ := hideH hdj
  have HWR := hideH hwr
  clear hdj hwr
  by_cases hlt : j < sl
  ·have hjx : j < s.length := by rw [← HSL.out]; exact hlt
   have cs0 : wr.cell? ⟨g7, j, none⟩ = some (.int .i64 (s[j] : Nat)) := (cell_of_row wr g7 j _ _ _ ((HWR.out.block g7 h7z h7l h7l).trans H7.out)).trans (HC7.out j hjx)
   have hsy := HLT.out s[j] (List.getElem_mem hjx)
   have HNX := hideH (incs_next d s j hjx)
   have HBD := hideH (HIN.out j s[j] (fun x hx => HLT.out x (List.mem_of_mem_take hx)))
   have HBM := hideH (HDM.out s[j])
   generalize s[j] = sy at cs0 hsy HNX HBD HBM
   have hlen : sy < (incs d (s.take j)).length := by rw [incs_length]; exact hsy
   have cl0 : wr.cell? ⟨gl, sy, none⟩ = some (.int .i64 (((incs d (s.take j)).getD sy 0 : Nat) : Int)) := by
    rw [HDJ.out.cell (j := sy) (by rw [up_length]; exact hlen), up_at _ _ hlen]
   have zl0 := HDJ.out.frozen sy
   have hsn' : (sy : Int) < nl := by have := HDN.out; omega
   have HTL : Hid ((s.take j).length ≤ 514) := by
    unfold Hid
    rw [List.length_take]
    omega
   obtain ⟨dv, hdv⟩ : ∃ dv, dv = (incs d (s.take j)).getD sy 0 := ⟨_, rfl⟩
   have hdvb : dv ≤ 3000514 := by have h1 := HBD.out; have h2 := HBM.out; have h3 := HTL.out; omega
   have HDV := hideH hdv
   rw [← hdv] at cl0
   clear hdv hjx hsy hlen HBD HBM HTL
   have hjl : (j : Int) < (sl : Int) := by omega
   go_wp2_with fail
   go_region
   all_goals (
    go_wp2_with fail
    go_roundw
    case rel =>
     refine ⟨j + 1, by go_num, by omega, ?_, (HWR.out.setl _ _).drew⟩
     have := HDJ.out.set sy ((dv : Int) + 1)
     rw [HNX.out, ← HDV.out, ← up_set]
     exact this
    case measure => simp [intOf]; omega)
  ·obtain rfl : j = sl := by omega
   have HDE : Hid (IsI wr gl 2 (up (incs d s))) := by
    have := HDJ.out
    rw [HSL.out, List.take_length] at this
    exact this
   have WW : Hid (Wr gl gl w wr) := Wr.low B6.out HWR.out
   have HSW : Hid (Sym wr (.slice (some ⟨g7, 0, none⟩) j c7) s) := by
    obtain ⟨x1, x2, x3, x4, x5, x6⟩ := HS6.out
    obtain ⟨rfl, rfl⟩ : g7 = x1 ∧ c7 = x2 := by simpa [← HSL.out] using x4
    exact ⟨g7, c7, x3, x4, (HWR.out.block g7 h7z h7l h7l).trans x5, x6⟩
   have hzr := HWR.out.size
   have GR := hideH ((WW.out.block g hgz hgl hgl).trans HB.out)
   obtain ⟨r10, r11⟩ := HR1.out _ GR.out
   obtain ⟨r20, r21⟩ := HR2.out _ GR.out
   have hwp : IntKind.i64.wrap ((w1' : Int) + (w2' : Int)) = (w1' : Int) + (w2' : Int) := by rw [IntKind.wrap_i64]; omega
   have BA := hideH (show Below wr.heap.size wr (wr.alloc (.cells #[.int .i64 0, .slice none 0 0] 175)) from (Below.refl _ _).alloc (Nat.le_refl _) _)
   obtain ⟨q10, q11⟩ := HR1.out _ ((BA.out.block g (by omega)).trans GR.out)
   obtain ⟨q20, q21⟩ := HR2.out _ ((BA.out.block g (by omega)).trans GR.out)
   clear HDJ HIN HC7 H7 HD6 HLT r11 r21 q11 q21
   go_wp2_with fail
   go_region
   have hcast : (w1' : Int) + (w2' : Int) = ((w1' + w2' : Nat) : Int) := by omega
   rw [hcast]
   generalize w1' + w2' = ws at HJN hwl ⊢
   clear hcast hwp r10 r20 q10 q20 BA HR1 HR2
   have B9 := hideH (show Below wr.heap.size wr (wr.alloc (.cells #[.int .i64 (ws : Nat), .slice (some ⟨g7, 0, none⟩) j c7] 175)).drew from ((Below.refl _ _).alloc (Nat.le_refl _) _).drew)
   have R9 : Hid ((wr.alloc (.cells #[.int .i64 (ws : Nat), .slice (some ⟨g7, 0, none⟩) j c7] 175)).drew.heap[wr.heap.size]? = some (.cells #[.int .i64 (ws : Nat), .slice (some ⟨g7, 0, none⟩) j c7] 175 (0, 0))) := heap_alloc_new wr _
   have hz9 : (wr.alloc (.cells #[.int .i64 (ws : Nat), .slice (some ⟨g7, 0, none⟩) j c7] 175)).drew.heap.size = wr.heap.size + 1 := by simp
   generalize (wr.alloc (.cells #[.int .i64 (ws : Nat), .slice (some ⟨g7, 0, none⟩) j c7] 175)).drew = W9 at B9 R9 hz9 ⊢
   have W9W := hideH (WW.out.more B9.out)
   have G9 := hideH ((B9.out.block g (by omega)).trans GR.out)
   have D9 : Hid (IsI W9 gl 2 (up (incs d s))) := HDE.out.below B9.out HDE.out.lt
   have S9 := hideH (HSW.out.keeps (Keeps.below B9.out))
   have Y9 : Hid (Syms W9 m) := HY.out.keeps ((Keeps.wr WW.out HD.out (by decide) HD.out (by decide)).trans (Keeps.below B9.out))
   have hz99 : w.heap.size ≤ W9.heap.size := W9W.out.size
   have C90 : Hid (∀ W, Below W9.heap.size W9 W → W.heap[wr.heap.size]? = some (.cells #[.int .i64 (ws : Nat), .slice (some ⟨g7, 0, none⟩) j c7] 175 (0, 0))) := fun W h => (h.block _ (by omega)).trans R9.out
   have hg9 : g < W9.heap.size := by omega
   have hl9 := D9.out.lt
   clear B9 WW GR HDE HSW HWR B6 HS6 R9 HY HB HD
   generalize wr.heap.size = z9 at hz9 C90 hzr ⊢
   clear wr hz9
   go_wp2_with fail
   go_loopw [11, 10] (fun iv ov wq => ∃ i : Nat, iv = .int .i64 i ∧ i ≤ n + 2 ∧ Own0 wq W9.heap.size 175 2 ov (midJ m a b' i).length (cells (midJ m a b' i)) ∧ Below W9.heap.size W9 wq) (fun iv _ _ => n + 2 - (intOf iv).toNat)
   case atStart => exact ⟨0, rfl, Nat.zero_le _, .inl ⟨_, rfl, by simp [midJ], by simp [midJ, cells]⟩, (Below.refl _ _).alloc (Nat.le_refl _) _⟩
   case round =>
    obtain ⟨i, rfl, hi2, ho, hbq⟩ := hrel
    have OQ := hideH ho
    have BQ := hideH hbq
    have hzq := hbq.size
    clear ho hbq
    by_cases hlt2 : i < n + 2
    ·have him : i < m.length := by rw [HN.out]; exact hlt2
     have hi' : (i : Int) < (n : Int) + 2 := by omega
     by_cases hia : i = a
     ·have SK := hideH (HSK.out i him (.inl hia))
      subst hia
      go_wp2_with fail
      go_roundw
      case rel => exact ⟨i + 1, by go_num, by omega, by rw [SK.out]; exact OQ.out, BQ.out⟩
      case measure => simp [intOf]; omega
     ·have hna : ((i : Int) != (a : Int)) = true := by simp; omega
      by_cases hib : i = b
      ·have SK := hideH (HSK.out i him (.inr hib))
       subst hib
       clear hia
       go_wp2_with fail
       go_roundw
       case rel => exact ⟨i + 1, by go_num, by omega, by rw [SK.out]; exact OQ.out, BQ.out⟩
       case measure => simp [intOf]; omega
      ·have hnb : ((i : Int) != (b : Int)) = true := by simp; omega
       have KP := hideH (HKP.out i him hia hib)
       have SX := Y9.out m[i] (List.getElem_mem him)
       have B1 := hideH (BQ.out)
       obtain ⟨ri0, ri1⟩ := HRI.out _ ((BQ.out.block g hg9).trans G9.out) i him
       have hml := HML.out i
       generalize m[i] = x at KP SX ri0 ri1
       obtain ⟨⟨xw, xs⟩, xv⟩ := x
       simp only at SX ri0 ri1
       obtain ⟨gx, cx, cux, rfl, _, _, _⟩ := SX
       obtain ⟨lx, hlx⟩ : ∃ lx, lx = xs.length := ⟨_, rfl⟩
       have HLX := hideH hlx
       rw [← hlx] at ri1
       clear hlx hia hib
       go_wp2_with (at_builtin; refine wpList_append_own0 _ rfl (.tmp 79) (.tmp 84) 173 rfl W9.heap.size 175 j0 _ 2 32 Tryz.underlying173 hji hj0 hj1 hj2 rfl (by decide) _ _ _ rfl (OQ.out.alloc _) ⟨wr.heap.size, 0, none⟩ 1 1 [.int .i64 (xw : Nat), .slice (some ⟨gx, 0, none⟩) lx cx] rfl rfl (two_new _ _ _ _) (two_one rfl rfl) (by decide) (by unfold maxLen; omega) (by omega) (by simp; omega) ?_)
       intro v' w2 hown hbel
       have O2 : Hid (Own0 w2 W9.heap.size 175 2 v' (midJ m a b' (i + 1)).length (cells (midJ m a b' (i + 1)))) := by
        refine .inr ?_
        have := OwnT.snoc (m := midJ m a b' i) (x := ((xw, xs), .slice (some ⟨gx, 0, none⟩) lx cx)) hown
        rw [KP.out, ← HLX.out]
        exact this
       have B2 : Hid (Below W9.heap.size W9 w2) := (BQ.out.alloc hzq _).trans (hbel _ (Nat.le_refl _))
       clear hown hbel
       go_wp2_with fail
       go_roundw
       case rel => exact ⟨i + 1, by go_num, by omega, O2.out, B2.out⟩
       case measure => simp [intOf]; omega
    ·obtain rfl : i = n + 2 := by omega
     have c90 := cell_of_row wr _ 0 _ _ _ (C90.out wr BQ.out)
     have c91 := cell_of_row wr _ 1 _ _ _ (C90.out wr BQ.out)
     simp at c90 c91
     have hml := HML.out (n + 2)
     go_wp2_with (at_builtin; refine wpList_append_own0 _ rfl (.tmp 86) (.tmp 88) 173 rfl W9.heap.size 175 j0 _ 2 32 Tryz.underlying173 hji hj0 hj1 hj2 rfl (by decide) _ _ _ rfl (OQ.out.alloc _) ⟨wr.heap.size, 0, none⟩ 1 1 [.int .i64 (ws : Nat), .slice (some ⟨g7, 0, none⟩) j c7] rfl rfl (two_new _ _ _ _) (two_one rfl rfl) (by decide) (by unfold maxLen; omega) (by omega) (by simp; omega) ?_)
     intro v' w2 hown hbel
     have O2 : Hid (OwnT w2 175 w.heap.size v' (midJ m a b' (n + 2) ++ [((ws, s), .slice (some ⟨g7, 0, none⟩) j c7)])) := (OwnT.snoc (m := midJ m a b' (n + 2)) (x := ((ws, s), .slice (some ⟨g7, 0, none⟩) j c7)) hown).mono hz99
     have B2 : Hid (Below W9.heap.size W9 w2) := (BQ.out.alloc hzq _).trans (hbel _ (Nat.le_refl _))
     have Y2 : Hid (Syms w2 (midJ m a b' (n + 2) ++ [((ws, s), .slice (some ⟨g7, 0, none⟩) j c7)])) := by
      intro x hx
      rcases List.mem_append.1 hx with hx | hx
      ·exact (Y9.out x (HMM.out _ x hx)).keeps (Keeps.below B2.out)
      ·rw [List.mem_singleton.1 hx]
       exact S9.out.keeps (Keeps.below B2.out)
     clear hown hbel
     go_wp2_with fail
     go_ret
     refine ⟨_, _, rfl, ?_, O2.out, Y2.out, by rw [HSE.out]; exact D9.out.below B2.out hl9, W9W.out.more B2.out⟩
     rw [← HJN.out]
     unfold mt
     rw [List.map_append]
     rfl
end Go.Proofs.YthbpenanelbbcaaGreatDoor.Hf


/- An append of some things onto a row of the call's own, or onto one that is empty and has no room: rows of another element type stay as they were. -/
namespace Go.Proofs.YthbpenanelbbcaaGreatDoor.Ap
open Go.RowKit
def KeepE (e : TypeId) (W W' : World) : Prop := ∀ (g : Nat) (cur : Array Value) (t : TypeId), t ≠ e → W.heap[g]? = some (.cells cur t (0, 0)) → W'.heap[g]? = some (.cells cur t (0, 0))
theorem KeepE.below {e : TypeId} {W W' : World} (h : Below W.heap.size W W') : KeepE e W W' := fun g _ _ _ hg => (h.block g (Array.getElem?_eq_some_iff.1 hg).1).trans hg
theorem keepE_own {W W' : World} {base size n : Nat} {e : TypeId} {v : Value} {xs : List Value} (h : W.grownBy W' v.ownBlock) (ho : W.ownsRow base e size v n xs) : KeepE e W W' := fun g cur t ht hg => by
 rw [h.block g (Array.getElem?_eq_some_iff.1 hg).1 (by
  intro hk
  obtain ⟨_, ho⟩ := ho
  rcases ho with ⟨hv, _⟩ | ⟨k, cap, cs, hv, _, hb, _⟩
  ·subst hv
   simp [Value.ownBlock] at hk
  ·subst hv
   simp [Value.ownBlock] at hk
   subst hk
   rw [hb] at hg
   simp at hg
   exact ht hg.2.symm)]
 exact hg
theorem run_append_own0k {P : Program} (w : World) (base : Nat) (t ty e : TypeId) (i : TypeInfo) (z : Value) (size bytes : Nat) (ht : P.underlying t = some (.slice e)) (hi : P.info? e = some i) (hz : i.zero = some z)
  (hsize : i.size = size) (hby : i.bytes = bytes) (hzs : z.cells.size = size) (hsz : 0 < size)
  (v : Value) (n : Nat) (xs : List Value) (hown : Own0 w base e size v n xs)
  (a : Addr) (m c : Nat) (news : List Value) (hl : news.length = m * size) (hnews : ∀ j u, news[j]? = some u → w.cell? (a.add j) = some u) (h1 : ∀ u ∈ news, u.oneCell' = true) (hm : 0 < m)
  (h63 : n + m ≤ maxLen) (hbytes : (n + m) * bytes ≤ 140737488355328) (hbase : base ≤ w.heap.size) :
  ∃ v' w', (Builtin.append_ #[t, t] ty #[v, .slice (some a) m c]).run P w = .ok v' w' ∧ w'.ownsRow base e size v' (n + m) (xs ++ news) ∧ (∀ B, B ≤ base → Below B w w') ∧ KeepE e w w' := by
 rcases hown with ⟨b, rfl, rfl, rfl⟩ | hown
 ·subst hsize
  subst hby
  have hsmall : m ≤ 9223372036854775807 := by simp only [maxLen] at h63; omega
  have hr := run_append_grow (P := P) w t ty e i z ht hi hz b 0 0 [] (by simp) (by simp) a m c news hl hnews (by omega) (by omega) (growslice_fits (by omega) hbytes)
  refine ⟨_, _, hr, ?_, fun B hB => ?_, KeepE.below (((Below.refl _ w).drew).alloc (Nat.le_refl _) _)⟩
  ·have hge := grownCap_ge w (0 + m) 0 e
   have hcm : grownCap w (0 + m) 0 e ≤ maxLen := grownCap_le_maxLen w (0 + m) 0 e h63
   refine ⟨by simpa using hl, .inr ⟨w.heap.size, _, _, rfl, hbase, heap_alloc_new w.drew _, hge, hcm, ?_, ?_⟩⟩
   ·simp only [Array.size_append, List.size_toArray, size_zeroCells, hzs, hl, List.length_nil]
    rw [Nat.zero_add, ← Nat.add_mul]
    congr 1
    omega
   ·simp only [Array.toList_append, List.nil_append]
    rw [show (0 + m) * i.size = news.length by rw [Nat.zero_add, hl]]
    exact List.take_left
  ·exact ((Below.refl B w).drew).alloc (by simp; omega) _
 ·obtain ⟨v', w', hr, h2, h3, _⟩ := run_append_own (P := P) w base t ty e i z size bytes ht hi hz hsize hby hzs hsz v n xs hown a m c news hl hnews h1 h63 hbytes hbase
  refine ⟨v', w', hr, h2, fun B hB => (Below.refl B w).grown h3 (by omega) ?_, keepE_own h3 hown⟩
  intro k hk
  exact Nat.le_trans hB (hown.lt k hk).1
theorem wpList_append_own0k {P : Program} (w : World) {ops : Array Oper} {rest : List Oper} {o : Oper} {a : Act} {Q : Exit → Act → World → Prop} (hgd : o.guard = none) (s x : Operand) (t : TypeId)
  (ho : o.op = .call { callee := .builtin .append, args := #[s, x], argTypes := #[t, t] })
  (base : Nat) (e : TypeId) (i : TypeInfo) (z : Value) (size bytes : Nat) (ht : P.underlying t = some (.slice e)) (hi : P.info? e = some i) (hz : i.zero = some z)
  (hsize : i.size = size) (hby : i.bytes = bytes) (hzs : z.cells.size = size) (hsz : 0 < size)
  (v : Value) (n : Nat) (xs : List Value) (hs : a.eval s = v) (hown : Own0 w base e size v n xs)
  (ad : Addr) (m c : Nat) (news : List Value) (hx : a.eval x = .slice (some ad) m c) (hl : news.length = m * size) (hnews : ∀ j u, news[j]? = some u → w.cell? (ad.add j) = some u) (h1 : ∀ u ∈ news, u.oneCell' = true) (hm : 0 < m)
  (h63 : n + m ≤ maxLen) (hbytes : (n + m) * bytes ≤ 140737488355328) (hbase : base ≤ w.heap.size)
  (h : ∀ v' w', w'.ownsRow base e size v' (n + m) (xs ++ news) → (∀ B, B ≤ base → Below B w w') → KeepE e w w' → wpList P ops Q rest (a.put o.dst v') w') : wpList P ops Q (o :: rest) a w :=
 wpList_plain hgd fun _ hK => by
  obtain ⟨v', w', hr, h2, h3, h4⟩ := run_append_own0k (P := P) w base t o.type e i z size bytes ht hi hz hsize hby hzs hsz v n xs hown ad m c news hl hnews h1 hm h63 hbytes hbase
  unfold Oper.wp execOp
  simp only [ho, resolve, invoke, builtin, Sem.run_bind, Sem.run_pure, Result.andThen_ok, List.map_toArray, List.map_cons, List.map_nil, hs, hx, hr]
  exact hK _ _ (h v' w' h2 h3 h4)
end Go.Proofs.YthbpenanelbbcaaGreatDoor.Ap

