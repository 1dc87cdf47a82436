/- Texts put together: GetTextWalks, TextWalks, NumBack, UnNums, IntHeld, IntIn, WholeSpec. -/
import Derived.Test.YthbpenanelbbcaaGreatDoorBz28
import Derived.Test.YthbpenanelbbcaaGreatDoorBz29
import Derived.RegionTactic
import Derived.BigRegion
import Derived.Test.YthbpenanelbbcaaGreatDoorBz2
import Derived.Test.YthbpenanelbbcaaGreatDoorBz23
import Derived.Test.YthbpenanelbbcaaGreatDoorBz27
import Derived.Test.YthbpenanelbbcaaGreatDoorBz9
import Derived.Test.YthbpenanelbbcaaGreatDoorBz18
/- The walk of impl.GetText: it answers Gn.textV of its text and place, and writes nothing that was there. -/
namespace Go.Proofs.YthbpenanelbbcaaGreatDoor.Gn
open Go.RowKit
def rt (s : ByteArray) (a : Int) : ByteArray × Nat × Int :=
 if (rd s a).2.2 ≠ 0 then (⟨#[]⟩, 0, (rd s a).2.2)
 else if (rd s a).1 < 0 ∨ 8000 < (rd s a).1 then (⟨#[]⟩, 0, 3)
 else if s.size < (rd s a).2.1 + (rd s a).1.toNat then (⟨#[]⟩, 0, 4)
 else (s.extract (rd s a).2.1 ((rd s a).2.1 + (rd s a).1.toNat), (rd s a).2.1 + (rd s a).1.toNat, 0)
def outT (t : ByteArray) (at_ code : Int) : Value := .agg #[.string t, .int .i64 at_, .int .i64 code]
def textV (s : ByteArray) (a : Int) : Value := outT (rt s a).1 (rt s a).2.1 (rt s a).2.2
def tupV (r : ByteArray × Nat × Int) : Value := .tuple #[.string r.1, .int .i64 r.2.1, errV r.2.2]
end Go.Proofs.YthbpenanelbbcaaGreatDoor.Gn


/- The walks of spec.PutText and impl.PutText (each answers Nu.putT of its text). -/
namespace Go.Proofs.YthbpenanelbbcaaGreatDoor.Nu
open Go.RowKit
def putT (t : ByteArray) : ByteArray := if t.size ≤ 8000 then putS (t.size : Int) ++ t else ⟨#[]⟩
theorem putS_size (n : Int) : (putS n).size ≤ 10 := by
 have := (numB_length (zz n)).1
 simpa [putS, ByteArray.size] using this
end Go.Proofs.YthbpenanelbbcaaGreatDoor.Nu


/- Numbers and texts there and back, said of what PutNum, GetNum, PutText and GetText answer. -/
namespace Go.Proofs.YthbpenanelbbcaaGreatDoor.Nm2
open Go.Proofs.YthbpenanelbbcaaGreatDoor.Nu Go.Proofs.YthbpenanelbbcaaGreatDoor.Gn
theorem getD_mid (pre l post : List UInt8) (j : Nat) (h : j < l.length) : (pre ++ (l ++ post)).getD (pre.length + j) 0 = l.getD j 0 := by
 rw [List.getD_eq_getElem?_getD, List.getD_eq_getElem?_getD, List.getElem?_append_right (by omega), List.getElem?_append_left (by omega)]
 congr 2
 omega
theorem numH_get (U K j : Nat) (hj : j < K) : (numH U K).getD j 0 = UInt8.ofNat (U / 128 ^ j % 128 + 128) := by
 rw [List.getD_eq_getElem?_getD]
 simp [numH, hj]
theorem numL_get (U K j : Nat) (hj : j < K) : (numL U K).getD j 0 = UInt8.ofNat (U / 128 ^ j % 128 + 128) := by
 rw [← numH_get U K j hj, List.getD_eq_getElem?_getD, List.getD_eq_getElem?_getD]
 unfold numL
 rw [List.getElem?_append_left (by rw [numH_length]; exact hj)]
theorem numL_last (U K : Nat) : (numL U K).getD K 0 = UInt8.ofNat (U / 128 ^ K) := by
 rw [List.getD_eq_getElem?_getD]
 unfold numL
 rw [List.getElem?_append_right (by rw [numH_length]; omega), numH_length]
 simp
theorem size_of (s : ByteArray) : s.size = s.data.toList.length := by rw [Array.length_toList]; rfl
theorem mid (s : ByteArray) (U : Nat) (pre post : List UInt8) (hU : U < 18446744073709551616) (h : s.data.toList = pre ++ (numB U ++ post)) :
  numR s pre.length = (U, pre.length + (numB U).length, 0) := by
 obtain ⟨hK, hall, hlast⟩ := cnt_spec U hU
 have hn : numB U = numL U (cnt 9 U) := rfl
 have hlen : (numB U).length = cnt 9 U + 1 := by rw [hn, numL_length]
 have hsz : s.size = pre.length + (cnt 9 U + 1) + post.length := by rw [size_of, h]; simp [hlen]; omega
 have hd := dec s U pre.length (cnt 9 U) hU hK hall hlast (by omega)
  (fun j hj => by
   unfold byteN
   rw [h, getD_mid pre _ post j (by omega), hn, numL_get _ _ _ hj, UInt8.toNat_ofNat', Nat.mod_eq_of_lt (by omega)])
  (by
   unfold byteN
   rw [h, getD_mid pre _ post _ (by omega), hn, numL_last, UInt8.toNat_ofNat', Nat.mod_eq_of_lt (by omega)])
  (cnt 9 U) 0 (by omega) (by omega)
 rw [Nat.pow_zero, Nat.mod_one] at hd
 rw [hlen]
 exact hd
theorem putS_list (n : Int) : (putS n).data.toList = numB (zz n) := rfl
theorem putS_len (n : Int) : (putS n).size = (numB (zz n)).length := by rw [size_of, putS_list]
theorem rd_of (s : ByteArray) (a u p : Nat) (c : Int) (hs : s.size ≤ 8000) (h : numR s a = (u, p, c)) : rd s (a : Int) = (unz u, p, c) := by
 unfold rd
 rw [if_neg (by omega), if_neg (by omega), Int.toNat_natCast, h]
theorem num_back (s : ByteArray) (n : Int) (pre post : List UInt8) (h1 : -9223372036854775808 ≤ n) (h2 : n ≤ 9223372036854775807) (hs : s.size ≤ 8000)
  (h : s.data.toList = pre ++ (numB (zz n) ++ post)) : rd s (pre.length : Int) = (n, pre.length + (putS n).size, 0) := by
 rw [rd_of s pre.length _ _ _ hs (mid s (zz n) pre post (zz_lt n h1 h2) h), unz_zz, putS_len]
theorem extract_list (s : ByteArray) (a b : Nat) : (s.extract a b).data.toList = (s.data.toList.drop a).take (b - a) := by
 rw [ByteArray.data_extract, Array.toList_extract, List.extract_eq_take_drop]
end Go.Proofs.YthbpenanelbbcaaGreatDoor.Nm2


/- Plain mathematics of BlockUnpack: the numbers of a short form are read where they stand. -/
namespace Go.Proofs.YthbpenanelbbcaaGreatDoor.Up
open Go.Proofs.YthbpenanelbbcaaGreatDoor.Pk
open Go.Proofs.YthbpenanelbbcaaGreatDoor.Hf (up up_length)
open Go.Proofs.YthbpenanelbbcaaGreatDoor.Bi (above)
open Go.Proofs.YthbpenanelbbcaaGreatDoor.So (bwtA)
open Go.Proofs.YthbpenanelbbcaaGreatDoor.Nu (numB zz putS)
open Go.Proofs.YthbpenanelbbcaaGreatDoor.Gn (rd)
open Go.Proofs.YthbpenanelbbcaaGreatDoor.Nm2 (num_back extract_list)
noncomputable def numsAll (b : ByteArray) : List Int := headS b ++ rowT (lenS b) 257
noncomputable def posK (b : ByteArray) (k : Nat) : Nat := 1 + (numsL ((numsAll b).take k)).length
theorem numsL_append (a c : List Int) : numsL (a ++ c) = numsL a ++ numsL c := by unfold numsL; rw [List.flatMap_append]
theorem short_list {s b : ByteArray} (h : Good s b) : s.data.toList = [1] ++ (numsL (numsAll b) ++ (bitsS b).data.toList) := by
 rw [h.2.1]
 show (shortL b).toArray.toList = _
 unfold shortL numsAll
 rw [numsL_append]
 simp
theorem bwtA_le {b : ByteArray} (h : b.size ≤ 48) : bwtA b ≤ b.size := by unfold bwtA; rw [if_pos h]; exact So.atK_le _ _
theorem above_le (b : ByteArray) : above (up (lenS b)) ≤ 257 := by
 have h := (lenS_facts b).1
 unfold above
 refine Nat.le_trans (List.countP_le_length) ?_
 rw [up_length, h]
 exact Nat.le_refl _
theorem numsAll_mem {b : ByteArray} (h : b.size ≤ 48) : ∀ x ∈ numsAll b, 0 ≤ x ∧ x ≤ 400 := by
 intro x hx
 have h1 := bwtA_le h
 have h2 := symS_len b
 have h3 := above_le b
 rcases List.mem_append.1 hx with hx | hx
 ·unfold headS at hx
  simp only [List.mem_cons, List.not_mem_nil, or_false] at hx
  omega
 ·have := rowT_mem (lenS b) 12 (lenS_facts b).2.1 257 x hx
  omega
theorem rd_good {s b : ByteArray} (h : Good s b) (k : Nat) (hk : k < (numsAll b).length) : rd s (posK b k : Int) = ((numsAll b)[k], posK b (k + 1), 0) := by
 have hm := numsAll_mem h.1 _ (List.getElem_mem hk)
 have hs : s.size ≤ 8000 := by have := h.2.2; have := h.1; rw [h.2.1]; omega
 have hl : s.data.toList = ([1] ++ numsL ((numsAll b).take k)) ++ (numB (zz (numsAll b)[k]) ++ (numsL ((numsAll b).drop (k + 1)) ++ (bitsS b).data.toList)) := by
  rw [short_list h]
  conv => lhs; rw [← List.take_append_drop k (numsAll b), List.drop_eq_getElem_cons hk]
  rw [numsL_append]
  have : numsL ((numsAll b)[k] :: (numsAll b).drop (k + 1)) = numB (zz (numsAll b)[k]) ++ numsL ((numsAll b).drop (k + 1)) := by
   unfold numsL
   rw [List.flatMap_cons]
   rfl
  rw [this]
  simp
 have := num_back s (numsAll b)[k] _ _ (by omega) (by omega) hs hl
 have e1 : (([1] ++ numsL ((numsAll b).take k)).length : Nat) = posK b k := by unfold posK; simp; omega
 rw [e1] at this
 rw [this]
 have e2 : posK b k + (putS (numsAll b)[k]).size = posK b (k + 1) := by
  unfold posK
  rw [List.take_succ_eq_append_getElem hk, numsL_append, List.length_append]
  have : (numsL [(numsAll b)[k]]).length = (putS (numsAll b)[k]).size := by
   unfold numsL
   simp
  omega
 rw [e2]
theorem pair_get {f g : Nat → Int} (s : List Nat) : ∀ (j : Nat) (hj : j < s.length), (s.flatMap fun i => [f i, g i])[2 * j]? = some (f s[j]) ∧ (s.flatMap fun i => [f i, g i])[2 * j + 1]? = some (g s[j]) := by
 induction s with
 | nil => intro j hj; exact absurd hj (Nat.not_lt_zero _)
 | cons x s ih =>
  intro j hj
  rw [List.flatMap_cons]
  cases j with
  | zero => exact ⟨rfl, rfl⟩
  | succ j =>
   have := ih j (by simpa using hj)
   rw [show 2 * (j + 1) = 2 * j + 2 by omega, show 2 * j + 2 + 1 = 2 * j + 1 + 2 by omega]
   simpa using this
theorem numsAll_len (b : ByteArray) : (numsAll b).length = 4 + 2 * above (up (lenS b)) := by
 unfold numsAll headS
 rw [List.length_append, rowT_eq, above_eq, (lenS_facts b).1]
 generalize syL (lenS b) 257 = s
 have : (s.flatMap fun (i : Nat) => [(i : Int), (((lenS b).getD i 0 : Nat) : Int)]).length = 2 * s.length := by
  induction s with
  | nil => rfl
  | cons x s ih => rw [List.flatMap_cons, List.length_append, ih]; simp; omega
 rw [this]
 simp
theorem numsAll_head (b : ByteArray) : (numsAll b)[0]? = some (b.size : Int) ∧ (numsAll b)[1]? = some ((bwtA b : Nat) : Int) ∧ (numsAll b)[2]? = some ((symS b).length : Int) ∧ (numsAll b)[3]? = some ((above (up (lenS b)) : Nat) : Int) := by
 unfold numsAll headS
 exact ⟨rfl, rfl, rfl, rfl⟩
theorem numsAll_pair (b : ByteArray) (j : Nat) (hj : j < (syL (lenS b) 257).length) : (numsAll b)[4 + 2 * j]? = some ((syL (lenS b) 257)[j] : Int) ∧ (numsAll b)[4 + 2 * j + 1]? = some (((lenS b).getD (syL (lenS b) 257)[j] 0 : Nat) : Int) := by
 have h := pair_get (f := fun i => (i : Int)) (g := fun i => (((lenS b).getD i 0 : Nat) : Int)) (syL (lenS b) 257) j hj
 unfold numsAll headS
 rw [rowT_eq]
 rw [List.getElem?_append_right (by simp), List.getElem?_append_right (by simp; omega)]
 simp only [List.length_cons, List.length_nil]
 rw [show 4 + 2 * j - (0 + 1 + 1 + 1 + 1) = 2 * j by omega, show 4 + 2 * j + 1 - (0 + 1 + 1 + 1 + 1) = 2 * j + 1 by omega]
 exact h
theorem posK_all {s b : ByteArray} (h : Good s b) : posK b (numsAll b).length ≤ s.size ∧ s.extract (posK b (numsAll b).length) s.size = bitsS b := by
 have hl := short_list h
 have hs : s.size = 1 + (numsL (numsAll b)).length + (bitsS b).data.toList.length := by
  show s.data.size = _
  rw [← Array.length_toList, hl]
  simp
  omega
 unfold posK
 rw [List.take_length]
 refine ⟨by omega, Bi.ext_list ?_⟩
 rw [extract_list, hl, ← List.append_assoc, List.drop_left' (by simp; omega), List.take_of_length_le]
 omega
end Go.Proofs.YthbpenanelbbcaaGreatDoor.Up


/- The laws' marks found again; an empty row too. -/
namespace Go.Proofs.YthbpenanelbbcaaGreatDoor.In
open Go.RowKit
end Go.Proofs.YthbpenanelbbcaaGreatDoor.In


/- Rows of numbers between two marks of memory: what the laws' helpers do with them. -/
namespace Go.Proofs.YthbpenanelbbcaaGreatDoor.In
open Go.RowKit
open Go.Proofs.YthbpenanelbbcaaGreatDoor.St (Aft)
def OwnIn (w : World) (lo hi : Nat) (v : Value) (l : List Int) : Prop :=
 (v = .slice none 0 0 ∧ l = []) ∨ ∃ g cap, v = .slice (some ⟨g, 0, none⟩) l.length cap ∧ lo ≤ g ∧ g < hi ∧ IsO w g 2 l
theorem OwnI.inn {w : World} {base : Nat} {v : Value} {l : List Int} (h : OwnI w base v l) : OwnIn w base w.heap.size v l := by
 rcases h.split with h | ⟨g, cap, hv, hg, _, ho⟩
 ·exact .inl h
 ·exact .inr ⟨g, cap, hv, hg, ho.lt, ho⟩
theorem IsI.inn {w : World} {g : Nat} {l : List Int} (h : IsI w g 2 l) (cap : Nat) : OwnIn w g (g + 1) (.slice (some ⟨g, 0, none⟩) l.length cap) l :=
 .inr ⟨g, cap, rfl, Nat.le_refl _, Nat.lt_succ_self _, h.own⟩
theorem OwnIn.below {w w' : World} {lo hi B : Nat} {v : Value} {l : List Int} (h : OwnIn w lo hi v l) (b : Below B w w') (hB : hi ≤ B) : OwnIn w' lo hi v l := by
 rcases h with h | ⟨g, cap, hv, hg, hh, ho⟩
 ·exact .inl h
 ·exact .inr ⟨g, cap, hv, hg, hh, ho.below b (by omega)⟩
theorem OwnIn.aft {w w' : World} {lo hi g : Nat} {v : Value} {l : List Int} (h : OwnIn w lo hi v l) (ha : Aft g w w') (hg : g < lo ∨ hi ≤ g) (hh : hi ≤ w.heap.size) : OwnIn w' lo hi v l := by
 rcases h with h | ⟨g', cap, hv, hg', hh', ho⟩
 ·exact .inl h
 ·exact .inr ⟨g', cap, hv, hg', hh', ho.of_heap (ha.2.2.2.2 g' (by omega) (by omega))⟩
theorem OwnIn.ints {w : World} {lo hi : Nat} {v : Value} {l : List Int} (h : OwnIn w lo hi v l) : ∃ a cap, v = .slice a l.length cap ∧ Ints w hi a l := by
 rcases h with ⟨rfl, rfl⟩ | ⟨g, cap, rfl, _, hh, ho⟩
 ·exact ⟨none, 0, rfl, .inl rfl⟩
 ·exact ⟨_, cap, rfl, ho.ints hh⟩
def IntMarked (w : World) (lo hi : Nat) (v : Value) (n : Nat) : Prop := OwnIn w lo hi v (marks 1 n)
end Go.Proofs.YthbpenanelbbcaaGreatDoor.In


/- The walks of the specification's helpers on lengths, of both Whole, and of the law. -/
namespace Go.Proofs.YthbpenanelbbcaaGreatDoor.Bi
open Go.RowKit
open Go.Proofs.YthbpenanelbbcaaGreatDoor.In (Ints)
def sumR (l : List Int) : Int × Int := if right l = true then ((csum l : Nat), (above l : Nat)) else (-1, 0)
theorem sumR_yes {l : List Int} (h : right l = true) : sumR l = (((csum l : Nat) : Int), ((above l : Nat) : Int)) := if_pos h
theorem sumR_no {l : List Int} (h : right l = false) : sumR l = (-1, 0) := if_neg (by rw [h]; decide)
theorem good12 {l : List Int} {k : Nat} (hk : l.length ≤ k) (h : ∀ j (hj : j < l.length), j < k → 0 ≤ l[j] ∧ l[j] ≤ 12) : ∀ x ∈ l, 0 ≤ x ∧ x ≤ 12 := by
 intro x hx
 obtain ⟨j, hj, rfl⟩ := List.getElem_of_mem hx
 exact h j hj (by omega)
theorem good_more {l : List Int} {k : Nat} (hk : k < l.length) (h : ∀ j (hj : j < l.length), j < k → 0 ≤ l[j] ∧ l[j] ≤ 12) (h2 : 0 ≤ l[k] ∧ l[k] ≤ 12) : ∀ j (hj : j < l.length), j < k + 1 → 0 ≤ l[j] ∧ l[j] ≤ 12 := by
 intro j hj hjk
 by_cases e : j = k
 ·subst e; exact h2
 ·exact h j hj (by omega)
set_option maxHeartbeats 2000000 in
theorem sum_spec (l : List Int) (a : Option Addr) (cap B : Nat) (w : World) (hi : Ints w B a l) (hn : l.length ≤ 400) :
    Calls Tryz.prog 131 #[.slice a l.length cap] w fun e w' => e = .returned (.tuple #[.int .i64 (sumR l).1, .int .i64 (sumR l).2]) ∧ w' = w := by
  have HS := hideB hi
  clear hi
  obtain ⟨n, hln⟩ : ∃ n, n = l.length := ⟨_, rfl⟩
  have HLN := hideB hln
  rw [← hln] at hn ⊢
  clear hln
  have HP12 := hideB (pow_any 12 w (by decide))
  obtain ⟨r, hr⟩ : ∃ r, r = sumR l := ⟨_, rfl⟩
  rw [← hr]
  have HR := hideB hr
  clear hr
  go_enter Tryz.func131, Tryz.ntmps131
  go_wp2_with fail
  go_loopw [6, 4, 5] (fun i v u wr => ∃ k s c : Nat, i = .int .i64 k ∧ v = .int .i64 s ∧ u = .int .i64 c ∧ k ≤ n ∧ s = csum (l.take k) ∧ c = above (l.take k) ∧ s ≤ 4096 * k ∧ c ≤ k ∧ (∀ j (hj : j < l.length), j < k → 0 ≤ l[j] ∧ l[j] ≤ 12) ∧ wr = w) (fun i _ _ _ => n - (intOf i).toNat)
  case atStart => exact ⟨0, 0, 0, rfl, rfl, rfl, Nat.zero_le _, by simp [csum], by simp [above], by omega, by omega, fun j hj h0 => absurd h0 (Nat.not_lt_zero j), rfl⟩
  case round =>
    obtain ⟨k, s, c, rfl, rfl, rfl, hk, hs, hc', hsb, hcb, hall, hw⟩ := hrel
    subst hw
    have HC := hideB hs
    have HD := hideB hc'
    have HA := hideB hall
    clear hs hc' hall
    by_cases hlt : k < n
    · have hkl : k < l.length := by rw [← HLN.out]; exact hlt
      obtain ⟨b, off, rfl, hb, hc⟩ := HS.out.some (by omega)
      have ci := hc k hkl
      have HM := hideB (csum_more hkl)
      have HM' := hideB (above_more hkl)
      have HGM := hideB (good_more hkl HA.out)
      obtain ⟨x, hx⟩ : ∃ x, x = l[k] := ⟨_, rfl⟩
      have HX := hideB hx
      rw [← hx] at ci HM HM' HGM
      clear hc hx
      by_cases h0 : 0 ≤ x ∧ x ≤ 12
      · have HI := hideB (is_yes x 0 12 wr h0.1 h0.2)
        by_cases hpos : 0 < x
        · obtain ⟨m, rfl, hm1, hm2, hp⟩ := part_pos x hpos h0.2
          obtain ⟨d, hd⟩ : ∃ d : Nat, d = 12 - m := ⟨_, rfl⟩
          have hdi : (12 : Int) - m = d := by omega
          have HQ := hideB (pow_any d wr (by omega))
          rw [← hd] at hp
          have hp2 : 2 ^ d ≤ 4096 := by have := part_le (m : Int); rw [hp] at this; exact this
          have HP := hideB hp
          have HM2 : Hid (above (l.take (k + 1)) = c + 1) := by
            unfold Hid
            rw [HM'.out, if_pos hpos, HD.out]
          clear hp hd
          generalize 2 ^ d = pm at hp2 HP HQ
          go_wp2_with fail
          refine HI.out.mono ?_
          rintro e w' ⟨rfl, hw⟩
          subst w'
          go_wp2_with fail
          refine HQ.out.mono ?_
          rintro e w' ⟨rfl, hw⟩
          subst w'
          go_wp2_with fail
          go_roundw
          case rel => exact ⟨k + 1, s + pm, c + 1, by go_num, by go_num, by go_num, by omega, by rw [HM.out, HP.out, HC.out], HM2.out.symm, by omega, by omega, HGM.out h0, trivial⟩
          case measure => simp [intOf]; omega
        · have HP := hideB (part_none x hpos)
          have HM2 : Hid (above (l.take (k + 1)) = c) := by
            unfold Hid
            rw [HM'.out, if_neg hpos, HD.out]
            rfl
          go_wp2_with fail
          refine HI.out.mono ?_
          rintro e w' ⟨rfl, hw⟩
          subst w'
          go_wp2_with fail
          go_roundw
          case rel => exact ⟨k + 1, s, c, by go_num, rfl, rfl, by omega, by rw [HM.out, HP.out, HC.out]; rfl, HM2.out.symm, by omega, by omega, HGM.out h0, trivial⟩
          case measure => simp [intOf]; omega
      · have HI := hideB (is_no x 0 12 wr (by omega))
        have HE : Hid (r = (-1, 0)) := by
          unfold Hid
          rw [HR.out]
          exact sumR_no (right_no (Or.inl (within_bad (m := 12) hkl (by rw [← HX.out]; omega))))
        clear h0
        go_wp2_with fail
        refine HI.out.mono ?_
        rintro e w' ⟨rfl, hw⟩
        subst w'
        go_wp2_with fail
        go_ret2
        exact ⟨by rw [HE.out]; rfl, rfl⟩
    · have HS2 : Hid (s = csum l) := by
        unfold Hid
        rw [HC.out, List.take_of_length_le (by have := HLN.out; omega)]
      have HC2 : Hid (c = above l) := by
        unfold Hid
        rw [HD.out, List.take_of_length_le (by have := HLN.out; omega)]
      have HG := hideB (good12 (by have := HLN.out; omega) HA.out)
      by_cases hlong : 257 < n
      · have HE : Hid (r = (-1, 0)) := by
          unfold Hid
          rw [HR.out]
          exact sumR_no (right_no (Or.inl (within_long (by have := HLN.out; omega))))
        have hl' : (257 : Int) < n := by omega
        go_wp2_with fail
        go_ret2
        exact ⟨by rw [HE.out]; rfl, rfl⟩
      · have hl' : decide ((257 : Int) < n) = false := decide_eq_false (by omega)
        have HW : Hid (within l 12 = true) := within_of (by have := HLN.out; omega) HG.out
        by_cases hbig : 4096 < s
        · have HE : Hid (r = (-1, 0)) := by
            unfold Hid
            rw [HR.out]
            exact sumR_no (right_no (Or.inr (by rw [← HS2.out]; omega)))
          go_wp2_with fail
          refine HP12.out.mono ?_
          rintro e w' ⟨rfl, hw⟩
          subst w'
          go_wp2_with fail
          go_ret2
          exact ⟨by rw [HE.out]; rfl, rfl⟩
        · have HE : Hid (r = ((s : Int), (c : Int))) := by
            unfold Hid
            rw [HR.out, HS2.out, HC2.out]
            exact sumR_yes (right_of HW.out (by rw [← HS2.out]; omega))
          have hb' : decide ((4096 : Int) < s) = false := decide_eq_false (by omega)
          go_wp2_with fail
          refine HP12.out.mono ?_
          rintro e w' ⟨rfl, hw⟩
          subst w'
          go_wp2_with fail
          go_ret2
          exact ⟨by rw [HE.out]; rfl, rfl⟩
theorem whole_yes1 {l : List Int} (h : right l = true) (h1 : csum l = 4096) : whole l = true := by unfold whole; rw [h, decide_eq_true h1]; rfl
theorem whole_yes2 {l : List Int} (h : right l = true) (h1 : above l = 1) (h2 : csum l = 2048) : whole l = true := by unfold whole; rw [h, decide_eq_true h1, decide_eq_true h2]; simp
theorem whole_no1 {l : List Int} (h1 : ¬ csum l = 4096) (h2 : ¬ above l = 1) : whole l = false := by unfold whole; rw [decide_eq_false h1, decide_eq_false h2]; simp
theorem whole_no2 {l : List Int} (h1 : ¬ csum l = 4096) (h2 : ¬ csum l = 2048) : whole l = false := by unfold whole; rw [decide_eq_false h1, decide_eq_false h2]; simp
set_option maxHeartbeats 2000000 in
theorem l04Whole_any (l : List Int) (a : Option Addr) (cap B : Nat) (w : World) (hi : Ints w B a l) (hn : l.length ≤ 400) :
  Calls Tryz.prog 98 #[.slice a l.length cap] w fun e w' => e = .returned (.bool (whole l)) ∧ w' = w := by
 have HS := hideB (sum_spec l a cap B w hi hn)
 have HP12 := hideB (pow_any 12 w (by decide))
 have HP11 := hideB (pow_any 11 w (by decide))
 clear hi
 cases hr : right l with
 | false =>
  have HE := hideB (whole_no hr)
  rw [sumR_no hr] at HS
  generalize l.length = n at HS hn ⊢
  generalize whole l = wl at HE ⊢
  go_enter Tryz.func98, Tryz.ntmps98
  go_wp2_with fail
  refine HS.out.mono ?_
  rintro e w' ⟨rfl, hw⟩
  subst w'
  go_wp2_with fail
  refine HP12.out.mono ?_
  rintro e w' ⟨rfl, hw⟩
  subst w'
  go_wp2_with fail
  go_ret
  exact ⟨ret_boolB HE.out.symm, rfl⟩
 | true =>
  rw [sumR_yes hr] at HS
  by_cases h1 : csum l = 4096
  ·have HE := hideB (whole_yes1 hr h1)
   rw [h1] at HS
   generalize l.length = n at HS hn ⊢
   generalize whole l = wl at HE ⊢
   generalize above l = ab at HS
   clear h1
   go_enter Tryz.func98, Tryz.ntmps98
   go_wp2_with fail
   refine HS.out.mono ?_
   rintro e w' ⟨rfl, hw⟩
   subst w'
   go_wp2_with fail
   refine HP12.out.mono ?_
   rintro e w' ⟨rfl, hw⟩
   subst w'
   go_wp2_with fail
   go_ret
   exact ⟨ret_boolB HE.out.symm, rfl⟩
  ·by_cases h2 : above l = 1
   ·by_cases h3 : csum l = 2048
    ·have HE := hideB (whole_yes2 hr h2 h3)
     rw [h3, h2] at HS
     generalize l.length = n at HS hn ⊢
     generalize whole l = wl at HE ⊢
     clear h1 h2 h3
     go_enter Tryz.func98, Tryz.ntmps98
     go_wp2_with fail
     refine HS.out.mono ?_
     rintro e w' ⟨rfl, hw⟩
     subst w'
     go_wp2_with fail
     refine HP12.out.mono ?_
     rintro e w' ⟨rfl, hw⟩
     subst w'
     go_wp2_with fail
     refine HP11.out.mono ?_
     rintro e w' ⟨rfl, hw⟩
     subst w'
     go_wp2_with fail
     go_ret
     exact ⟨ret_boolB HE.out.symm, rfl⟩
    ·have HE := hideB (whole_no2 h1 h3)
     rw [h2] at HS
     have g1 : (((csum l : Nat) : Int) == 4096) = false := beq_eq_false_iff_ne.2 (by omega)
     have g3 : (((csum l : Nat) : Int) == 2048) = false := beq_eq_false_iff_ne.2 (by omega)
     generalize l.length = n at HS hn ⊢
     generalize whole l = wl at HE ⊢
     generalize csum l = cs at HS g1 g3
     clear h1 h2 h3
     go_enter Tryz.func98, Tryz.ntmps98
     go_wp2_with fail
     refine HS.out.mono ?_
     rintro e w' ⟨rfl, hw⟩
     subst w'
     go_wp2_with fail
     refine HP12.out.mono ?_
     rintro e w' ⟨rfl, hw⟩
     subst w'
     go_wp2_with fail
     refine HP11.out.mono ?_
     rintro e w' ⟨rfl, hw⟩
     subst w'
     go_wp2_with fail
     go_ret
     exact ⟨ret_boolB HE.out.symm, rfl⟩
   ·have HE := hideB (whole_no1 h1 h2)
    have g1 : (((csum l : Nat) : Int) == 4096) = false := beq_eq_false_iff_ne.2 (by omega)
    have g2 : (((above l : Nat) : Int) == 1) = false := beq_eq_false_iff_ne.2 (by omega)
    generalize l.length = n at HS hn ⊢
    generalize whole l = wl at HE ⊢
    generalize csum l = cs at HS g1
    generalize above l = ab at HS g2
    clear h1 h2
    go_enter Tryz.func98, Tryz.ntmps98
    go_wp2_with fail
    refine HS.out.mono ?_
    rintro e w' ⟨rfl, hw⟩
    subst w'
    go_wp2_with fail
    refine HP12.out.mono ?_
    rintro e w' ⟨rfl, hw⟩
    subst w'
    go_wp2_with fail
    go_ret
    exact ⟨ret_boolB HE.out.symm, rfl⟩
set_option maxHeartbeats 2000000 in
theorem whole_impl (l : List Int) (a : Option Addr) (cap B : Nat) (w : World) (hi : Ints w B a l) (hn : l.length ≤ 1048576) :
    Calls Tryz.prog 82 #[.slice a l.length cap] w fun e w' => e = .returned (.bool (whole l)) ∧ w' = w := by
  have HR := hideB (right_impl l a cap B w hi hn)
  have HC := hideB (count_impl l a cap B w hi hn)
  have HK := hideB (contains_impl l 1 a cap B w hi hn)
  cases hr : right l with
  | false =>
    have HE := hideB (whole_no hr)
    rw [hr] at HR
    clear hi
    generalize l.length = n at HR hn ⊢
    generalize whole l = wl at HE ⊢
    go_enter Tryz.func82, Tryz.ntmps82
    go_wp2_with fail
    refine HR.out.mono ?_
    rintro e w' ⟨rfl, hw⟩
    subst w'
    go_wp2_with fail
    go_ret
    exact ⟨ret_boolB HE.out.symm, rfl⟩
  | true =>
    have HS := hideB (sum_impl l a cap B w hi (right_yes hr).1)
    rw [hr] at HR
    clear hi
    by_cases h2 : above l = 1
    · rw [alone l h2] at HK
      rw [h2] at HC
      by_cases h3 : csum l = 2048
      · have HE := hideB (whole_yes2 hr h2 h3)
        rw [decide_eq_true h3] at HK
        generalize l.length = n at HR HC HK HS hn ⊢
        generalize whole l = wl at HE ⊢
        clear h2 h3 hr HS
        go_enter Tryz.func82, Tryz.ntmps82
        go_wp2_with fail
        refine HR.out.mono ?_
        rintro e w' ⟨rfl, hw⟩
        subst w'
        go_wp2_with fail
        refine HC.out.mono ?_
        rintro e w' ⟨rfl, hw⟩
        subst w'
        go_wp2_with fail
        refine HK.out.mono ?_
        rintro e w' ⟨rfl, hw⟩
        subst w'
        go_wp2_with fail
        go_ret
        exact ⟨ret_boolB HE.out.symm, rfl⟩
      · have HE : Hid (whole l = decide (csum l = 4096)) := by
          unfold Hid
          by_cases h4 : csum l = 4096
          · rw [whole_yes1 hr h4, decide_eq_true h4]
          · rw [whole_no2 h4 h3, decide_eq_false h4]
        rw [decide_eq_false h3] at HK
        have HD : Hid (((((csum l : Nat) : Int)) == 4096) = decide (csum l = 4096)) := by
          unfold Hid
          rw [Bool.eq_iff_iff]
          simp
          omega
        generalize decide (csum l = 4096) = dc at HE HD
        generalize l.length = n at HR HC HK HS hn ⊢
        generalize whole l = wl at HE ⊢
        generalize csum l = cs at HS HD
        clear h2 h3 hr
        go_enter Tryz.func82, Tryz.ntmps82
        go_wp2_with fail
        refine HR.out.mono ?_
        rintro e w' ⟨rfl, hw⟩
        subst w'
        go_wp2_with fail
        refine HC.out.mono ?_
        rintro e w' ⟨rfl, hw⟩
        subst w'
        go_wp2_with fail
        refine HK.out.mono ?_
        rintro e w' ⟨rfl, hw⟩
        subst w'
        go_wp2_with fail
        refine HS.out.mono ?_
        rintro e w' ⟨rfl, hw⟩
        subst w'
        go_wp2_with fail
        go_ret
        exact ⟨ret_boolB (HD.out.trans HE.out.symm), rfl⟩
    · have HE : Hid (whole l = decide (csum l = 4096)) := by
        unfold Hid
        by_cases h4 : csum l = 4096
        · rw [whole_yes1 hr h4, decide_eq_true h4]
        · rw [whole_no1 h4 h2, decide_eq_false h4]
      have g2 : (((above l : Nat) : Int) == 1) = false := beq_eq_false_iff_ne.2 (by omega)
      have HD : Hid (((((csum l : Nat) : Int)) == 4096) = decide (csum l = 4096)) := by
        unfold Hid
        rw [Bool.eq_iff_iff]
        simp
        omega
      generalize decide (csum l = 4096) = dc at HE HD
      generalize l.length = n at HR HC HK HS hn ⊢
      generalize whole l = wl at HE ⊢
      generalize csum l = cs at HS HD
      generalize above l = ab at HC g2
      clear h2 hr HK
      go_enter Tryz.func82, Tryz.ntmps82
      go_wp2_with fail
      refine HR.out.mono ?_
      rintro e w' ⟨rfl, hw⟩
      subst w'
      go_wp2_with fail
      refine HC.out.mono ?_
      rintro e w' ⟨rfl, hw⟩
      subst w'
      go_wp2_with fail
      refine HS.out.mono ?_
      rintro e w' ⟨rfl, hw⟩
      subst w'
      go_wp2_with fail
      go_ret
      exact ⟨ret_boolB (HD.out.trans HE.out.symm), rfl⟩
end Go.Proofs.YthbpenanelbbcaaGreatDoor.Bi

