/- Texts put together: NumBack, UnNums, IntHeld, IntIn. -/
import Derived.Test.YtjdlgpnhkfdehaaGreatDoorBu18
import Derived.Test.YtjdlgpnhkfdehaaGreatDoorBu20
import Derived.Test.YtjdlgpnhkfdehaaGreatDoorBu2
/- Numbers and texts there and back, said of what PutNum, GetNum, PutText and GetText answer. -/
namespace Go.Proofs.YtjdlgpnhkfdehaaGreatDoor.Nm2
open Go.Proofs.YtjdlgpnhkfdehaaGreatDoor.Nu Go.Proofs.YtjdlgpnhkfdehaaGreatDoor.Gn
theorem getD_mid (pre l post : List UInt8) (j : Nat) (h : j < l.length) : (pre ++ (l ++ post)).getD (pre.length + j) 0 = l.getD j 0 := by
  rw [List.getD_eq_getElem?_getD, List.getD_eq_getElem?_getD, List.getElem?_append_right (by omega), List.getElem?_append_left (by omega)]
  congr 2
  omega
theorem numH_get (U K j : Nat) (hj : j < K) : (numH U K).getD j 0 = UInt8.ofNat (U / 128 ^ j % 128 + 128) := by
  rw [List.getD_eq_getElem?_getD]
  simp [numH, hj]
theorem numL_get (U K j : Nat) (hj : j < K) : (numL U K).getD j 0 = UInt8.ofNat (U / 128 ^ j % 128 + 128) := by
  rw [← numH_get U K j hj, List.getD_eq_getElem?_getD, List.getD_eq_getElem?_getD]
  unfold numL
  rw [List.getElem?_append_left (by rw [numH_length]; exact hj)]
theorem numL_last (U K : Nat) : (numL U K).getD K 0 = UInt8.ofNat (U / 128 ^ K) := by
  rw [List.getD_eq_getElem?_getD]
  unfold numL
  rw [List.getElem?_append_right (by rw [numH_length]; omega), numH_length]
  simp
theorem size_of (s : ByteArray) : s.size = s.data.toList.length := by rw [Array.length_toList]; rfl
theorem mid (s : ByteArray) (U : Nat) (pre post : List UInt8) (hU : U < 18446744073709551616) (h : s.data.toList = pre ++ (numB U ++ post)) :
    numR s pre.length = (U, pre.length + (numB U).length, 0) := by
  obtain ⟨hK, hall, hlast⟩ := cnt_spec U hU
  have hn : numB U = numL U (cnt 9 U) := rfl
  have hlen : (numB U).length = cnt 9 U + 1 := by rw [hn, numL_length]
  have hsz : s.size = pre.length + (cnt 9 U + 1) + post.length := by rw [size_of, h]; simp [hlen]; omega
  have hd := dec s U pre.length (cnt 9 U) hU hK hall hlast (by omega)
    (fun j hj => by
      unfold byteN
      rw [h, getD_mid pre _ post j (by omega), hn, numL_get _ _ _ hj, UInt8.toNat_ofNat', Nat.mod_eq_of_lt (by omega)])
    (by
      unfold byteN
      rw [h, getD_mid pre _ post _ (by omega), hn, numL_last, UInt8.toNat_ofNat', Nat.mod_eq_of_lt (by omega)])
    (cnt 9 U) 0 (by omega) (by omega)
  rw [Nat.pow_zero, Nat.mod_one] at hd
  rw [hlen]
  exact hd
theorem putS_list (n : Int) : (putS n).data.toList = numB (zz n) := rfl
theorem putS_len (n : Int) : (putS n).size = (numB (zz n)).length := by rw [size_of, putS_list]
theorem rd_of (s : ByteArray) (a u p : Nat) (c : Int) (hs : s.size ≤ 8000) (h : numR s a = (u, p, c)) : rd s (a : Int) = (unz u, p, c) := by
  unfold rd
  rw [if_neg (by omega), if_neg (by omega), Int.toNat_natCast, h]
theorem num_back (s : ByteArray) (n : Int) (pre post : List UInt8) (h1 : -9223372036854775808 ≤ n) (h2 : n ≤ 9223372036854775807) (hs : s.size ≤ 8000)
    (h : s.data.toList = pre ++ (numB (zz n) ++ post)) : rd s (pre.length : Int) = (n, pre.length + (putS n).size, 0) := by
  rw [rd_of s pre.length _ _ _ hs (mid s (zz n) pre post (zz_lt n h1 h2) h), unz_zz, putS_len]
theorem extract_list (s : ByteArray) (a b : Nat) : (s.extract a b).data.toList = (s.data.toList.drop a).take (b - a) := by
  rw [ByteArray.data_extract, Array.toList_extract, List.extract_eq_take_drop]
end Go.Proofs.YtjdlgpnhkfdehaaGreatDoor.Nm2


/- Plain mathematics of BlockUnpack: the numbers of a short form are read where they stand. -/
namespace Go.Proofs.YtjdlgpnhkfdehaaGreatDoor.Up
open Go.Proofs.YtjdlgpnhkfdehaaGreatDoor.Pk
open Go.Proofs.YtjdlgpnhkfdehaaGreatDoor.Hf (up up_length)
open Go.Proofs.YtjdlgpnhkfdehaaGreatDoor.Bi (above)
open Go.Proofs.YtjdlgpnhkfdehaaGreatDoor.So (bwtA)
open Go.Proofs.YtjdlgpnhkfdehaaGreatDoor.Nu (numB zz putS)
open Go.Proofs.YtjdlgpnhkfdehaaGreatDoor.Gn (rd)
open Go.Proofs.YtjdlgpnhkfdehaaGreatDoor.Nm2 (num_back extract_list)
noncomputable def numsAll (b : ByteArray) : List Int := headS b ++ rowT (lenS b) 257
noncomputable def posK (b : ByteArray) (k : Nat) : Nat := 1 + (numsL ((numsAll b).take k)).length
theorem numsL_append (a c : List Int) : numsL (a ++ c) = numsL a ++ numsL c := by unfold numsL; rw [List.flatMap_append]
theorem short_list {s b : ByteArray} (h : Good s b) : s.data.toList = [1] ++ (numsL (numsAll b) ++ (bitsS b).data.toList) := by
  rw [h.2.1]
  show (shortL b).toArray.toList = _
  unfold shortL numsAll
  rw [numsL_append]
  simp
theorem bwtA_le {b : ByteArray} (h : b.size ≤ 48) : bwtA b ≤ b.size := by unfold bwtA; rw [if_pos h]; exact So.atK_le _ _
theorem above_le (b : ByteArray) : above (up (lenS b)) ≤ 257 := by
  have h := (lenS_facts b).1
  unfold above
  refine Nat.le_trans (List.countP_le_length) ?_
  rw [up_length, h]
  exact Nat.le_refl _
theorem numsAll_mem {b : ByteArray} (h : b.size ≤ 48) : ∀ x ∈ numsAll b, 0 ≤ x ∧ x ≤ 400 := by
  intro x hx
  have h1 := bwtA_le h
  have h2 := symS_len b
  have h3 := above_le b
  rcases List.mem_append.1 hx with hx | hx
  · unfold headS at hx
    simp only [List.mem_cons, List.not_mem_nil, or_false] at hx
    omega
  · have := rowT_mem (lenS b) 12 (lenS_facts b).2.1 257 x hx
    omega
theorem rd_good {s b : ByteArray} (h : Good s b) (k : Nat) (hk : k < (numsAll b).length) : rd s (posK b k : Int) = ((numsAll b)[k], posK b (k + 1), 0) := by
  have hm := numsAll_mem h.1 _ (List.getElem_mem hk)
  have hs : s.size ≤ 8000 := by have := h.2.2; have := h.1; rw [h.2.1]; omega
  have hl : s.data.toList = ([1] ++ numsL ((numsAll b).take k)) ++ (numB (zz (numsAll b)[k]) ++ (numsL ((numsAll b).drop (k + 1)) ++ (bitsS b).data.toList)) := by
    rw [short_list h]
    conv => lhs; rw [← List.take_append_drop k (numsAll b), List.drop_eq_getElem_cons hk]
    rw [numsL_append]
    have : numsL ((numsAll b)[k] :: (numsAll b).drop (k + 1)) = numB (zz (numsAll b)[k]) ++ numsL ((numsAll b).drop (k + 1)) := by
      unfold numsL
      rw [List.flatMap_cons]
      rfl
    rw [this]
    simp
  have := num_back s (numsAll b)[k] _ _ (by omega) (by omega) hs hl
  have e1 : (([1] ++ numsL ((numsAll b).take k)).length : Nat) = posK b k := by unfold posK; simp; omega
  rw [e1] at this
  rw [this]
  have e2 : posK b k + (putS (numsAll b)[k]).size = posK b (k + 1) := by
    unfold posK
    rw [List.take_succ_eq_append_getElem hk, numsL_append, List.length_append]
    have : (numsL [(numsAll b)[k]]).length = (putS (numsAll b)[k]).size := by
      unfold numsL
      simp
    omega
  rw [e2]
theorem pair_get {f g : Nat → Int} (s : List Nat) : ∀ (j : Nat) (hj : j < s.length), (s.flatMap fun i => [f i, g i])[2 * j]? = some (f s[j]) ∧ (s.flatMap fun i => [f i, g i])[2 * j + 1]? = some (g s[j]) := by
  induction s with
  | nil => intro j hj; exact absurd hj (Nat.not_lt_zero _)
  | cons x s ih =>
    intro j hj
    rw [List.flatMap_cons]
    cases j with
    | zero => exact ⟨rfl, rfl⟩
    | succ j =>
      have := ih j (by simpa using hj)
      rw [show 2 * (j + 1) = 2 * j + 2 by omega, show 2 * j + 2 + 1 = 2 * j + 1 + 2 by omega]
      simpa using this
theorem numsAll_len (b : ByteArray) : (numsAll b).length = 4 + 2 * above (up (lenS b)) := by
  unfold numsAll headS
  rw [List.length_append, rowT_eq, above_eq, (lenS_facts b).1]
  generalize syL (lenS b) 257 = s
  have : (s.flatMap fun (i : Nat) => [(i : Int), (((lenS b).getD i 0 : Nat) : Int)]).length = 2 * s.length := by
    induction s with
    | nil => rfl
    | cons x s ih => rw [List.flatMap_cons, List.length_append, ih]; simp; omega
  rw [this]
  simp
theorem numsAll_head (b : ByteArray) : (numsAll b)[0]? = some (b.size : Int) ∧ (numsAll b)[1]? = some ((bwtA b : Nat) : Int) ∧ (numsAll b)[2]? = some ((symS b).length : Int) ∧ (numsAll b)[3]? = some ((above (up (lenS b)) : Nat) : Int) := by
  unfold numsAll headS
  exact ⟨rfl, rfl, rfl, rfl⟩
theorem numsAll_pair (b : ByteArray) (j : Nat) (hj : j < (syL (lenS b) 257).length) : (numsAll b)[4 + 2 * j]? = some ((syL (lenS b) 257)[j] : Int) ∧ (numsAll b)[4 + 2 * j + 1]? = some (((lenS b).getD (syL (lenS b) 257)[j] 0 : Nat) : Int) := by
  have h := pair_get (f := fun i => (i : Int)) (g := fun i => (((lenS b).getD i 0 : Nat) : Int)) (syL (lenS b) 257) j hj
  unfold numsAll headS
  rw [rowT_eq]
  rw [List.getElem?_append_right (by simp), List.getElem?_append_right (by simp; omega)]
  simp only [List.length_cons, List.length_nil]
  rw [show 4 + 2 * j - (0 + 1 + 1 + 1 + 1) = 2 * j by omega, show 4 + 2 * j + 1 - (0 + 1 + 1 + 1 + 1) = 2 * j + 1 by omega]
  exact h
theorem posK_all {s b : ByteArray} (h : Good s b) : posK b (numsAll b).length ≤ s.size ∧ s.extract (posK b (numsAll b).length) s.size = bitsS b := by
  have hl := short_list h
  have hs : s.size = 1 + (numsL (numsAll b)).length + (bitsS b).data.toList.length := by
    show s.data.size = _
    rw [← Array.length_toList, hl]
    simp
    omega
  unfold posK
  rw [List.take_length]
  refine ⟨by omega, Bi.ext_list ?_⟩
  rw [extract_list, hl, ← List.append_assoc, List.drop_left' (by simp; omega), List.take_of_length_le]
  omega
end Go.Proofs.YtjdlgpnhkfdehaaGreatDoor.Up


/- The laws' marks found again; an empty row too. -/
namespace Go.Proofs.YtjdlgpnhkfdehaaGreatDoor.In
open Go.RowKit
end Go.Proofs.YtjdlgpnhkfdehaaGreatDoor.In


/- Rows of numbers between two marks of memory: what the laws' helpers do with them. -/
namespace Go.Proofs.YtjdlgpnhkfdehaaGreatDoor.In
open Go.RowKit
open Go.Proofs.YtjdlgpnhkfdehaaGreatDoor.St (Aft)
def OwnIn (w : World) (lo hi : Nat) (v : Value) (l : List Int) : Prop :=
  (v = .slice none 0 0 ∧ l = []) ∨ ∃ g cap, v = .slice (some ⟨g, 0, none⟩) l.length cap ∧ lo ≤ g ∧ g < hi ∧ IsO w g 2 l
theorem OwnI.inn {w : World} {base : Nat} {v : Value} {l : List Int} (h : OwnI w base v l) : OwnIn w base w.heap.size v l := by
  rcases h.split with h | ⟨g, cap, hv, hg, _, ho⟩
  · exact .inl h
  · exact .inr ⟨g, cap, hv, hg, ho.lt, ho⟩
theorem IsI.inn {w : World} {g : Nat} {l : List Int} (h : IsI w g 2 l) (cap : Nat) : OwnIn w g (g + 1) (.slice (some ⟨g, 0, none⟩) l.length cap) l :=
  .inr ⟨g, cap, rfl, Nat.le_refl _, Nat.lt_succ_self _, h.own⟩
theorem OwnIn.below {w w' : World} {lo hi B : Nat} {v : Value} {l : List Int} (h : OwnIn w lo hi v l) (b : Below B w w') (hB : hi ≤ B) : OwnIn w' lo hi v l := by
  rcases h with h | ⟨g, cap, hv, hg, hh, ho⟩
  · exact .inl h
  · exact .inr ⟨g, cap, hv, hg, hh, ho.below b (by omega)⟩
theorem OwnIn.aft {w w' : World} {lo hi g : Nat} {v : Value} {l : List Int} (h : OwnIn w lo hi v l) (ha : Aft g w w') (hg : g < lo ∨ hi ≤ g) (hh : hi ≤ w.heap.size) : OwnIn w' lo hi v l := by
  rcases h with h | ⟨g', cap, hv, hg', hh', ho⟩
  · exact .inl h
  · exact .inr ⟨g', cap, hv, hg', hh', ho.of_heap (ha.2.2.2.2 g' (by omega) (by omega))⟩
theorem OwnIn.ints {w : World} {lo hi : Nat} {v : Value} {l : List Int} (h : OwnIn w lo hi v l) : ∃ a cap, v = .slice a l.length cap ∧ Ints w hi a l := by
  rcases h with ⟨rfl, rfl⟩ | ⟨g, cap, rfl, _, hh, ho⟩
  · exact ⟨none, 0, rfl, .inl rfl⟩
  · exact ⟨_, cap, rfl, ho.ints hh⟩
def IntMarked (w : World) (lo hi : Nat) (v : Value) (n : Nat) : Prop := OwnIn w lo hi v (marks 1 n)
end Go.Proofs.YtjdlgpnhkfdehaaGreatDoor.In

