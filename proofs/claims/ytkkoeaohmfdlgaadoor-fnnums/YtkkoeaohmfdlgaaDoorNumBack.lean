/- Numbers and texts there and back, said of what PutNum, GetNum, PutText and GetText answer. -/
import Derived.Test.YtkkoeaohmfdlgaaDoorNumMath
import Derived.Test.YtkkoeaohmfdlgaaDoorGetTextWalks
import Derived.Test.YtkkoeaohmfdlgaaDoorTextWalks
namespace Go.Proofs.YtkkoeaohmfdlgaaDoor.Nm2
open Go.Proofs.YtkkoeaohmfdlgaaDoor.Nu Go.Proofs.YtkkoeaohmfdlgaaDoor.Gn

theorem getD_mid (pre l post : List UInt8) (j : Nat) (h : j < l.length) : (pre ++ (l ++ post)).getD (pre.length + j) 0 = l.getD j 0 := by
  rw [List.getD_eq_getElem?_getD, List.getD_eq_getElem?_getD, List.getElem?_append_right (by omega), List.getElem?_append_left (by omega)]
  congr 2
  omega

theorem numH_get (U K j : Nat) (hj : j < K) : (numH U K).getD j 0 = UInt8.ofNat (U / 128 ^ j % 128 + 128) := by
  rw [List.getD_eq_getElem?_getD]
  simp [numH, hj]

theorem numL_get (U K j : Nat) (hj : j < K) : (numL U K).getD j 0 = UInt8.ofNat (U / 128 ^ j % 128 + 128) := by
  rw [← numH_get U K j hj, List.getD_eq_getElem?_getD, List.getD_eq_getElem?_getD]
  unfold numL
  rw [List.getElem?_append_left (by rw [numH_length]; exact hj)]

theorem numL_last (U K : Nat) : (numL U K).getD K 0 = UInt8.ofNat (U / 128 ^ K) := by
  rw [List.getD_eq_getElem?_getD]
  unfold numL
  rw [List.getElem?_append_right (by rw [numH_length]; omega), numH_length]
  simp

theorem size_of (s : ByteArray) : s.size = s.data.toList.length := by rw [Array.length_toList]; rfl

/-- a number's bytes in the midst of others are read as the number -/
theorem mid (s : ByteArray) (U : Nat) (pre post : List UInt8) (hU : U < 18446744073709551616) (h : s.data.toList = pre ++ (numB U ++ post)) :
    numR s pre.length = (U, pre.length + (numB U).length, 0) := by
  obtain ⟨hK, hall, hlast⟩ := cnt_spec U hU
  have hn : numB U = numL U (cnt 9 U) := rfl
  have hlen : (numB U).length = cnt 9 U + 1 := by rw [hn, numL_length]
  have hsz : s.size = pre.length + (cnt 9 U + 1) + post.length := by rw [size_of, h]; simp [hlen]; omega
  have hd := dec s U pre.length (cnt 9 U) hU hK hall hlast (by omega)
    (fun j hj => by
      unfold byteN
      rw [h, getD_mid pre _ post j (by omega), hn, numL_get _ _ _ hj, UInt8.toNat_ofNat', Nat.mod_eq_of_lt (by omega)])
    (by
      unfold byteN
      rw [h, getD_mid pre _ post _ (by omega), hn, numL_last, UInt8.toNat_ofNat', Nat.mod_eq_of_lt (by omega)])
    (cnt 9 U) 0 (by omega) (by omega)
  rw [Nat.pow_zero, Nat.mod_one] at hd
  rw [hlen]
  exact hd

/-- a number's bytes without the last one end too early -/
theorem cut (s : ByteArray) (U : Nat) (hU : U < 18446744073709551616) (h : s.data.toList = (numB U).take ((numB U).length - 1)) : numR s 0 = (0, 0, 4) := by
  obtain ⟨hK, hall, hlast⟩ := cnt_spec U hU
  have hn : numB U = numL U (cnt 9 U) := rfl
  have hlen : (numB U).length = cnt 9 U + 1 := by rw [hn, numL_length]
  have hH : s.data.toList = numH U (cnt 9 U) := by
    rw [h, hlen, hn]
    unfold numL
    rw [List.take_append_of_le_length (by rw [numH_length]; omega), List.take_of_length_le (by rw [numH_length]; omega)]
  have hsz : s.size = cnt 9 U := by rw [size_of, hH, numH_length]
  exact dec_short s U (cnt 9 U) hK hsz
    (fun j hj => by
      unfold byteN
      rw [hH, numH_get _ _ _ hj, UInt8.toNat_ofNat', Nat.mod_eq_of_lt (by omega)])
    (cnt 9 U) 0 (by omega) (by omega) 0

theorem putS_list (n : Int) : (putS n).data.toList = numB (zz n) := rfl
theorem putS_len (n : Int) : (putS n).size = (numB (zz n)).length := by rw [size_of, putS_list]
theorem putS_pos (n : Int) : 1 ≤ (putS n).size := by rw [putS_len]; exact (numB_length (zz n)).2

theorem rd_of (s : ByteArray) (a u p : Nat) (c : Int) (hs : s.size ≤ 8000) (h : numR s a = (u, p, c)) : rd s (a : Int) = (unz u, p, c) := by
  unfold rd
  rw [if_neg (by omega), if_neg (by omega), Int.toNat_natCast, h]

theorem num_back (s : ByteArray) (n : Int) (pre post : List UInt8) (h1 : -9223372036854775808 ≤ n) (h2 : n ≤ 9223372036854775807) (hs : s.size ≤ 8000)
    (h : s.data.toList = pre ++ (numB (zz n) ++ post)) : rd s (pre.length : Int) = (n, pre.length + (putS n).size, 0) := by
  rw [rd_of s pre.length _ _ _ hs (mid s (zz n) pre post (zz_lt n h1 h2) h), unz_zz, putS_len]

theorem get_back (s : ByteArray) (n : Int) (pre post : List UInt8) (h1 : -9223372036854775808 ≤ n) (h2 : n ≤ 9223372036854775807) (hs : s.size ≤ 8000)
    (h : s.data.toList = pre ++ (numB (zz n) ++ post)) : getV s (pre.length : Int) = outN n ((pre.length + (putS n).size : Nat) : Int) 0 := by
  rw [getV_of s _ _ _ _ (num_back s n pre post h1 h2 hs h), if_pos rfl]

theorem extract_list (s : ByteArray) (a b : Nat) : (s.extract a b).data.toList = (s.data.toList.drop a).take (b - a) := by
  rw [ByteArray.data_extract, Array.toList_extract, List.extract_eq_take_drop]

theorem rd_cut (n : Int) (h1 : -9223372036854775808 ≤ n) (h2 : n ≤ 9223372036854775807) : rd ((putS n).extract 0 ((putS n).size - 1)) ((0 : Nat) : Int) = (0, 0, 4) := by
  have hl : ((putS n).extract 0 ((putS n).size - 1)).data.toList = (numB (zz n)).take ((numB (zz n)).length - 1) := by
    rw [extract_list, putS_len, putS_list]; simp
  have hb := (numB_length (zz n)).1
  rw [rd_of _ 0 _ _ _ (by rw [size_of, hl]; simp; omega) (cut _ (zz n) (zz_lt n h1 h2) hl)]
  rfl

theorem get_cut (n : Int) (h1 : -9223372036854775808 ≤ n) (h2 : n ≤ 9223372036854775807) : getV ((putS n).extract 0 ((putS n).size - 1)) 0 = outN 0 0 4 := by
  have := getV_of _ _ _ _ _ (rd_cut n h1 h2)
  rw [if_neg (by decide)] at this
  exact this

theorem putT_some (u : ByteArray) (h : u.size ≤ 8000) : putT u = putS (u.size : Int) ++ u := by unfold putT; rw [if_pos h]
theorem putT_list (u : ByteArray) (h : u.size ≤ 8000) : (putT u).data.toList = numB (zz (u.size : Int)) ++ u.data.toList := by
  rw [putT_some u h, ByteArray.data_append, Array.toList_append, putS_list]
theorem putT_size (u : ByteArray) (h : u.size ≤ 8000) : (putT u).size = (putS (u.size : Int)).size + u.size := by
  rw [putT_some u h, ByteArray.size_append]

theorem ba_ext {a b : ByteArray} (h : a.data.toList = b.data.toList) : a = b := by
  cases a; cases b
  simp only [ByteArray.mk.injEq]
  exact Array.toList_inj.1 h

/-- a text's bytes behind others are read as the text -/
theorem text_back (s u : ByteArray) (pre : List UInt8) (hu : u.size ≤ 8000) (hs : s.size ≤ 8000) (h : s.data.toList = pre ++ (putT u).data.toList) :
    textV s (pre.length : Int) = outT u ((pre.length + (putT u).size : Nat) : Int) 0 := by
  have hl : s.data.toList = pre ++ (numB (zz (u.size : Int)) ++ u.data.toList) := by rw [h, putT_list u hu]
  have hr := num_back s (u.size : Int) pre u.data.toList (by omega) (by omega) hs hl
  have hz : s.size = pre.length + (putS (u.size : Int)).size + u.size := by
    rw [size_of s, hl, putS_len, size_of u]; simp; omega
  have he : s.extract (pre.length + (putS (u.size : Int)).size) (pre.length + (putS (u.size : Int)).size + u.size) = u := by
    apply ba_ext
    rw [extract_list, hl, ← List.append_assoc, List.drop_left' (by rw [List.length_append, putS_len]), List.take_of_length_le (by rw [← size_of]; omega)]
  rw [textV_of s _ _ _ _ (rt_ok s _ u.size _ hr hu (by omega)), he, putT_size u hu, Nat.add_assoc]

/-- a text's bytes without the last one end too early -/
theorem text_cut (u : ByteArray) (hu : u.size ≤ 8000) (hs : (putT u).size ≤ 8000) : textV ((putT u).extract 0 ((putT u).size - 1)) 0 = outT ⟨#[]⟩ 0 4 := by
  by_cases h0 : u.size = 0
  · have e : putT u = putS (u.size : Int) := by
      apply ba_ext
      rw [putT_list u hu, putS_list]
      have : u.data.toList = [] := List.eq_nil_of_length_eq_zero (by rw [← size_of]; exact h0)
      rw [this, List.append_nil]
    rw [e]
    exact textV_of _ _ _ _ _ (rt_bad _ _ _ _ _ (rd_cut (u.size : Int) (by omega) (by omega)) (by decide))
  · have hz := putT_size u hu
    have hl : ((putT u).extract 0 ((putT u).size - 1)).data.toList = [] ++ (numB (zz (u.size : Int)) ++ u.data.toList.take (u.size - 1)) := by
      rw [extract_list, putT_list u hu, hz, putS_len, List.drop_zero, List.nil_append, List.take_append, List.take_of_length_le (by omega)]
      congr 2
      omega
    have hsz : ((putT u).extract 0 ((putT u).size - 1)).size = (putS (u.size : Int)).size + (u.size - 1) := by
      rw [size_of, hl, putS_len, List.nil_append, List.length_append, List.length_take, ← size_of]; omega
    have hr := num_back _ (u.size : Int) [] (u.data.toList.take (u.size - 1)) (by omega) (by omega) (by omega) hl
    exact textV_of _ _ _ _ _ (rt_short _ _ u.size _ hr hu (by rw [hsz]; simp; omega))
end Go.Proofs.YtkkoeaohmfdlgaaDoor.Nm2
