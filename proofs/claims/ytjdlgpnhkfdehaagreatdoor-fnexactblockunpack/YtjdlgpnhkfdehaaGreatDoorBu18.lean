/- Texts put together: UnPlain, GetPlain, NumMath, GetV. -/
import Derived.Test.YtjdlgpnhkfdehaaGreatDoorBu16
import Derived.Test.YtjdlgpnhkfdehaaGreatDoorBu17
import Derived.Laws.BitsAllLaws
import Derived.Test.YtjdlgpnhkfdehaaGreatDoorBu0
import Derived.Test.YtjdlgpnhkfdehaaGreatDoorProg
import Derived.WalkKit
import Derived.WalkSpells
import Derived.WalkLawsBesides
/- Plain mathematics of BlockUnpack: the table of lengths comes back, and the block from what a table and bits tell. -/
namespace Go.Proofs.YtjdlgpnhkfdehaaGreatDoor.Up
open Go.Proofs.YtjdlgpnhkfdehaaGreatDoor.Pk
open Go.Proofs.YtjdlgpnhkfdehaaGreatDoor.Hf (up up_length up_at dep lenOf)
open Go.Proofs.YtjdlgpnhkfdehaaGreatDoor.Bi (putR putL okS whole above packR packV openR getR good open_all get_put put_good)
open Go.Proofs.YtjdlgpnhkfdehaaGreatDoor.So (bwtT bwtA unR unR_bwt tOut bwtT_size)
open Go.Proofs.YtjdlgpnhkfdehaaGreatDoor.Fr (frontR fbackR front_back frontR_yes fst_full look_some fst_more)
open Go.Proofs.YtjdlgpnhkfdehaaGreatDoor.Ze (zerosR backR zeros_back numsR upTo_of)
def syL (d : List Nat) (k : Nat) : List Nat := (List.range k).filter fun i => decide (0 < d.getD i 0)
theorem syL_lt {d : List Nat} {k : Nat} : ∀ i ∈ syL d k, i < k := fun _ hi => List.mem_range.1 (List.mem_filter.1 hi).1
theorem rowT_eq (d : List Nat) (k : Nat) : rowT d k = (syL d k).flatMap fun (i : Nat) => [(i : Int), ((d.getD i 0 : Nat) : Int)] := by
  induction k with
  | zero => rfl
  | succ k ih =>
    rw [rowT]
    unfold syL at ih ⊢
    rw [List.range_succ, List.filter_append, List.flatMap_append, ← ih]
    by_cases h : 0 < d.getD k 0
    · rw [if_pos h, List.filter_cons_of_pos (by simpa using h)]
      simp
    · rw [if_neg h, List.filter_cons_of_neg (by simpa using h)]
      simp
theorem above_eq (d : List Nat) : above (up d) = (syL d d.length).length := by
  have e : d = (List.range d.length).map fun i => d.getD i 0 := by
    refine List.ext_getElem (by simp) fun i h1 h2 => ?_
    rw [List.getElem_map, List.getElem_range, List.getD_eq_getElem?_getD, List.getElem?_eq_getElem h1]
    rfl
  unfold above up syL
  rw [List.countP_map, List.countP_eq_length_filter]
  conv => lhs; rw [e]
  rw [List.filter_map, List.length_map]
  congr 1
  refine List.filter_congr fun i _ => ?_
  simp
def tabL (d a : List Nat) (s : List Nat) : List Nat := s.foldl (fun a i => a.set i (d.getD i 0)) a
theorem tabL_length (d : List Nat) (s : List Nat) : ∀ a, (tabL d a s).length = a.length := by
  induction s with
  | nil => intro a; rfl
  | cons i s ih =>
    intro a
    show (tabL d (a.set i (d.getD i 0)) s).length = _
    rw [ih, List.length_set]
theorem tabL_next (d a s : List Nat) (k : Nat) (h : k < s.length) : tabL d a (s.take (k + 1)) = (tabL d a (s.take k)).set s[k] (d.getD s[k] 0) := by
  unfold tabL
  rw [List.take_succ_eq_append_getElem h, List.foldl_append]
  rfl
theorem tabL_get (d : List Nat) (s : List Nat) : ∀ (a : List Nat), (∀ i ∈ s, i < a.length) → ∀ j, (tabL d a s).getD j 0 = if j ∈ s then d.getD j 0 else a.getD j 0 := by
  induction s with
  | nil => intro a _ j; rw [if_neg (List.not_mem_nil)]; rfl
  | cons i s ih =>
    intro a h j
    have hi := h i (List.mem_cons_self ..)
    show (tabL d (a.set i (d.getD i 0)) s).getD j 0 = _
    rw [ih _ (fun x hx => by rw [List.length_set]; exact h x (List.mem_cons_of_mem _ hx)), Hf.getD_set _ _ _ _ hi]
    by_cases hj : j ∈ s
    · rw [if_pos hj, if_pos (List.mem_cons_of_mem _ hj)]
    · rw [if_neg hj]
      by_cases e : j = i
      · subst e
        rw [if_pos rfl, if_pos (List.mem_cons_self ..)]
      · rw [if_neg (by simpa using e), if_neg (by simp [hj, e])]
theorem tabL_all (d : List Nat) (h : d.length = 257) : tabL d (Hf.zeros 257) (syL d 257) = d := by
  have hl : (tabL d (Hf.zeros 257) (syL d 257)).length = 257 := by rw [tabL_length, zeros_length]
  refine List.ext_getElem (by rw [hl, h]) fun i h1 h2 => ?_
  have hg := tabL_get d (syL d 257) (Hf.zeros 257) (fun i hi => by rw [zeros_length]; exact syL_lt i hi) i
  rw [List.getD_eq_getElem?_getD, List.getElem?_eq_getElem h1] at hg
  have hd : d.getD i 0 = d[i] := by rw [List.getD_eq_getElem?_getD, List.getElem?_eq_getElem h2]; rfl
  have hz : (Hf.zeros 257).getD i 0 = 0 := by
    unfold Hf.zeros
    rw [List.getD_eq_getElem?_getD, List.getElem?_replicate]
    split <;> rfl
  rw [hd, hz] at hg
  rw [show (tabL d (Hf.zeros 257) (syL d 257))[i] = _ from hg]
  split
  · rfl
  · rename_i hn
    have : ¬ 0 < d.getD i 0 := fun h0 => hn (List.mem_filter.2 ⟨List.mem_range.2 (by omega), by simpa using h0⟩)
    omega
def Good (s b : ByteArray) : Prop := b.size ≤ 48 ∧ s = shortV b ∧ (shortV b).size < b.size + 1
theorem front_nums (l : List UInt8) (h : l.length ≤ 400) : numsR (frontR l) 255 = true := by
  have h0 := fst_full l l.length (Nat.le_refl _)
  rw [List.take_length] at h0
  rw [frontR_yes h]
  have hall : ∀ k, k ≤ l.length → ∀ x ∈ (Fr.fst' (l.take k)).1, 0 ≤ x ∧ x ≤ 255 := by
    intro k
    induction k with
    | zero => intro _ x hx; cases hx
    | succ k ih =>
      intro hk x hx
      have hf := (fst_full l k (by omega)).1
      obtain ⟨h1, _, _⟩ := look_some hf (c := l[k].toNat) (UInt8.toNat_lt _)
      rw [fst_more hk] at hx
      rcases List.mem_append.1 hx with hx | hx
      · exact ih (by omega) x hx
      · rw [List.mem_singleton.1 hx]
        omega
  have := hall l.length (Nat.le_refl _)
  rw [List.take_length] at this
  unfold numsR
  rw [decide_eq_true (by omega), upTo_of this]
  rfl
theorem bwt_len {b : ByteArray} (h : b.size ≤ 48) : (bwtT b).data.toList.length = b.size := by
  rw [Array.length_toList]
  exact bwtT_size h
theorem sym_back {b : ByteArray} (h : b.size ≤ 48) : backR (symS b) = frontR (bwtT b).data.toList := zeros_back (front_nums _ (by rw [bwt_len h]; omega))
theorem text_of_sym {b : ByteArray} (h : b.size ≤ 48) : (⟨(fbackR (backR (symS b))).toArray⟩ : ByteArray) = bwtT b := by
  rw [sym_back h, front_back _ (by rw [bwt_len h]; omega)]
theorem block_back {b : ByteArray} (h : b.size ≤ 48) : unR ⟨(fbackR (backR (symS b))).toArray⟩ ((bwtA b : Nat) : Int) = tOut b 0 0 := by
  rw [text_of_sym h]
  exact unR_bwt h
theorem sym_some {b : ByteArray} (h : b.size ≤ 48) (h0 : 0 < b.size) : 0 < above (up (lenS b)) := by
  cases hs : symS b with
  | nil =>
    exfalso
    have h1 := text_of_sym h
    rw [hs] at h1
    have h2 := bwtT_size h
    have e : (fbackR (backR [])) = [] := by
      have : backR [] = [] := by decide
      rw [this]
      decide
    rw [e] at h1
    rw [← h1] at h2
    have h3 : 0 = b.size := h2
    omega
  | cons x l =>
    obtain ⟨h1, h2, h3⟩ := symS_ok b x (by rw [hs]; exact List.mem_cons_self ..)
    unfold above
    rw [List.countP_pos_iff]
    have hl : x.toNat < (up (lenS b)).length := by omega
    rw [List.getD_eq_getElem?_getD, List.getElem?_eq_getElem hl] at h3
    exact ⟨_, List.getElem_mem hl, by simpa using h3⟩
theorem good_pos {s b : ByteArray} (h : Good s b) : 0 < b.size := by
  have h1 := h.2.2
  have h2 : 1 ≤ (shortV b).size := by
    show 1 ≤ (shortL b).toArray.size
    rw [List.size_toArray]
    unfold shortL
    simp
  omega
theorem bits_back {s b : ByteArray} (h : Good s b) : getR (up (lenS b)) (openR (bitsS b) (8 * ((bitsS b).size : Int))) ((symS b).length : Int) = (symS b, ((putL (up (lenS b)) (symS b)).length : Int), 0) := by
  have ha := sym_some h.1 (good_pos h)
  have hb : bitsS b = packV ⟨(putL (up (lenS b)) (symS b)).toArray⟩ := by
    unfold bitsS
    rw [bits_some b ha]
    have := bits_size b
    rw [bits_some b ha] at this
    exact Bi.packR_yes _ (by omega) (put_good _ _)
  have hz : (⟨(putL (up (lenS b)) (symS b)).toArray⟩ : ByteArray).size ≤ 4800 := by
    have := bits_size b
    rw [bits_some b ha] at this
    exact this
  obtain ⟨z, h1, h2⟩ := open_all (put_good (up (lenS b)) (symS b)) (by omega)
  rw [← hb] at h1 h2
  rw [show (8 * ((bitsS b).size : Int)) = ((8 * (bitsS b).size : Nat) : Int) by omega]
  refine get_put (lenS_whole b ha) (symS_ok b) (symS_len b) (z := z) (by rw [h1]) ?_ h2
  have hbs : (bitsS b).size ≤ 601 := by rw [hb, Bi.packV_size]; omega
  have : (openR (bitsS b) ((8 * (bitsS b).size : Nat) : Int)).size ≤ 8 * (bitsS b).size := by
    rw [Bi.openR_yes _ _ (by omega) (Nat.le_refl _)]
    exact Nat.le_of_eq (Sh.strF_size _ _)
  omega
end Go.Proofs.YtjdlgpnhkfdehaaGreatDoor.Up


/- Plain mathematics of reading a number: what stands at a place of a text, byte by byte. -/
namespace Go.Proofs.YtjdlgpnhkfdehaaGreatDoor.Gn
def byteN (s : ByteArray) (p : Nat) : Nat := (s.data.toList.getD p 0).toNat
theorem byteN_eq (s : ByteArray) (p : Nat) (h : p < s.size) : s[p].toNat = byteN s p := by
  have h' : p < s.data.toList.length := by simpa using h
  unfold byteN
  rw [List.getD_eq_getElem?_getD, List.getElem?_eq_getElem h']
  rfl
def run (s : ByteArray) : Nat → Nat → Nat → Nat → Nat × Nat × Int
  | 0, _, _, _ => (0, 0, 3)
  | f + 1, k, p, u =>
    if s.size ≤ p then (0, 0, 4)
    else if k = 9 ∧ 1 < byteN s p then (0, 0, 3)
    else if byteN s p < 128 then (if byteN s p = 0 ∧ 0 < k then (0, 0, 3) else (u + byteN s p % 128 * 2 ^ (7 * k), p + 1, 0))
    else run s f (k + 1) (p + 1) (u + byteN s p % 128 * 2 ^ (7 * k))
def numR (s : ByteArray) (a : Nat) : Nat × Nat × Int := run s 10 0 a 0
theorem run_end (s : ByteArray) (f k p u : Nat) (h : s.size ≤ p) : run s (f + 1) k p u = (0, 0, 4) := by
  rw [run, if_pos h]
theorem run_nine (s : ByteArray) (f k p u : Nat) (h : p < s.size) (hk : k = 9) (hc : 1 < s[p].toNat) : run s (f + 1) k p u = (0, 0, 3) := by
  rw [byteN_eq s p h] at hc
  rw [run, if_neg (by omega), if_pos ⟨hk, hc⟩]
theorem run_zero (s : ByteArray) (f k p u : Nat) (h : p < s.size) (hc : s[p].toNat = 0) (hk : 0 < k) : run s (f + 1) k p u = (0, 0, 3) := by
  rw [byteN_eq s p h] at hc
  rw [run, if_neg (by omega), if_neg (by omega), if_pos (by omega), if_pos ⟨hc, hk⟩]
theorem run_last (s : ByteArray) (f k p u : Nat) (h : p < s.size) (h9 : ¬ (k = 9 ∧ 1 < s[p].toNat)) (hc : s[p].toNat < 128) (hz : ¬ (s[p].toNat = 0 ∧ 0 < k)) :
    run s (f + 1) k p u = (u + s[p].toNat % 128 * 2 ^ (7 * k), p + 1, 0) := by
  rw [byteN_eq s p h] at hc hz h9 ⊢
  rw [run, if_neg (by omega), if_neg h9, if_pos hc, if_neg hz]
theorem run_more (s : ByteArray) (f k p u : Nat) (h : p < s.size) (hk : k ≠ 9) (hc : 128 ≤ s[p].toNat) :
    run s (f + 1) k p u = run s f (k + 1) (p + 1) (u + s[p].toNat % 128 * 2 ^ (7 * k)) := by
  rw [byteN_eq s p h] at hc ⊢
  rw [run, if_neg (by omega), if_neg (by omega), if_neg (by omega)]
theorem pow_le (k : Nat) (hk : k ≤ 9) : 2 ^ (7 * k) ≤ 9223372036854775808 := by
  have : 2 ^ (7 * k) ≤ 2 ^ 63 := Nat.pow_le_pow_right (by decide) (by omega)
  exact this
theorem pow_next (k : Nat) : 2 ^ (7 * (k + 1)) = 128 * 2 ^ (7 * k) := by
  rw [show 7 * (k + 1) = 7 + 7 * k by omega, Nat.pow_add]
theorem part_lt (c k : Nat) : c % 128 * 2 ^ (7 * k) ≤ 127 * 2 ^ (7 * k) := Nat.mul_le_mul_right _ (by omega)
theorem next_lt (u c k : Nat) (hu : u < 2 ^ (7 * k)) : u + c % 128 * 2 ^ (7 * k) < 2 ^ (7 * (k + 1)) := by
  rw [pow_next]
  have := part_lt c k
  omega
theorem next_small (u c k : Nat) (hu : u < 2 ^ (7 * k)) (hk : k ≤ 9) (h9 : ¬ (k = 9 ∧ 1 < c)) : c % 128 * 2 ^ (7 * k) ≤ 9223372036854775808 ∧ u + c % 128 * 2 ^ (7 * k) ≤ 18446744073709551615 := by
  have hp := pow_le k hk
  by_cases e : k = 9
  · have hc : c % 128 ≤ 1 := by omega
    have := Nat.mul_le_mul_right (2 ^ (7 * k)) hc
    omega
  · have hn := next_lt u c k hu
    have := pow_le (k + 1) (by omega)
    omega
theorem or_add (u c k : Nat) (hu : u < 2 ^ (7 * k)) : u ||| (c % 128 * 2 ^ (7 * k)) = u + c % 128 * 2 ^ (7 * k) := by
  rw [Nat.or_comm, nat_join (7 * k) (c % 128 * 2 ^ (7 * k)) u (Nat.mul_mod_left _ _) hu, Nat.add_comm]
def unz (u : Nat) : Int := if u % 2 = 1 then -((u / 2 : Nat) : Int) - 1 else ((u / 2 : Nat) : Int)
theorem wrap_part (c k : Nat) (h : c % 128 * 2 ^ (7 * k) ≤ 9223372036854775808) : IntKind.u64.wrap ((c : Int) % 128 * 2 ^ (7 * k)) = ((c % 128 * 2 ^ (7 * k) : Nat) : Int) := by
  have e : ((c : Int) % 128 * 2 ^ (7 * k)) = ((c % 128 * 2 ^ (7 * k) : Nat) : Int) := by
    rw [Int.natCast_mul, Int.natCast_emod, Int.natCast_pow]; rfl
  rw [e, IntKind.wrap_u64]
  omega
theorem wrap_next (v c k : Nat) (h1 : c % 128 * 2 ^ (7 * k) ≤ 9223372036854775808) (h2 : v + c % 128 * 2 ^ (7 * k) ≤ 18446744073709551615) :
    IntKind.u64.wrap ((v : Int) + IntKind.u64.wrap ((c : Int) % 128 * 2 ^ (7 * k))) = ((v + c % 128 * 2 ^ (7 * k) : Nat) : Int) := by
  rw [wrap_part c k h1, IntKind.wrap_u64]
  omega
theorem unz_odd (x : Nat) (h : x % 2 = 1) : unz x = -((x / 2 : Nat) : Int) - 1 := by unfold unz; rw [if_pos h]
theorem unz_even (x : Nat) (h : ¬ x % 2 = 1) : unz x = ((x / 2 : Nat) : Int) := by unfold unz; rw [if_neg h]
theorem and_low (c : Nat) (h : c < 256) : bits BinOp.and IntKind.u8 (c : Int) 127 = ((c % 128 : Nat) : Int) := by
  have := u8_and_nat c 127 h (by decide)
  rw [nat_mask7] at this
  exact this
theorem shl_part (y k : Nat) (h : y * 2 ^ (7 * k) ≤ 9223372036854775808) : IntKind.u64.wrap ((y : Int) * 2 ^ (7 * k)) = ((y * 2 ^ (7 * k) : Nat) : Int) := by
  have e : ((y : Int) * 2 ^ (7 * k)) = ((y * 2 ^ (7 * k) : Nat) : Int) := by
    rw [Int.natCast_mul, Int.natCast_pow]; rfl
  rw [e, IntKind.wrap_u64]
  omega
theorem or_part (v c k : Nat) (hv : v < 2 ^ (7 * k)) (h1 : c % 128 * 2 ^ (7 * k) ≤ 9223372036854775808) (h2 : v ≤ 9223372036854775807) :
    bits BinOp.or IntKind.u64 (v : Int) ((c % 128 * 2 ^ (7 * k) : Nat) : Int) = ((v + c % 128 * 2 ^ (7 * k) : Nat) : Int) := by
  rw [u64_or_nat v _ (by omega) (by omega), or_add v c k hv]
theorem unz_odd' (x : Nat) (h : x % 2 = 1) : -((x : Int) / 2) - 1 = unz x := by rw [unz_odd x h]; omega
theorem unz_even' (x : Nat) (h : ¬ x % 2 = 1) : (x : Int) / 2 = unz x := by rw [unz_even x h]; omega
end Go.Proofs.YtjdlgpnhkfdehaaGreatDoor.Gn


/- Plain mathematics of numbers as bytes, there and back: what is read where a number is written is the number; of its bytes without the last one nothing is read but that they end too early. -/
namespace Go.Proofs.YtjdlgpnhkfdehaaGreatDoor.Nm2
open Go.Proofs.YtjdlgpnhkfdehaaGreatDoor.Nu Go.Proofs.YtjdlgpnhkfdehaaGreatDoor.Gn
theorem unz_zz (n : Int) : unz (zz n) = n := by
  unfold zz
  split
  · rw [unz_odd _ (by omega)]; omega
  · rw [unz_even _ (by omega)]; omega
theorem pow_eq (k : Nat) : 2 ^ (7 * k) = 128 ^ k := by rw [Nat.pow_mul]
theorem cnt_spec (U : Nat) (hU : U < 18446744073709551616) : cnt 9 U ≤ 9 ∧ (∀ j, j < cnt 9 U → 128 ≤ U / 128 ^ j) ∧ U / 128 ^ cnt 9 U < 128 := by
  have key : ∀ f u, u / 128 ^ f < 128 → (∀ j, j < cnt f u → 128 ≤ u / 128 ^ j) ∧ u / 128 ^ cnt f u < 128 := by
    intro f
    induction f with
    | zero => intro u h; exact ⟨fun j hj => absurd hj (Nat.not_lt_zero j), by simpa [cnt] using h⟩
    | succ f ih =>
      intro u h
      unfold cnt
      split
      · rename_i hlt
        exact ⟨fun j hj => absurd hj (Nat.not_lt_zero j), by simpa using hlt⟩
      · rename_i hge
        rw [div_pow] at h
        obtain ⟨h1, h2⟩ := ih (u / 128) h
        refine ⟨fun j hj => ?_, by rw [div_pow]; exact h2⟩
        match j with
        | 0 => simpa using (by omega : 128 ≤ u)
        | j + 1 => rw [div_pow]; exact h1 j (by omega)
  refine ⟨cnt_le 9 U, key 9 U ?_⟩
  have e : (128 : Nat) ^ 9 = 9223372036854775808 := by decide
  rw [e]
  omega
theorem mod_next (U k : Nat) : U % 128 ^ k + U / 128 ^ k % 128 * 128 ^ k = U % 128 ^ (k + 1) := by
  rw [Nat.pow_succ, Nat.mod_mul, Nat.mul_comm (128 ^ k)]
theorem dec (s : ByteArray) (U p0 K : Nat) (hU : U < 18446744073709551616) (hK : K ≤ 9) (hall : ∀ j, j < K → 128 ≤ U / 128 ^ j) (hlast : U / 128 ^ K < 128)
    (hsz : p0 + K < s.size) (hb : ∀ j, j < K → byteN s (p0 + j) = U / 128 ^ j % 128 + 128) (hbl : byteN s (p0 + K) = U / 128 ^ K) :
    ∀ d k, K - k = d → k ≤ K → run s (10 - k) k (p0 + k) (U % 128 ^ k) = (U, p0 + K + 1, 0) := by
  intro d
  induction d with
  | zero =>
    intro k hd hk
    obtain rfl : k = K := by omega
    obtain ⟨f, hf⟩ : ∃ f, 10 - k = f + 1 := ⟨9 - k, by omega⟩
    have e := byteN_eq s (p0 + k) hsz
    rw [hbl] at e
    have h9 : ¬ (k = 9 ∧ 1 < s[p0 + k].toNat) := by
      rintro ⟨rfl, h⟩
      rw [e, show (128 : Nat) ^ 9 = 9223372036854775808 from by decide] at h
      omega
    have hz : ¬ (s[p0 + k].toNat = 0 ∧ 0 < k) := by
      rintro ⟨h, hk0⟩
      have h1 := hall (k - 1) (by omega)
      rw [e, show k = (k - 1) + 1 from by omega, pow_div] at h
      omega
    rw [hf, run_last s f k (p0 + k) _ hsz h9 (by rw [e]; exact hlast) hz, e, pow_eq, Nat.mod_eq_of_lt hlast]
    have hm : U % 128 ^ k + U / 128 ^ k * 128 ^ k = U := by rw [Nat.mul_comm]; exact Nat.mod_add_div U (128 ^ k)
    rw [hm]
  | succ d ih =>
    intro k hd hk
    have hlt : k < K := by omega
    obtain ⟨f, hf⟩ : ∃ f, 10 - k = f + 1 := ⟨9 - k, by omega⟩
    have hp : p0 + k < s.size := by omega
    have e := byteN_eq s (p0 + k) hp
    rw [hb k hlt] at e
    rw [hf, run_more s f k (p0 + k) _ hp (by omega) (by omega), e, pow_eq, Nat.add_mod_right, Nat.mod_mod, mod_next, show f = 10 - (k + 1) from by omega]
    exact ih (k + 1) (by omega) (by omega)
end Go.Proofs.YtjdlgpnhkfdehaaGreatDoor.Nm2


/- What GetNum answers, said of its text and place. -/
namespace Go.Proofs.YtjdlgpnhkfdehaaGreatDoor.Gn
open Go.RowKit
theorem hide {p : Prop} (h : p) : Hid p := h
def outN (n at_ code : Int) : Value := .agg #[.int .i64 n, .int .i64 at_, .int .i64 code]
def resV (r : Nat × Nat × Int) : Value := if r.2.2 = 0 then outN (unz r.1) r.2.1 0 else outN 0 0 r.2.2
def getV (s : ByteArray) (a : Int) : Value := if 8000 < s.size then outN 0 0 2 else if a < 0 then outN 0 0 1 else resV (numR s a.toNat)
end Go.Proofs.YtjdlgpnhkfdehaaGreatDoor.Gn

