/- Texts put together: PkCat, HuffPlain, HuffBound, HuffOf, HuLeastB, HuRow, HuLeastS. -/
import Derived.Test.YthbpenanelbbcaaGreatDoorBz0
import Derived.Test.YthbpenanelbbcaaGreatDoorBz2
import Derived.Test.YthbpenanelbbcaaGreatDoorBz9
import Derived.Test.YthbpenanelbbcaaGreatDoorBz10
import Derived.WalkKit
import Derived.Laws.OwnMore
/- The walks of joinAll and putNums. -/
namespace Go.Proofs.YthbpenanelbbcaaGreatDoor.Pk
open Go.RowKit
open Go.Proofs.YthbpenanelbbcaaGreatDoor.St (Strs IsS made_strs)
open Go.Proofs.YthbpenanelbbcaaGreatDoor.In (Ints IsI OwnI made_ints)
open Go.Proofs.YthbpenanelbbcaaGreatDoor.Nu (putS)
theorem hideP {p : Prop} (h : p) : Hid p := h
def cat (l : List ByteArray) : List UInt8 := l.flatMap fun s => s.data.toList
theorem cat_next (l : List ByteArray) (k : Nat) (h : k < l.length) : cat (l.take (k + 1)) = cat (l.take k) ++ l[k].data.toList := by
 rw [List.take_add_one, List.getElem?_eq_getElem h]
 unfold cat
 rw [List.flatMap_append]
 simp
theorem cat_take_le (l : List ByteArray) (k : Nat) : (cat (l.take k)).length ≤ (cat l).length := by
  have : cat l = cat (l.take k) ++ cat (l.drop k) := by
   unfold cat
   rw [← List.flatMap_append, List.take_append_drop]
  rw [this, List.length_append]
  omega
set_option maxRecDepth 100000 in
set_option maxHeartbeats 1000000 in
theorem join_any (l : List ByteArray) (a : Option Addr) (cap n : Nat) (w : World) (h : Strs w w.heap.size a l) (hn : l.length = n) (hn2 : n ≤ 1048576) (hc : (cat l).length ≤ 1048576) :
  Calls Tryz.prog 19 #[.slice a n cap] w fun e w' => e = .returned (.string ⟨(cat l).toArray⟩) ∧ Below w.heap.size w w' := by
 have HN := hideP hn
 have HS := hideP h
 have HC := hideP (fun k => Nat.le_trans (cat_take_le l k) hc)
 clear h hn hc
 go_enter Tryz.func19, Tryz.ntmps19
 go_wp2_with fail
 go_loopw [8, 5] (fun i _ wr => ∃ k : Nat, i = .int .i64 k ∧ k ≤ n ∧ Lib.IsBuilder 54 5 w.heap.size w.heap.size (Lib.byteCells (cat (l.take k))) wr ∧ Below w.heap.size w wr ∧ w.heap.size ≤ wr.heap.size) (fun i _ _ => n - (intOf i).toNat)
 case atStart => exact ⟨0, rfl, Nat.zero_le _, Lib.fresh_isBuilder _ _ w, (Below.refl _ _).alloc (Nat.le_refl _) _, by simp⟩
 case round =>
  obtain ⟨k, rfl, hk, hbu, hbel, hbz⟩ := hrel
  have HBU := hideP hbu
  have GB := hideP hbel
  clear hbu hbel
  by_cases hlt : k < n
  ·have hkl : k < l.length := by rw [HN.out]; exact hlt
   obtain ⟨b, off, rfl, hb, hcl⟩ : ∃ b off, a = some ⟨b, off, none⟩ ∧ b < w.heap.size ∧ ∀ j (h : j < l.length), wr.cell? ⟨b, off + j, none⟩ = some (.string l[j]) := by
    rcases HS.out.below GB.out with h0 | h
    ·subst h0
     simp at hkl
    ·exact h
   have ci := hcl k hkl
   have HNX := hideP (cat_next l k hkl)
   have h1 := HC.out (k + 1)
   rw [HNX.out, List.length_append] at h1
   generalize l[k] = s at ci HNX h1
   have hss : s.data.toList.length = s.size := by simp
   have HLE : Hid ((Lib.byteCells (cat (l.take k))).length + s.size ≤ 140737488355328) := by
    unfold Hid
    rw [Lib.byteCells_length]
    omega
   have HNC : Hid (Lib.byteCells (cat (l.take k)) ++ Lib.strCells s = Lib.byteCells (cat (l.take (k + 1)))) := by
    unfold Hid
    rw [HNX.out, Lib.byteCells_append, Lib.strCells_eq]
   have HWR := hideP (Sb.write_any w.heap.size w.heap.size _ s wr HBU.out HLE.out hbz)
   clear hcl h1 hss hkl
   go_wp2_with fail
   refine HWR.out.mono ?_
   rintro e w2 ⟨rfl, hbt, hb2⟩
   rw [HNC.out] at hbt
   have HBT := hideP hbt
   have B2 := hideP (GB.out.trans hb2)
   have z2 := hb2.size
   clear hbt hb2
   go_wp2_with fail
   go_roundw
   case rel => exact ⟨k + 1, by go_num, by omega, Or.inr HBT.out, B2.out, by omega⟩
   case measure => simp [intOf]; omega
  ·obtain rfl : k = n := by omega
   have HE : Hid (cat (l.take k) = cat l) := by
    unfold Hid
    rw [List.take_of_length_le (by rw [HN.out]; exact Nat.le_refl _)]
   have HST := hideP (Sb.string_any w.heap.size w.heap.size _ wr HBU.out hbz)
   rw [HE.out] at HST
   go_wp2_with fail
   refine HST.out.mono ?_
   rintro e w2 ⟨rfl, hb2⟩
   have B2 := hideP (GB.out.trans hb2)
   clear hb2
   go_wp2_with fail
   go_ret
   exact ⟨rfl, B2.out⟩
def numsL (l : List Int) : List UInt8 := l.flatMap fun x => (putS x).data.toList
def putsN (l : List Int) (k : Nat) : List ByteArray := (l.take k).map putS ++ List.replicate (l.length - k) ⟨#[]⟩
theorem putsN_all (l : List Int) : cat (putsN l l.length) = numsL l := by
 unfold putsN cat numsL
 rw [List.take_length, Nat.sub_self, List.replicate_zero, List.append_nil, List.flatMap_map]
theorem putsN_length (l : List Int) (k : Nat) (h : k ≤ l.length) : (putsN l k).length = l.length := by
 unfold putsN
 rw [List.length_append, List.length_map, List.length_take, List.length_replicate]
 omega
theorem putsN_next (l : List Int) (k : Nat) (h : k < l.length) : (putsN l k).set k (putS l[k]) = putsN l (k + 1) := by
 have hl : ((l.take k).map putS).length = k := by rw [List.length_map, List.length_take]; omega
 unfold putsN
 rw [List.set_append, if_neg (by omega), hl, Nat.sub_self, show l.length - k = (l.length - (k + 1)) + 1 by omega, List.replicate_succ, List.set_cons_zero, List.take_add_one, List.getElem?_eq_getElem h, List.map_append, List.append_assoc]
 rfl
theorem putsN_zero (l : List Int) : putsN l 0 = List.replicate l.length ⟨#[]⟩ := by
 unfold putsN
 simp
theorem putS_size (n : Int) : (putS n).size ≤ 10 := by
 show (Nu.numB (Nu.zz n)).toArray.size ≤ 10
 rw [List.size_toArray]
 unfold Nu.numB
 rw [Nu.numL_length]
 have := Nu.cnt_le 9 (Nu.zz n)
 omega
theorem numsL_le (l : List Int) : (numsL l).length ≤ 10 * l.length := by
 induction l with
 | nil => exact Nat.le_refl _
 | cons x l ih =>
  have h1 := ih
  have h3 := putS_size x
  have h4 : (putS x).data.toList.length = (putS x).size := by simp
  unfold numsL at h1 ⊢
  rw [List.flatMap_cons, List.length_append, List.length_cons]
  omega
set_option maxRecDepth 100000 in
set_option maxHeartbeats 1000000 in
theorem nums_any (l : List Int) (a : Option Addr) (cap n : Nat) (w : World) (h : Ints w w.heap.size a l) (hn : l.length = n) (hn2 : n ≤ 100000) (hr : ∀ x ∈ l, -9223372036854775808 ≤ x ∧ x ≤ 9223372036854775807) :
  Calls Tryz.prog 49 #[.slice a n cap] w fun e w' => e = .returned (.string ⟨(numsL l).toArray⟩) ∧ Below w.heap.size w w' := by
 obtain ⟨i0, hi0, hz0, hz1, hz2⟩ := info_parts St.Tryz.infoS9
 have HN := hideP hn
 have HS := hideP h
 have HR := hideP hr
 have HLE := hideP (numsL_le l)
 clear h hn hr
 go_enter Tryz.func49, Tryz.ntmps49
 go_wp2_with (at_make; refine wpList_make_full _ rfl (.tmp 7) (.tmp 7) 30 rfl w.heap.size 9 i0 (.string ⟨#[]⟩) 1 Tryz.underlying30 hi0 hz0 hz1 .i64 .i64 _ _ n rfl rfl (by simp) (by simp) (by rw [hz2]; omega) (by unfold maxLen; omega) (Nat.le_refl _) ?_; intro w1 hown hgrow; have HI1 := hideP (made_strs hown); have HB1 := hideP ((Below.refl w.heap.size w).grown hgrow (Nat.le_refl _) (by simp)); clear hown hgrow)
 have z1 := HI1.out.lt
 go_loopw [11, 4, 5] (fun i _ _ wr => ∃ k : Nat, i = .int .i64 k ∧ k ≤ n ∧ IsS wr w.heap.size 9 (putsN l k) ∧ Below w.heap.size w wr) (fun i _ _ _ => n - (intOf i).toNat)
 case atStart => exact ⟨0, rfl, Nat.zero_le _, by rw [putsN_zero, HN.out]; exact HI1.out, HB1.out⟩
 case round =>
  obtain ⟨k, rfl, hk, hsr, hbw⟩ := hrel
  have SR := hideP hsr
  have BW := hideP hbw
  have hzr := hbw.size
  clear hsr hbw
  by_cases hlt : k < n
  ·have hkl : k < l.length := by rw [HN.out]; exact hlt
   obtain ⟨b, off, rfl, hb, hcl⟩ := (HS.out.below BW.out).some (by omega)
   have ci := hcl k hkl
   have HNX := hideP (putsN_next l k hkl)
   have hx := HR.out l[k] (List.getElem_mem hkl)
   have hpl : k < (putsN l k).length := by rw [putsN_length l k (by omega)]; exact hkl
   have HOLD := hideP (fun (W : World) (hW : IsS W w.heap.size 9 (putsN l k)) => hW.cell hpl)
   generalize l[k] = x at ci HNX hx
   generalize (putsN l k)[k] = old at HOLD
   have hkn : (k : Int) < n := by omega
   clear hcl hkl hpl
   go_wp2_with fail
   refine (Nu.put_impl x _ hx.1 hx.2).mono ?_
   rintro e w2 ⟨rfl, hb2⟩
   have S2 := hideP (SR.out.below hb2 SR.out.lt)
   have B2 := hideP (BW.out.trans (hb2.mono hzr))
   have c2 := HOLD.out w2 S2.out
   have f2 := S2.out.frozen k
   clear hb2
   go_wp2_with fail
   go_roundw
   case rel => exact ⟨k + 1, by go_num, by omega, by rw [← HNX.out]; exact S2.out.set k _, B2.out.setCell (by simp) _⟩
   case measure => simp [intOf]; omega
  ·obtain rfl : k = n := by omega
   have HJ : Hid (Calls Tryz.prog 19 #[.slice (some ⟨w.heap.size, 0, none⟩) k k] wr fun e w' => e = .returned (.string ⟨(numsL l).toArray⟩) ∧ Below wr.heap.size wr w') := by
    have hlk : k = l.length := HN.out.symm
    have := join_any (putsN l k) (some ⟨w.heap.size, 0, none⟩) k k wr (SR.out.strs SR.out.lt) (by rw [putsN_length l k (by omega)]; exact HN.out) (by omega) (by rw [hlk, putsN_all]; have := HLE.out; omega)
    rw [hlk, putsN_all] at this
    rw [hlk]
    exact this
   go_wp2_with fail
   refine HJ.out.mono ?_
   rintro e w2 ⟨rfl, hb2⟩
   have B2 := hideP (BW.out.trans (hb2.mono hzr))
   clear hb2
   go_wp2_with fail
   go_ret
   exact ⟨rfl, B2.out⟩
end Go.Proofs.YthbpenanelbbcaaGreatDoor.Pk


/- Plain mathematics of lengths: trees are put together, the two least ones first; of counts of 1 and 2 no length comes above 12. -/
namespace Go.Proofs.YthbpenanelbbcaaGreatDoor.Hf
abbrev Tree := Nat × List Nat
def wt (l : List Tree) (i : Nat) : Nat := (l.getD i (0, [])).1
def least (l : List Tree) : Nat → Nat
 | 0 => 0
 | i + 1 => if wt l i < wt l (least l i) then i else least l i
theorem least_le (l : List Tree) : ∀ i, least l i ≤ i - 1
 | 0 => Nat.le_refl _
 | i + 1 => by
  rw [least]
  have := least_le l i
  split <;> omega
theorem least_lt (l : List Tree) (h : 0 < l.length) : least l l.length < l.length := by
 have := least_le l l.length
 omega
theorem least_min (l : List Tree) : ∀ i j, j < i → wt l (least l i) ≤ wt l j
 | 0, j, h => by omega
 | i + 1, j, h => by
  rw [least]
  by_cases hj : j = i
  ·subst hj
   split <;> omega
  ·have := least_min l i j (by omega)
   split <;> omega
def at0 (l : List Tree) (i : Nat) : Tree := l.getD i (0, [])
def first (l : List Tree) : Tree := at0 l (least l l.length)
def rest1 (l : List Tree) : List Tree := l.eraseIdx (least l l.length)
def second (l : List Tree) : Tree := first (rest1 l)
def rest2 (l : List Tree) : List Tree := rest1 (rest1 l)
def both (l : List Tree) : Tree := ((first l).1 + (second l).1, (first l).2 ++ (second l).2)
def join (l : List Tree) : List Tree := rest2 l ++ [both l]
theorem rest1_length (l : List Tree) (h : 0 < l.length) : (rest1 l).length = l.length - 1 := by
 unfold rest1
 rw [List.length_eraseIdx, if_pos (least_lt l h)]
theorem rest2_length (l : List Tree) (h : 2 ≤ l.length) : (rest2 l).length = l.length - 2 := by
 unfold rest2
 rw [rest1_length _ (by rw [rest1_length l (by omega)]; omega), rest1_length l (by omega)]
 omega
theorem join_length (l : List Tree) (h : 2 ≤ l.length) : (join l).length = l.length - 1 := by
 unfold join
 rw [List.length_append, rest2_length l h]
 simp
 omega
def incs (d : List Nat) (s : List Nat) : List Nat := s.foldl (fun d k => d.set k (d.getD k 0 + 1)) d
theorem incs_length (s : List Nat) : ∀ d, (incs d s).length = d.length := by
 unfold incs
 induction s with
 | nil => intro d; rfl
 | cons k s ih =>
  intro d
  rw [List.foldl_cons, ih, List.length_set]
theorem getD_set (d : List Nat) (k j v : Nat) (hk : k < d.length) : (d.set k v).getD j 0 = if j = k then v else d.getD j 0 := by
 rw [List.getD_eq_getElem?_getD, List.getElem?_set]
 by_cases h : k = j
 ·subst h
  rw [if_pos rfl, if_pos hk, if_pos rfl]
  rfl
 ·rw [if_neg h, if_neg (fun e => h e.symm), List.getD_eq_getElem?_getD]
theorem incs_at (s : List Nat) : ∀ (d : List Nat) (j : Nat), s.Nodup → (∀ k ∈ s, k < d.length) → (incs d s).getD j 0 = if j ∈ s then d.getD j 0 + 1 else d.getD j 0 := by
 unfold incs
 induction s with
 | nil => intro d j _ _; simp
 | cons k s ih =>
  intro d j hn hk
  obtain ⟨h1, h2⟩ := List.nodup_cons.1 hn
  have hkd := hk k (List.mem_cons_self ..)
  rw [List.foldl_cons, ih (d.set k (d.getD k 0 + 1)) j h2 (fun x hx => by rw [List.length_set]; exact hk x (List.mem_cons_of_mem _ hx)), getD_set _ _ _ _ hkd]
  by_cases hj : j = k
  ·subst hj
   rw [if_neg h1, if_pos rfl, if_pos (List.mem_cons_self ..)]
  ·rw [if_neg hj]
   by_cases hs : j ∈ s
   ·rw [if_pos hs, if_pos (List.mem_cons_of_mem _ hs)]
   ·rw [if_neg hs, if_neg (fun h => by rcases List.mem_cons.1 h with h | h; exact hj h; exact hs h)]
def run : Nat → List Tree → List Nat → List Nat
 | 0, _, d => d
 | f + 1, l, d => if l.length ≤ 1 then d else run f (join l) (incs (incs d (first l).2) (second l).2)
theorem run_done (f : Nat) (l : List Tree) (d : List Nat) (h : l.length ≤ 1) : run f l d = d := by
 cases f with
 | zero => rfl
 | succ f => rw [run, if_pos h]
theorem run_more (l : List Tree) (d : List Nat) (h : ¬ l.length ≤ 1) : run l.length l d = run (join l).length (join l) (incs (incs d (first l).2) (second l).2) := by
 rw [join_length l (by omega)]
 obtain ⟨f, hf⟩ : ∃ f, l.length = f + 1 := ⟨l.length - 1, by omega⟩
 rw [hf, run, if_neg h]
 rfl
end Go.Proofs.YthbpenanelbbcaaGreatDoor.Hf


/- Plain mathematics of lengths: how deep trees come to be. -/
namespace Go.Proofs.YthbpenanelbbcaaGreatDoor.Hf
def fib : Nat → Nat
 | 0 => 0
 | 1 => 1
 | n + 2 => fib n + fib (n + 1)
theorem fib_le (n : Nat) : fib n ≤ fib (n + 1) := by
 cases n with
 | zero => decide
 | succ n =>
  rw [show fib (n + 1 + 1) = fib n + fib (n + 1) from rfl]
  omega
theorem fib_mono {m n : Nat} (h : m ≤ n) : fib m ≤ fib n := by
 induction n with
 | zero =>
  have : m = 0 := by omega
  rw [this]
  exact Nat.le_refl _
 | succ n ih =>
  by_cases hm : m = n + 1
  ·rw [hm]
   exact Nat.le_refl _
  ·exact Nat.le_trans (ih (by omega)) (fib_le n)
def dep (d : List Nat) (s : Nat) : Nat := d.getD s 0
def sep (d : List Nat) (t u : Tree) : Prop := (∀ s ∈ t.2, fib (dep d s + 1) ≤ u.1) ∧ (∀ s ∈ u.2, fib (dep d s + 1) ≤ t.1) ∧ ∀ s ∈ t.2, s ∉ u.2
theorem sep_symm {d : List Nat} {t u : Tree} (h : sep d t u) : sep d u t := ⟨h.2.1, h.1, fun s hs ht => h.2.2 s ht hs⟩
structure Inv (l : List Tree) (d : List Nat) (n : Nat) : Prop where
 own : ∀ t ∈ l, ∀ s ∈ t.2, fib (dep d s + 2) ≤ t.1
 nd : ∀ t ∈ l, t.2.Nodup
 lt : ∀ t ∈ l, ∀ s ∈ t.2, s < d.length
 pw : l.Pairwise (sep d)
 sum : (l.map (·.1)).sum = n
 out : ∀ s, (∀ t ∈ l, s ∉ t.2) → dep d s = 0
theorem Inv.perm {l l' : List Tree} {d : List Nat} {n : Nat} (h : Inv l d n) (p : l.Perm l') : Inv l' d n :=
 ⟨fun t ht => h.own t (p.mem_iff.2 ht), fun t ht => h.nd t (p.mem_iff.2 ht), fun t ht => h.lt t (p.mem_iff.2 ht), (p.pairwise_iff sep_symm).1 h.pw, (p.map _).sum_nat.symm.trans h.sum, fun s hs => h.out s fun t ht => hs t (p.mem_iff.1 ht)⟩
theorem first_mem (l : List Tree) (h : 0 < l.length) : first l = l[least l l.length]'(least_lt l h) := by
 unfold first at0
 rw [List.getD_eq_getElem?_getD, List.getElem?_eq_getElem (least_lt l h)]
 rfl
theorem erase_perm : ∀ (l : List Tree) (i : Nat) (h : i < l.length), l.Perm (l[i] :: l.eraseIdx i)
 | [], i, h => absurd h (Nat.not_lt_zero i)
 | _ :: _, 0, _ => List.Perm.refl _
 | x :: l, i + 1, h => ((erase_perm l i (Nat.lt_of_succ_lt_succ h)).cons x).trans (List.Perm.swap _ _ _)
theorem le_sum : ∀ (l : List Nat) (x : Nat), x ∈ l → x ≤ l.sum
 | [], x, h => absurd h (List.not_mem_nil)
 | y :: l, x, h => by
  rw [List.sum_cons]
  rcases List.mem_cons.1 h with rfl | h
  ·omega
  ·have := le_sum l x h
   omega
theorem first_perm (l : List Tree) (h : 0 < l.length) : l.Perm (first l :: rest1 l) := by
 rw [first_mem l h]
 exact erase_perm l _ (least_lt l h)
theorem first_min (l : List Tree) (t : Tree) (ht : t ∈ l) : (first l).1 ≤ t.1 := by
 obtain ⟨j, hj, rfl⟩ := List.getElem_of_mem ht
 have := least_min l l.length j hj
 unfold wt at this
 rw [show (l.getD j (0, [])) = l[j] by rw [List.getD_eq_getElem?_getD, List.getElem?_eq_getElem hj]; rfl] at this
 exact this
theorem two_perm (l : List Tree) (h : 2 ≤ l.length) : l.Perm (first l :: second l :: rest2 l) :=
 (first_perm l (by omega)).trans ((first_perm (rest1 l) (by rw [rest1_length l (by omega)]; omega)).cons _)
theorem join_perm (l : List Tree) : (join l).Perm (both l :: rest2 l) := List.perm_append_comm
theorem two_dep (d a b : List Nat) (ha : a.Nodup) (hb : b.Nodup) (hab : ∀ s ∈ a, s ∉ b) (la : ∀ s ∈ a, s < d.length) (lb : ∀ s ∈ b, s < d.length) (s : Nat) : dep (incs (incs d a) b) s = if s ∈ a ++ b then dep d s + 1 else dep d s := by
 unfold dep
 rw [incs_at b _ s hb (fun k hk => by rw [incs_length]; exact lb k hk), incs_at a d s ha la]
 by_cases h1 : s ∈ a
 ·rw [if_neg (hab s h1), if_pos h1, if_pos (List.mem_append_left _ h1)]
 ·by_cases h2 : s ∈ b
  ·rw [if_pos h2, if_neg h1, if_pos (List.mem_append_right _ h2)]
  ·rw [if_neg h2, if_neg h1, if_neg (fun h => by rcases List.mem_append.1 h with h | h; exact h1 h; exact h2 h)]
theorem Inv.two {a b : Tree} {r : List Tree} {d : List Nat} {n : Nat} (h : Inv (a :: b :: r) d n) (hm : ∀ c ∈ r, a.1 ≤ c.1 ∧ b.1 ≤ c.1) : Inv ((a.1 + b.1, a.2 ++ b.2) :: r) (incs (incs d a.2) b.2) n := by
 have ma : a ∈ a :: b :: r := List.mem_cons_self ..
 have mb : b ∈ a :: b :: r := List.mem_cons_of_mem _ (List.mem_cons_self ..)
 have mr : ∀ c ∈ r, c ∈ a :: b :: r := fun c hc => List.mem_cons_of_mem _ (List.mem_cons_of_mem _ hc)
 obtain ⟨pa, pb'⟩ := List.pairwise_cons.1 h.pw
 obtain ⟨pb, pr⟩ := List.pairwise_cons.1 pb'
 have sab := pa b (List.mem_cons_self ..)
 have hd := two_dep d a.2 b.2 (h.nd a ma) (h.nd b mb) sab.2.2 (h.lt a ma) (h.lt b mb)
 have hlen : (incs (incs d a.2) b.2).length = d.length := by rw [incs_length, incs_length]
 have hout : ∀ c ∈ r, ∀ s ∈ c.2, dep (incs (incs d a.2) b.2) s = dep d s := fun c hc s hs => by
  rw [hd, if_neg]
  intro hx
  rcases List.mem_append.1 hx with hx | hx
  ·exact (pa c (List.mem_cons_of_mem _ hc)).2.2 s hx hs
  ·exact (pb c hc).2.2 s hx hs
 refine ⟨?_, ?_, ?_, ?_, ?_, ?_⟩
 ·intro t ht s hs
  rcases List.mem_cons.1 ht with rfl | ht
  ·rw [hd, if_pos hs, show fib (dep d s + 1 + 2) = fib (dep d s + 1) + fib (dep d s + 2) from rfl]
   show _ ≤ a.1 + b.1
   rcases List.mem_append.1 hs with hs | hs
   ·have h1 := sab.1 s hs
    have h2 := h.own a ma s hs
    omega
   ·have h1 := sab.2.1 s hs
    have h2 := h.own b mb s hs
    omega
  ·rw [hout t ht s hs]
   exact h.own t (mr t ht) s hs
 ·intro t ht
  rcases List.mem_cons.1 ht with rfl | ht
  ·exact List.nodup_append.2 ⟨h.nd a ma, h.nd b mb, fun x hx y hy e => sab.2.2 x hx (e ▸ hy)⟩
  ·exact h.nd t (mr t ht)
 ·intro t ht s hs
  rw [hlen]
  rcases List.mem_cons.1 ht with rfl | ht
  ·rcases List.mem_append.1 hs with hs | hs
   ·exact h.lt a ma s hs
   ·exact h.lt b mb s hs
  ·exact h.lt t (mr t ht) s hs
 ·refine List.pairwise_cons.2 ⟨fun c hc => ⟨?_, ?_, ?_⟩, ?_⟩
  ·intro s hs
   rw [hd, if_pos hs]
   rcases List.mem_append.1 hs with hs | hs
   ·exact Nat.le_trans (h.own a ma s hs) (hm c hc).1
   ·exact Nat.le_trans (h.own b mb s hs) (hm c hc).2
  ·intro s hs
   rw [hout c hc s hs]
   have := (pa c (List.mem_cons_of_mem _ hc)).2.1 s hs
   show _ ≤ a.1 + b.1
   omega
  ·intro s hs hc'
   rcases List.mem_append.1 hs with hs | hs
   ·exact (pa c (List.mem_cons_of_mem _ hc)).2.2 s hs hc'
   ·exact (pb c hc).2.2 s hs hc'
  ·refine List.Pairwise.imp_of_mem ?_ pr
   intro c c' hc hc' hs
   refine ⟨fun s x => ?_, fun s x => ?_, hs.2.2⟩
   ·rw [hout c hc s x]
    exact hs.1 s x
   ·rw [hout c' hc' s x]
    exact hs.2.1 s x
 ·have := h.sum
  simp only [List.map_cons, List.sum_cons] at this ⊢
  omega
 ·intro s hs
  have h0 := hs _ (List.mem_cons_self ..)
  rw [hd, if_neg h0]
  refine h.out s fun t ht hts => ?_
  rcases List.mem_cons.1 ht with rfl | ht
  ·exact h0 (List.mem_append_left _ hts)
  ·rcases List.mem_cons.1 ht with rfl | ht
   ·exact h0 (List.mem_append_right _ hts)
   ·exact hs t (List.mem_cons_of_mem _ ht) hts
theorem Inv.join {l : List Tree} {d : List Nat} {n : Nat} (h : Inv l d n) (h2 : 2 ≤ l.length) : Inv (join l) (incs (incs d (first l).2) (second l).2) n := by
 refine Inv.perm (Inv.two (h.perm (two_perm l h2)) fun c hc => ⟨?_, ?_⟩) (join_perm l).symm
 ·exact first_min l c ((two_perm l h2).mem_iff.2 (List.mem_cons_of_mem _ (List.mem_cons_of_mem _ hc)))
 ·refine first_min (rest1 l) c ?_
  have hp := first_perm (rest1 l) (by rw [rest1_length l (by omega)]; omega)
  exact hp.mem_iff.2 (List.mem_cons_of_mem _ hc)
theorem Inv.bound {l : List Tree} {d : List Nat} {n : Nat} (h : Inv l d n) (s : Nat) : dep d s = 0 ∨ fib (dep d s + 2) ≤ n := by
 by_cases hs : ∀ t ∈ l, s ∉ t.2
 ·exact .inl (h.out s hs)
 ·refine .inr ?_
  obtain ⟨t, ht⟩ : ∃ t, ¬ (t ∈ l → s ∉ t.2) := Classical.not_forall.1 hs
  obtain ⟨hl, hst⟩ : t ∈ l ∧ s ∈ t.2 := ⟨Classical.byContradiction fun e => ht fun h => absurd h e, Classical.byContradiction fun e => ht fun _ => e⟩
  refine Nat.le_trans (h.own t hl s hst) ?_
  rw [← h.sum]
  exact le_sum _ _ (List.mem_map.2 ⟨t, hl, rfl⟩)
theorem run_bound (f : Nat) : ∀ (l : List Tree) (d : List Nat) (n : Nat), Inv l d n → ∀ s, dep (run f l d) s = 0 ∨ fib (dep (run f l d) s + 2) ≤ n := by
 induction f with
 | zero => intro l d n h s; exact h.bound s
 | succ f ih =>
  intro l d n h s
  rw [run]
  split
  ·exact h.bound s
  ·exact ih _ _ _ (h.join (by omega)) s
theorem run_length (f : Nat) : ∀ (l : List Tree) (d : List Nat), (run f l d).length = d.length := by
 induction f with
 | zero => intro l d; rfl
 | succ f ih =>
  intro l d
  rw [run]
  split
  ·rfl
  ·rw [ih, incs_length, incs_length]
end Go.Proofs.YthbpenanelbbcaaGreatDoor.Hf


/- Plain mathematics of lengths: counts made more alike till no length is above 12. -/
namespace Go.Proofs.YthbpenanelbbcaaGreatDoor.Hf
def trees (c : List Nat) : Nat → List Tree
 | 0 => []
 | i + 1 => if 0 < c.getD i 0 then trees c i ++ [(c.getD i 0, [i])] else trees c i
theorem trees_length (c : List Nat) : ∀ i, (trees c i).length ≤ i
 | 0 => Nat.le_refl _
 | i + 1 => by
  rw [trees]
  have := trees_length c i
  split
  ·rw [List.length_append]
   simp
   exact this
  ·omega
theorem trees_mem (c : List Nat) : ∀ i t, t ∈ trees c i → ∃ j, j < i ∧ 0 < c.getD j 0 ∧ t = (c.getD j 0, [j])
 | 0, t, h => absurd h (List.not_mem_nil)
 | i + 1, t, h => by
  rw [trees] at h
  split at h
  ·rcases List.mem_append.1 h with h | h
   ·obtain ⟨j, hj, hr⟩ := trees_mem c i t h
    exact ⟨j, by omega, hr⟩
   ·exact ⟨i, by omega, by assumption, List.mem_singleton.1 h⟩
  ·obtain ⟨j, hj, hr⟩ := trees_mem c i t h
   exact ⟨j, by omega, hr⟩
def zeros (n : Nat) : List Nat := List.replicate n 0
theorem dep_zeros (n s : Nat) : dep (zeros n) s = 0 := by
 unfold dep zeros
 rw [List.getD_eq_getElem?_getD, List.getElem?_replicate]
 split <;> rfl
theorem sum_take (c : List Nat) (i : Nat) (h : i < c.length) : (c.take (i + 1)).sum = (c.take i).sum + c.getD i 0 := by
 rw [List.take_add_one, List.getElem?_eq_getElem h, List.sum_append, List.getD_eq_getElem?_getD, List.getElem?_eq_getElem h]
 simp
theorem trees_inv (c : List Nat) : ∀ i, i ≤ c.length → Inv (trees c i) (zeros c.length) (c.take i).sum
 | 0, _ => ⟨fun t h => absurd h (List.not_mem_nil), fun t h => absurd h (List.not_mem_nil), fun t h => absurd h (List.not_mem_nil), List.Pairwise.nil, rfl, fun s _ => dep_zeros _ _⟩
 | i + 1, h => by
  have ih := trees_inv c i (by omega)
  rw [sum_take c i (by omega), trees]
  by_cases h0 : 0 < c.getD i 0
  ·rw [if_pos h0]
   refine ⟨?_, ?_, ?_, ?_, ?_, fun s _ => dep_zeros _ _⟩
   ·intro t ht s hs
    rw [dep_zeros]
    obtain ⟨j, _, hj, rfl⟩ := trees_mem c (i + 1) t (by rw [trees, if_pos h0]; exact ht)
    exact hj
   ·intro t ht
    obtain ⟨j, _, hj, rfl⟩ := trees_mem c (i + 1) t (by rw [trees, if_pos h0]; exact ht)
    simp
   ·intro t ht s hs
    obtain ⟨j, hji, hj, rfl⟩ := trees_mem c (i + 1) t (by rw [trees, if_pos h0]; exact ht)
    rw [List.mem_singleton.1 hs, show (zeros c.length).length = c.length from List.length_replicate ..]
    omega
   ·refine List.pairwise_append.2 ⟨ih.pw, List.pairwise_singleton _ _, fun t ht u hu => ?_⟩
    obtain ⟨j, hji, hj, rfl⟩ := trees_mem c i t ht
    rw [List.mem_singleton.1 hu]
    refine ⟨fun s _ => ?_, fun s _ => ?_, fun s hs hs' => ?_⟩
    ·rw [dep_zeros]
     exact h0
    ·rw [dep_zeros]
     exact hj
    ·have e1 := List.mem_singleton.1 hs
     have e2 := List.mem_singleton.1 hs'
     omega
   ·rw [List.map_append, List.sum_append, ih.sum]
    simp
  ·rw [if_neg h0, show c.getD i 0 = 0 by omega]
   exact ih
def depths (c : List Nat) : List Nat :=
 if (trees c c.length).length = 1 then (zeros c.length).set ((at0 (trees c c.length) 0).2.getD 0 0) 1 else run (trees c c.length).length (trees c c.length) (zeros c.length)
theorem depths_length (c : List Nat) : (depths c).length = c.length := by
 unfold depths
 split
 ·rw [List.length_set]
  exact List.length_replicate ..
 ·rw [run_length]
  exact List.length_replicate ..
theorem depths_bound (c : List Nat) (s : Nat) : dep (depths c) s ≤ 1 ∨ fib (dep (depths c) s + 2) ≤ c.sum := by
 unfold depths
 split
 ·refine .inl ?_
  unfold dep
  rw [List.getD_eq_getElem?_getD, List.getElem?_set]
  split
  ·split
   ·exact Nat.le_refl _
   ·exact Nat.zero_le _
  ·have := dep_zeros c.length s
   unfold dep at this
   rw [List.getD_eq_getElem?_getD] at this
   omega
 ·have h := trees_inv c c.length (Nat.le_refl _)
  rw [List.take_length] at h
  rcases run_bound (trees c c.length).length _ _ _ h s with h | h
  ·exact .inl (by omega)
  ·exact .inr h
def okay (d : List Nat) : Bool := d.all (fun x => decide (x ≤ 12))
theorem sum_le (c : List Nat) (m : Nat) (h : ∀ x ∈ c, x ≤ m) : c.sum ≤ m * c.length := by
 induction c with
 | nil => simp
 | cons x c ih =>
  have h1 := ih fun y hy => h y (List.mem_cons_of_mem _ hy)
  have h2 := h x (List.mem_cons_self ..)
  rw [List.sum_cons, List.length_cons, Nat.mul_add]
  omega
theorem okay_small (c : List Nat) (h : ∀ x ∈ c, x ≤ 2) (hl : c.length ≤ 257) : okay (depths c) = true := by
 unfold okay
 rw [List.all_eq_true]
 intro x hx
 obtain ⟨j, hj, rfl⟩ := List.getElem_of_mem hx
 have hd : dep (depths c) j = (depths c)[j] := by
  unfold dep
  rw [List.getD_eq_getElem?_getD, List.getElem?_eq_getElem hj]
  rfl
 have hs := sum_le c 2 h
 rw [← hd]
 rcases depths_bound c j with h1 | h1
 ·exact decide_eq_true (by omega)
 ·refine decide_eq_true (Nat.le_of_not_lt fun h12 => ?_)
  have h2 := fib_mono (show 15 ≤ dep (depths c) j + 2 by omega)
  rw [show fib 15 = 610 from rfl] at h2
  omega
def flat (c : List Nat) : List Nat := c.map fun x => if 0 < x then x / 2 + 1 else 0
theorem flat_length (c : List Nat) : (flat c).length = c.length := by
 unfold flat
 rw [List.length_map]
theorem flat_le (c : List Nat) : (flat c).sum ≤ c.sum := by
 unfold flat
 induction c with
 | nil => exact Nat.le_refl _
 | cons x c ih =>
  rw [List.map_cons, List.sum_cons, List.sum_cons]
  split <;> omega
theorem flat_lt (c : List Nat) (h : ∃ x ∈ c, 3 ≤ x) : (flat c).sum < c.sum := by
 induction c with
 | nil =>
  obtain ⟨x, hx, _⟩ := h
  cases hx
 | cons x c ih =>
  have hle := flat_le c
  unfold flat at hle ih ⊢
  rw [List.map_cons, List.sum_cons, List.sum_cons]
  obtain ⟨y, hy, h3⟩ := h
  rcases List.mem_cons.1 hy with rfl | hy
  ·rw [if_pos (by omega)]
   omega
  ·have := ih ⟨y, hy, h3⟩
   split <;> omega
theorem flat_more (c : List Nat) (hl : c.length ≤ 257) (h : ¬ okay (depths c) = true) : (flat c).sum < c.sum := by
 refine flat_lt c (Classical.byContradiction fun hn => h (okay_small c (fun x hx => ?_) hl))
 refine Nat.le_of_not_lt fun h3 => hn ⟨x, hx, h3⟩
def ofN : Nat → List Nat → List Nat
 | 0, c => depths c
 | f + 1, c => if okay (depths c) = true then depths c else ofN f (flat c)
theorem ofN_more (f : Nat) : ∀ (c : List Nat) (g : Nat), c.length ≤ 257 → c.sum ≤ f → c.sum ≤ g → ofN f c = ofN g c := by
 induction f with
 | zero =>
  intro c g hl hf _
  have hz : okay (depths c) = true := Classical.byContradiction fun h => by
   have := flat_more c hl h
   omega
  cases g with
  | zero => rfl
  | succ g => rw [ofN, ofN, if_pos hz]
 | succ f ih =>
  intro c g hl hf hg
  rw [ofN]
  by_cases h : okay (depths c) = true
  ·rw [if_pos h]
   cases g with
   | zero => rfl
   | succ g => rw [ofN, if_pos h]
  ·have hlt := flat_more c hl h
   rw [if_neg h]
   cases g with
   | zero => omega
   | succ g =>
    rw [ofN, if_neg h]
    exact ih (flat c) g (by rw [flat_length]; exact hl) (by omega) (by omega)
def lenOf (c : List Nat) : List Nat := ofN c.sum c
theorem lenOf_yes (c : List Nat) (h : okay (depths c) = true) : lenOf c = depths c := by
 unfold lenOf
 cases c.sum with
 | zero => rfl
 | succ f => rw [ofN, if_pos h]
theorem lenOf_no (c : List Nat) (hl : c.length ≤ 257) (h : ¬ okay (depths c) = true) : lenOf c = lenOf (flat c) := by
 have hlt := flat_more c hl h
 unfold lenOf
 obtain ⟨f, hf⟩ : ∃ f, c.sum = f + 1 := ⟨c.sum - 1, by omega⟩
 rw [hf, ofN, if_neg h]
 exact ofN_more f (flat c) _ (by rw [flat_length]; exact hl) (by omega) (Nat.le_refl _)
end Go.Proofs.YthbpenanelbbcaaGreatDoor.Hf


/- Plain mathematics: the first of the least but one, and what is left. -/
namespace Go.Proofs.YthbpenanelbbcaaGreatDoor.Hf
def lb (l : List Tree) (a : Nat) : Nat → Option Nat
 | 0 => none
 | i + 1 => if i = a then lb l a i else match lb l a i with
  | none => some i
  | some k => if wt l i < wt l k then some i else some k
def shift (a b : Nat) : Nat := if b < a then b else b + 1
theorem wt_low (l : List Tree) (a j : Nat) (h : j < a) : wt (l.eraseIdx a) j = wt l j := by
 unfold wt
 rw [List.getD_eq_getElem?_getD, List.getD_eq_getElem?_getD, List.getElem?_eraseIdx_of_lt h]
theorem wt_high (l : List Tree) (a j : Nat) (h : a ≤ j) : wt (l.eraseIdx a) j = wt l (j + 1) := by
 unfold wt
 rw [List.getD_eq_getElem?_getD, List.getD_eq_getElem?_getD, List.getElem?_eraseIdx_of_ge h]
theorem wt_shift (l : List Tree) (a b : Nat) : wt (l.eraseIdx a) b = wt l (shift a b) := by
 unfold shift
 split
 ·exact wt_low l a b (by assumption)
 ·exact wt_high l a b (by omega)
theorem lb_low (l : List Tree) (a : Nat) : ∀ i, i ≤ a → lb l a i = if i = 0 then none else some (shift a (least (l.eraseIdx a) i))
 | 0, _ => rfl
 | i + 1, h => by
  have ih := lb_low l a i (by omega)
  have hle := least_le (l.eraseIdx a) i
  rw [lb, if_neg (by omega), ih, if_neg (Nat.succ_ne_zero i), least]
  by_cases h0 : i = 0
  ·subst h0
   rw [if_pos rfl]
   show some 0 = _
   have : least (l.eraseIdx a) 0 = 0 := rfl
   rw [this, if_neg (Nat.lt_irrefl _)]
   unfold shift
   rw [if_pos (by omega)]
  ·rw [if_neg h0]
   simp only
   rw [wt_low l a i (by omega), wt_shift l a (least (l.eraseIdx a) i)]
   by_cases hw : wt l i < wt l (shift a (least (l.eraseIdx a) i))
   ·rw [if_pos hw, if_pos hw]
    unfold shift
    rw [if_pos (by omega)]
   ·rw [if_neg hw, if_neg hw]
theorem lb_high (l : List Tree) (a : Nat) : ∀ i, lb l a (a + 1 + i) = if a + i = 0 then none else some (shift a (least (l.eraseIdx a) (a + i)))
 | 0 => by
  rw [Nat.add_zero, lb, if_pos rfl, lb_low l a a (Nat.le_refl _), Nat.add_zero]
 | i + 1 => by
  have ih := lb_high l a i
  have hle := least_le (l.eraseIdx a) (a + i)
  rw [show a + 1 + (i + 1) = (a + 1 + i) + 1 by omega, lb, if_neg (by omega), ih, show a + (i + 1) = (a + i) + 1 by omega, if_neg (Nat.succ_ne_zero _), least]
  have hs : shift a (a + i) = a + 1 + i := by
   unfold shift
   rw [if_neg (by omega)]
   omega
  by_cases h0 : a + i = 0
  ·rw [if_pos h0]
   simp only
   have h00 : least (l.eraseIdx a) (a + i) = 0 := by rw [h0]; rfl
   rw [h00, h0, if_neg (Nat.lt_irrefl _), ← hs, h0]
  ·rw [if_neg h0]
   simp only
   rw [wt_high l a (a + i) (by omega), show a + i + 1 = a + 1 + i by omega, wt_shift l a (least (l.eraseIdx a) (a + i))]
   by_cases hw : wt l (a + 1 + i) < wt l (shift a (least (l.eraseIdx a) (a + i)))
   ·rw [if_pos hw, if_pos hw, hs]
   ·rw [if_neg hw, if_neg hw]
theorem lb_all (l : List Tree) (a n : Nat) (ha : a < n) (h2 : 2 ≤ n) : lb l a n = some (shift a (least (l.eraseIdx a) (n - 1))) := by
 have := lb_high l a (n - (a + 1))
 rw [show a + 1 + (n - (a + 1)) = n by omega, show a + (n - (a + 1)) = n - 1 by omega, if_neg (by omega)] at this
 exact this
end Go.Proofs.YthbpenanelbbcaaGreatDoor.Hf


/- Rows of trees in memory. -/
namespace Go.Proofs.YthbpenanelbbcaaGreatDoor.Hf
open Go.RowKit
theorem hideH {p : Prop} (h : p) : Hid p := h
abbrev MT := Tree × Value
def cells : List MT → List Value
 | [] => []
 | x :: m => .int .i64 (x.1.1 : Nat) :: x.2 :: cells m
theorem cells_length : ∀ m : List MT, (cells m).length = m.length * 2
 | [] => rfl
 | x :: m => by
  rw [cells, List.length_cons, List.length_cons, cells_length m, List.length_cons]
  omega
theorem cells_append : ∀ m k : List MT, cells (m ++ k) = cells m ++ cells k
 | [], k => rfl
 | x :: m, k => by
  rw [List.cons_append, cells, cells, cells_append m k]
  rfl
theorem cells_at : ∀ (m : List MT) (i : Nat) (h : i < m.length), (cells m)[i * 2]? = some (.int .i64 (m[i].1.1 : Nat)) ∧ (cells m)[i * 2 + 1]? = some m[i].2
 | x :: m, 0, _ => ⟨rfl, rfl⟩
 | x :: m, i + 1, h => by
  have := cells_at m i (Nat.lt_of_succ_lt_succ h)
  rw [cells, show (i + 1) * 2 = i * 2 + 2 by omega, show i * 2 + 2 + 1 = (i * 2 + 1) + 2 by omega]
  exact this
def Sym (W : World) (v : Value) (s : List Nat) : Prop :=
 ∃ g cap cur, v = .slice (some ⟨g, 0, none⟩) s.length cap ∧ W.heap[g]? = some (.cells cur 3 (0, 0)) ∧ s.length ≤ cap ∧ ∀ j (h : j < s.length), cur[j]? = some (.int .i64 (s[j] : Nat))
def Keeps (W W' : World) : Prop := ∀ (g : Nat) (cur : Array Value), W.heap[g]? = some (.cells cur 3 (0, 0)) → W'.heap[g]? = some (.cells cur 3 (0, 0))
theorem Keeps.refl (W : World) : Keeps W W := fun _ _ h => h
theorem Keeps.trans {W W' W'' : World} (h : Keeps W W') (k : Keeps W' W'') : Keeps W W'' := fun g cur e => k g cur (h g cur e)
theorem lt_row {w : World} {g : Nat} {o : Obj} (h : w.heap[g]? = some o) : g < w.heap.size := (Array.getElem?_eq_some_iff.1 h).1
theorem Keeps.below {W W' : World} (h : Below W.heap.size W W') : Keeps W W' := fun g _ e => (h.block g (lt_row e)).trans e
theorem Keeps.set {W : World} {g : Nat} {cs : Array Value} {e : TypeId} (hg : W.heap[g]? = some (.cells cs e (0, 0))) (he : e ≠ 3) (i : Nat) (v : Value) : Keeps W (W.setCell ⟨g, i, none⟩ v) := fun k cur h => by
 rw [heap_setCell_other W _ k v (by
  rintro rfl
  rw [hg] at h
  simp at h
  exact he h.2)]
 exact h
theorem Sym.keeps {W W' : World} {v : Value} {s : List Nat} (h : Sym W v s) (k : Keeps W W') : Sym W' v s := by
 obtain ⟨g, cap, cur, hv, hg, hc⟩ := h
 exact ⟨g, cap, cur, hv, k g cur hg, hc⟩
theorem Sym.cell {W : World} {v : Value} {s : List Nat} (h : Sym W v s) : ∃ g cap, v = .slice (some ⟨g, 0, none⟩) s.length cap ∧ g < W.heap.size ∧ s.length ≤ cap ∧ ∀ j (h : j < s.length), W.cell? ⟨g, j, none⟩ = some (.int .i64 (s[j] : Nat)) := by
 obtain ⟨g, cap, cur, hv, hg, hs, hc⟩ := h
 exact ⟨g, cap, hv, lt_row hg, hs, fun j hj => (cell_of_row W g j _ _ _ hg).trans (hc j hj)⟩
def OwnT (W : World) (e : TypeId) (base : Nat) (v : Value) (m : List MT) : Prop := W.ownsRow base e 2 v m.length (cells m)
def Syms (W : World) (m : List MT) : Prop := ∀ x ∈ m, Sym W x.2 x.1.2
theorem Syms.keeps {W W' : World} {m : List MT} (h : Syms W m) (k : Keeps W W') : Syms W' m := fun x hx => (h x hx).keeps k
theorem OwnT.slice {W : World} {e : TypeId} {base : Nat} {v : Value} {m : List MT} (h : OwnT W e base v m) (h0 : 0 < m.length) : ∃ g cap cur, v = .slice (some ⟨g, 0, none⟩) m.length cap ∧ base ≤ g ∧ m.length ≤ cap ∧ W.heap[g]? = some (.cells cur e (0, 0)) ∧ cur.size = cap * 2 ∧ cur.toList.take (m.length * 2) = cells m := by
 obtain ⟨_, h⟩ := h
 rcases h with ⟨_, h⟩ | ⟨g, cap, cur, hv, hg, hb, hn, _, hs, ht⟩
 ·omega
 ·exact ⟨g, cap, cur, hv, hg, hn, hb, hs, ht⟩
theorem row_at {W : World} {e : TypeId} {g : Nat} {cur : Array Value} {m : List MT} (hb : W.heap[g]? = some (.cells cur e (0, 0))) (ht : cur.toList.take (m.length * 2) = cells m) (i : Nat) (hi : i < m.length) :
  W.cell? ⟨g, i * 2, none⟩ = some (.int .i64 (m[i].1.1 : Nat)) ∧ W.cell? ⟨g, i * 2 + 1, none⟩ = some m[i].2 := by
 have hc := cells_at m i hi
 rw [← ht] at hc
 rw [List.getElem?_take_of_lt (by omega), List.getElem?_take_of_lt (by omega), Array.getElem?_toList, Array.getElem?_toList] at hc
 exact ⟨(cell_of_row W g _ _ _ _ hb).trans hc.1, (cell_of_row W g _ _ _ _ hb).trans hc.2⟩
def mt (m : List MT) : List Tree := m.map (·.1)
theorem mt_length (m : List MT) : (mt m).length = m.length := List.length_map ..
theorem wt_mt (m : List MT) (i : Nat) (h : i < m.length) : wt (mt m) i = m[i].1.1 := by
 unfold wt mt
 rw [List.getD_eq_getElem?_getD, List.getElem?_map, List.getElem?_eq_getElem h]
 rfl
end Go.Proofs.YthbpenanelbbcaaGreatDoor.Hf


/- For the walk of l04Least: the least but one, step by step. -/
namespace Go.Proofs.YthbpenanelbbcaaGreatDoor.Hf
open Go.RowKit
def oi : Option Nat → Int
 | none => -1
 | some k => (k : Int)
theorem lb_lt (l : List Tree) (a : Nat) : ∀ i k, lb l a i = some k → k < i
 | 0, k, h => by cases h
 | i + 1, k, h => by
  rw [lb] at h
  split at h
  ·have := lb_lt l a i k h
   omega
  ·split at h
   ·simp at h
    omega
   ·rename_i k' hk'
    have := lb_lt l a i k' hk'
    split at h <;> simp at h <;> omega
theorem lb_none {l : List Tree} {a i : Nat} (h : lb l a i = none) (hia : ¬ i = a) : lb l a (i + 1) = some i := by
 rw [lb, if_neg hia, h]
theorem lb_some {l : List Tree} {a i k : Nat} (h : lb l a i = some k) (hia : ¬ i = a) : lb l a (i + 1) = if wt l i < wt l k then some i else some k := by
 rw [lb, if_neg hia, h]
end Go.Proofs.YthbpenanelbbcaaGreatDoor.Hf

