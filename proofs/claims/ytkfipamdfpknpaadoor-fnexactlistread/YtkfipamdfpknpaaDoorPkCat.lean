/- The walks of joinAll and putNums. -/
import Derived.Test.YtkfipamdfpknpaaDoorBuilder
import Derived.Test.YtkfipamdfpknpaaDoorNumWalks
import Derived.Test.YtkfipamdfpknpaaDoorIntOwn
import Derived.Test.YtkfipamdfpknpaaDoorStrOwn
namespace Go.Proofs.YtkfipamdfpknpaaDoor.Pk
open Go.RowKit
open Go.Proofs.YtkfipamdfpknpaaDoor.St (Strs IsS made_strs)
open Go.Proofs.YtkfipamdfpknpaaDoor.In (Ints IsI OwnI made_ints)
open Go.Proofs.YtkfipamdfpknpaaDoor.Nu (putS)

theorem hideP {p : Prop} (h : p) : Hid p := h
/-- texts one behind the other -/
def cat (l : List ByteArray) : List UInt8 := l.flatMap fun s => s.data.toList
theorem cat_next (l : List ByteArray) (k : Nat) (h : k < l.length) : cat (l.take (k + 1)) = cat (l.take k) ++ l[k].data.toList := by
  rw [List.take_add_one, List.getElem?_eq_getElem h]
  unfold cat
  rw [List.flatMap_append]
  simp
theorem cat_take_le (l : List ByteArray) (k : Nat) : (cat (l.take k)).length ≤ (cat l).length := by
    have : cat l = cat (l.take k) ++ cat (l.drop k) := by
      unfold cat
      rw [← List.flatMap_append, List.take_append_drop]
    rw [this, List.length_append]
    omega

set_option maxRecDepth 100000 in
set_option maxHeartbeats 1000000 in
theorem join_any (l : List ByteArray) (a : Option Addr) (cap n : Nat) (w : World) (h : Strs w w.heap.size a l) (hn : l.length = n) (hn2 : n ≤ 1048576) (hc : (cat l).length ≤ 1048576) :
    Calls Tryd.prog 53 #[.slice a n cap] w fun e w' => e = .returned (.string ⟨(cat l).toArray⟩) ∧ Below w.heap.size w w' := by
  have HN := hideP hn
  have HS := hideP h
  have HC := hideP (fun k => Nat.le_trans (cat_take_le l k) hc)
  clear h hn hc
  go_enter Tryd.func53, Tryd.ntmps53
  go_wp2_with fail
  go_loopw [8, 5] (fun i _ wr => ∃ k : Nat, i = .int .i64 k ∧ k ≤ n ∧ Lib.IsBuilder 98 5 w.heap.size w.heap.size (Lib.byteCells (cat (l.take k))) wr ∧ Below w.heap.size w wr ∧ w.heap.size ≤ wr.heap.size) (fun i _ _ => n - (intOf i).toNat)
  case atStart => exact ⟨0, rfl, Nat.zero_le _, Lib.fresh_isBuilder _ _ w, (Below.refl _ _).alloc (Nat.le_refl _) _, by simp⟩
  case round =>
    obtain ⟨k, rfl, hk, hbu, hbel, hbz⟩ := hrel
    have HBU := hideP hbu
    have GB := hideP hbel
    clear hbu hbel
    by_cases hlt : k < n
    · have hkl : k < l.length := by rw [HN.out]; exact hlt
      obtain ⟨b, off, rfl, hb, hcl⟩ : ∃ b off, a = some ⟨b, off, none⟩ ∧ b < w.heap.size ∧ ∀ j (h : j < l.length), wr.cell? ⟨b, off + j, none⟩ = some (.string l[j]) := by
        rcases HS.out.below GB.out with h0 | h
        · subst h0
          simp at hkl
        · exact h
      have ci := hcl k hkl
      have HNX := hideP (cat_next l k hkl)
      have h1 := HC.out (k + 1)
      rw [HNX.out, List.length_append] at h1
      generalize l[k] = s at ci HNX h1
      have hss : s.data.toList.length = s.size := by simp
      have HLE : Hid ((Lib.byteCells (cat (l.take k))).length + s.size ≤ 140737488355328) := by
        unfold Hid
        rw [Lib.byteCells_length]
        omega
      have HNC : Hid (Lib.byteCells (cat (l.take k)) ++ Lib.strCells s = Lib.byteCells (cat (l.take (k + 1)))) := by
        unfold Hid
        rw [HNX.out, Lib.byteCells_append, Lib.strCells_eq]
      have HWR := hideP (Sb.write_any w.heap.size w.heap.size _ s wr HBU.out HLE.out hbz)
      clear hcl h1 hss hkl
      go_wp2_with fail
      refine HWR.out.mono ?_
      rintro e w2 ⟨rfl, hbt, hb2⟩
      rw [HNC.out] at hbt
      have HBT := hideP hbt
      have B2 := hideP (GB.out.trans hb2)
      have z2 := hb2.size
      clear hbt hb2
      go_wp2_with fail
      go_roundw
      case rel => exact ⟨k + 1, by go_num, by omega, Or.inr HBT.out, B2.out, by omega⟩
      case measure => simp [intOf]; omega
    · obtain rfl : k = n := by omega
      have HE : Hid (cat (l.take k) = cat l) := by
        unfold Hid
        rw [List.take_of_length_le (by rw [HN.out]; exact Nat.le_refl _)]
      have HST := hideP (Sb.string_any w.heap.size w.heap.size _ wr HBU.out hbz)
      rw [HE.out] at HST
      go_wp2_with fail
      refine HST.out.mono ?_
      rintro e w2 ⟨rfl, hb2⟩
      have B2 := hideP (GB.out.trans hb2)
      clear hb2
      go_wp2_with fail
      go_ret
      exact ⟨rfl, B2.out⟩

/-- numbers as bytes, one behind the other -/
def numsL (l : List Int) : List UInt8 := l.flatMap fun x => (putS x).data.toList
def putsN (l : List Int) (k : Nat) : List ByteArray := (l.take k).map putS ++ List.replicate (l.length - k) ⟨#[]⟩
theorem putsN_all (l : List Int) : cat (putsN l l.length) = numsL l := by
  unfold putsN cat numsL
  rw [List.take_length, Nat.sub_self, List.replicate_zero, List.append_nil, List.flatMap_map]
theorem putsN_length (l : List Int) (k : Nat) (h : k ≤ l.length) : (putsN l k).length = l.length := by
  unfold putsN
  rw [List.length_append, List.length_map, List.length_take, List.length_replicate]
  omega
theorem putsN_next (l : List Int) (k : Nat) (h : k < l.length) : (putsN l k).set k (putS l[k]) = putsN l (k + 1) := by
  have hl : ((l.take k).map putS).length = k := by rw [List.length_map, List.length_take]; omega
  unfold putsN
  rw [List.set_append, if_neg (by omega), hl, Nat.sub_self, show l.length - k = (l.length - (k + 1)) + 1 by omega, List.replicate_succ, List.set_cons_zero, List.take_add_one, List.getElem?_eq_getElem h, List.map_append, List.append_assoc]
  rfl
theorem putsN_zero (l : List Int) : putsN l 0 = List.replicate l.length ⟨#[]⟩ := by
  unfold putsN
  simp
theorem putS_size (n : Int) : (putS n).size ≤ 10 := by
  show (Nu.numB (Nu.zz n)).toArray.size ≤ 10
  rw [List.size_toArray]
  unfold Nu.numB
  rw [Nu.numL_length]
  have := Nu.cnt_le 9 (Nu.zz n)
  omega
theorem numsL_le (l : List Int) : (numsL l).length ≤ 10 * l.length := by
  induction l with
  | nil => exact Nat.le_refl _
  | cons x l ih =>
    have h1 := ih
    have h3 := putS_size x
    have h4 : (putS x).data.toList.length = (putS x).size := by simp
    unfold numsL at h1 ⊢
    rw [List.flatMap_cons, List.length_append, List.length_cons]
    omega

set_option maxRecDepth 100000 in
set_option maxHeartbeats 1000000 in
theorem nums_any (l : List Int) (a : Option Addr) (cap n : Nat) (w : World) (h : Ints w w.heap.size a l) (hn : l.length = n) (hn2 : n ≤ 100000) (hr : ∀ x ∈ l, -9223372036854775808 ≤ x ∧ x ≤ 9223372036854775807) :
    Calls Tryd.prog 59 #[.slice a n cap] w fun e w' => e = .returned (.string ⟨(numsL l).toArray⟩) ∧ Below w.heap.size w w' := by
  obtain ⟨i0, hi0, hz0, hz1, hz2⟩ := info_parts St.Tryd.infoS9
  have HN := hideP hn
  have HS := hideP h
  have HR := hideP hr
  have HLE := hideP (numsL_le l)
  clear h hn hr
  go_enter Tryd.func59, Tryd.ntmps59
  go_wp2_with (at_make; refine wpList_make_full _ rfl (.tmp 7) (.tmp 7) 30 rfl w.heap.size 9 i0 (.string ⟨#[]⟩) 1 Tryd.underlying30 hi0 hz0 hz1 .i64 .i64 _ _ n rfl rfl (by simp) (by simp) (by rw [hz2]; omega) (by unfold maxLen; omega) (Nat.le_refl _) ?_; intro w1 hown hgrow; have HI1 := hideP (made_strs hown); have HB1 := hideP ((Below.refl w.heap.size w).grown hgrow (Nat.le_refl _) (by simp)); clear hown hgrow)
  have z1 := HI1.out.lt
  go_loopw [11, 4, 5] (fun i _ _ wr => ∃ k : Nat, i = .int .i64 k ∧ k ≤ n ∧ IsS wr w.heap.size 9 (putsN l k) ∧ Below w.heap.size w wr) (fun i _ _ _ => n - (intOf i).toNat)
  case atStart => exact ⟨0, rfl, Nat.zero_le _, by rw [putsN_zero, HN.out]; exact HI1.out, HB1.out⟩
  case round =>
    obtain ⟨k, rfl, hk, hsr, hbw⟩ := hrel
    have SR := hideP hsr
    have BW := hideP hbw
    have hzr := hbw.size
    clear hsr hbw
    by_cases hlt : k < n
    · have hkl : k < l.length := by rw [HN.out]; exact hlt
      obtain ⟨b, off, rfl, hb, hcl⟩ := (HS.out.below BW.out).some (by omega)
      have ci := hcl k hkl
      have HNX := hideP (putsN_next l k hkl)
      have hx := HR.out l[k] (List.getElem_mem hkl)
      have hpl : k < (putsN l k).length := by rw [putsN_length l k (by omega)]; exact hkl
      have HOLD := hideP (fun (W : World) (hW : IsS W w.heap.size 9 (putsN l k)) => hW.cell hpl)
      generalize l[k] = x at ci HNX hx
      generalize (putsN l k)[k] = old at HOLD
      have hkn : (k : Int) < n := by omega
      clear hcl hkl hpl
      go_wp2_with fail
      refine (Nu.put_impl x _ hx.1 hx.2).mono ?_
      rintro e w2 ⟨rfl, hb2⟩
      have S2 := hideP (SR.out.below hb2 SR.out.lt)
      have B2 := hideP (BW.out.trans (hb2.mono hzr))
      have c2 := HOLD.out w2 S2.out
      have f2 := S2.out.frozen k
      clear hb2
      go_wp2_with fail
      go_roundw
      case rel => exact ⟨k + 1, by go_num, by omega, by rw [← HNX.out]; exact S2.out.set k _, B2.out.setCell (by simp) _⟩
      case measure => simp [intOf]; omega
    · obtain rfl : k = n := by omega
      have HJ : Hid (Calls Tryd.prog 53 #[.slice (some ⟨w.heap.size, 0, none⟩) k k] wr fun e w' => e = .returned (.string ⟨(numsL l).toArray⟩) ∧ Below wr.heap.size wr w') := by
        have hlk : k = l.length := HN.out.symm
        have := join_any (putsN l k) (some ⟨w.heap.size, 0, none⟩) k k wr (SR.out.strs SR.out.lt) (by rw [putsN_length l k (by omega)]; exact HN.out) (by omega) (by rw [hlk, putsN_all]; have := HLE.out; omega)
        rw [hlk, putsN_all] at this
        rw [hlk]
        exact this
      go_wp2_with fail
      refine HJ.out.mono ?_
      rintro e w2 ⟨rfl, hb2⟩
      have B2 := hideP (BW.out.trans (hb2.mono hzr))
      clear hb2
      go_wp2_with fail
      go_ret
      exact ⟨rfl, B2.out⟩
end Go.Proofs.YtkfipamdfpknpaaDoor.Pk
