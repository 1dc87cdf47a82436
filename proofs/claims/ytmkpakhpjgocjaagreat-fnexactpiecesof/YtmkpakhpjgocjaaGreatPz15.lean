/- Texts put together: StrOwn, PkJoin, CodesPlain. -/
import Derived.Test.YtmkpakhpjgocjaaGreatPz4
import Derived.Laws.AppendOwn
import Derived.Test.YtmkpakhpjgocjaaGreatPz0
import Derived.Test.YtmkpakhpjgocjaaGreatPz14
import Derived.Test.YtmkpakhpjgocjaaGreatPz8
/- Rows of texts that a call has made and owns: nil, or a block of its own whose head they are. -/
namespace Go.Proofs.YtmkpakhpjgocjaaGreat.St
open Go.RowKit

def OwnS (w : World) (base : Nat) (v : Value) (l : List ByteArray) : Prop := w.ownsRow base 9 1 v l.length (l.map Value.string)
theorem OwnS.nil (w : World) (base : Nat) : OwnS w base (.slice none 0 0) [] := World.ownsRow_nil w base _ _
theorem OwnS.split {w : World} {base : Nat} {v : Value} {l : List ByteArray} (h : OwnS w base v l) :
    (v = .slice none 0 0 ∧ l = []) ∨ ∃ g cap, v = .slice (some ⟨g, 0, none⟩) l.length cap ∧ base ≤ g ∧ l.length ≤ cap ∧ IsO w g 9 l := by
  obtain ⟨_, h⟩ := h
  rcases h with ⟨h, h0⟩ | ⟨g, cap, cur, hv, hg, hb, hnc, _, hsz, htk⟩
  · exact .inl ⟨h, List.eq_nil_of_length_eq_zero h0⟩
  · refine .inr ⟨g, cap, hv, hg, hnc, cur, hb, fun j hj => ?_⟩
    rw [← Array.getElem?_toList]
    have h1 : cur.toList[j]? = (cur.toList.take (l.length * 1))[j]? := by rw [List.getElem?_take_of_lt (by omega)]
    rw [h1, htk]
    simp [hj]
theorem OwnS.below {w w' : World} {base : Nat} {v : Value} {l : List ByteArray} (h : OwnS w base v l) (b : Below w.heap.size w w') : OwnS w' base v l := by
  obtain ⟨hl, h⟩ := h
  refine ⟨hl, ?_⟩
  rcases h with h | ⟨g, cap, cur, hv, hg, hb, rest⟩
  · exact .inl h
  · exact .inr ⟨g, cap, cur, hv, hg, by rw [b.block g (Array.getElem?_eq_some_iff.1 hb).1]; exact hb, rest⟩
theorem OwnS.mono {w : World} {base base' : Nat} {v : Value} {l : List ByteArray} (h : OwnS w base v l) (hb : base' ≤ base) : OwnS w base' v l := by
  obtain ⟨hl, h⟩ := h
  refine ⟨hl, ?_⟩
  rcases h with h | ⟨g, cap, cur, hv, hg, rest⟩
  · exact .inl h
  · exact .inr ⟨g, cap, cur, hv, Nat.le_trans hb hg, rest⟩
/-- as any slice of texts -/
theorem OwnS.strs {w : World} {base : Nat} {v : Value} {l : List ByteArray} (h : OwnS w base v l) : ∃ a cap, v = .slice a l.length cap ∧ l.length ≤ cap ∧ Strs w w.heap.size a l := by
  rcases h.split with ⟨rfl, rfl⟩ | ⟨g, cap, rfl, _, hc, ho⟩
  · exact ⟨none, 0, rfl, Nat.le_refl _, .inl rfl⟩
  · exact ⟨_, cap, rfl, hc, ho.strs ho.lt⟩
theorem one_newS (W : World) (s : ByteArray) (t : TypeId) : ∀ (j : Nat) (u : Value), [Value.string s][j]? = some u → (W.alloc (.cells #[.string s] t)).cell? ((⟨W.heap.size, 0, none⟩ : Addr).add j) = some u := by
  intro j u hj
  match j, hj with
  | 0, hj => simp at hj; subst hj; simp [Addr.add]
theorem one_cellS (s : ByteArray) : ∀ u ∈ [Value.string s], u.oneCell' = true := by
  intro u hu
  simp at hu
  subst hu
  rfl
/-- behind an append of one text -/
theorem OwnS.snoc {w : World} {base : Nat} {v : Value} {l : List ByteArray} {s : ByteArray} (h : w.ownsRow base 9 1 v (l.length + 1) (l.map Value.string ++ [.string s])) : OwnS w base v (l ++ [s]) := by
  unfold OwnS
  rw [List.length_append, List.map_append]
  exact h
theorem app_one {B base : Nat} {e : TypeId} {w0 w w1 : World} {v : Value} {n size : Nat} {xs : List Value} {o : Obj} (hbel : Below B w0 w) (hB : B ≤ w.heap.size) (hBb : B ≤ base)
    (hown : w.ownsRow base e size v n xs) (hgrow : (w.alloc o).grownBy w1 v.ownBlock) : Below B w0 w1 := by
  refine (hbel.alloc hB o).grown hgrow (by simp; omega) ?_
  intro k hk
  exact Nat.le_trans hBb (hown.lt k hk).1
end Go.Proofs.YtmkpakhpjgocjaaGreat.St

/- The walks of joinAll, putNums, countsOf and tableOf. -/
namespace Go.Proofs.YtmkpakhpjgocjaaGreat.Pk
open Go.RowKit
open Go.Proofs.YtmkpakhpjgocjaaGreat.St (Strs IsS made_strs)
open Go.Proofs.YtmkpakhpjgocjaaGreat.In (Ints IsI OwnI made_ints)
open Go.Proofs.YtmkpakhpjgocjaaGreat.Nu (putS)
open Go.Proofs.YtmkpakhpjgocjaaGreat.Hf (up up_length up_at up_set incs incs_next incs_length incs_le dep)

theorem hideP {p : Prop} (h : p) : Hid p := h
/-- texts one behind the other -/
def cat (l : List ByteArray) : List UInt8 := l.flatMap fun s => s.data.toList
theorem cat_next (l : List ByteArray) (k : Nat) (h : k < l.length) : cat (l.take (k + 1)) = cat (l.take k) ++ l[k].data.toList := by
  rw [List.take_add_one, List.getElem?_eq_getElem h]
  unfold cat
  rw [List.flatMap_append]
  simp
theorem cat_take_le (l : List ByteArray) (k : Nat) : (cat (l.take k)).length ≤ (cat l).length := by
    have : cat l = cat (l.take k) ++ cat (l.drop k) := by
      unfold cat
      rw [← List.flatMap_append, List.take_append_drop]
    rw [this, List.length_append]
    omega

set_option maxRecDepth 100000 in
set_option maxHeartbeats 1000000 in
theorem join_any (l : List ByteArray) (a : Option Addr) (cap n : Nat) (w : World) (h : Strs w w.heap.size a l) (hn : l.length = n) (hn2 : n ≤ 1048576) (hc : (cat l).length ≤ 1048576) :
    Calls Tryz.prog 19 #[.slice a n cap] w fun e w' => e = .returned (.string ⟨(cat l).toArray⟩) ∧ Below w.heap.size w w' := by
  have HN := hideP hn
  have HS := hideP h
  have HC := hideP (fun k => Nat.le_trans (cat_take_le l k) hc)
  clear h hn hc
  go_enter Tryz.func19, Tryz.ntmps19
  go_wp2_with fail
  go_loopw [8, 5] (fun i _ wr => ∃ k : Nat, i = .int .i64 k ∧ k ≤ n ∧ Lib.IsBuilder 36 5 w.heap.size w.heap.size (Lib.byteCells (cat (l.take k))) wr ∧ Below w.heap.size w wr ∧ w.heap.size ≤ wr.heap.size) (fun i _ _ => n - (intOf i).toNat)
  case atStart => exact ⟨0, rfl, Nat.zero_le _, Lib.fresh_isBuilder _ _ w, (Below.refl _ _).alloc (Nat.le_refl _) _, by simp⟩
  case round =>
    obtain ⟨k, rfl, hk, hbu, hbel, hbz⟩ := hrel
    have HBU := hideP hbu
    have GB := hideP hbel
    clear hbu hbel
    by_cases hlt : k < n
    · have hkl : k < l.length := by rw [HN.out]; exact hlt
      obtain ⟨b, off, rfl, hb, hcl⟩ : ∃ b off, a = some ⟨b, off, none⟩ ∧ b < w.heap.size ∧ ∀ j (h : j < l.length), wr.cell? ⟨b, off + j, none⟩ = some (.string l[j]) := by
        rcases HS.out.below GB.out with h0 | h
        · subst h0
          simp at hkl
        · exact h
      have ci := hcl k hkl
      have HNX := hideP (cat_next l k hkl)
      have h1 := HC.out (k + 1)
      rw [HNX.out, List.length_append] at h1
      generalize l[k] = s at ci HNX h1
      have hss : s.data.toList.length = s.size := by simp
      have HLE : Hid ((Lib.byteCells (cat (l.take k))).length + s.size ≤ 140737488355328) := by
        unfold Hid
        rw [Lib.byteCells_length]
        omega
      have HNC : Hid (Lib.byteCells (cat (l.take k)) ++ Lib.strCells s = Lib.byteCells (cat (l.take (k + 1)))) := by
        unfold Hid
        rw [HNX.out, Lib.byteCells_append, Lib.strCells_eq]
      have HWR := hideP (Sb.write_any w.heap.size w.heap.size _ s wr HBU.out HLE.out hbz)
      clear hcl h1 hss hkl
      go_wp2_with fail
      refine HWR.out.mono ?_
      rintro e w2 ⟨rfl, hbt, hb2⟩
      rw [HNC.out] at hbt
      have HBT := hideP hbt
      have B2 := hideP (GB.out.trans hb2)
      have z2 := hb2.size
      clear hbt hb2
      go_wp2_with fail
      go_roundw
      case rel => exact ⟨k + 1, by go_num, by omega, Or.inr HBT.out, B2.out, by omega⟩
      case measure => simp [intOf]; omega
    · obtain rfl : k = n := by omega
      have HE : Hid (cat (l.take k) = cat l) := by
        unfold Hid
        rw [List.take_of_length_le (by rw [HN.out]; exact Nat.le_refl _)]
      have HST := hideP (Sb.string_any w.heap.size w.heap.size _ wr HBU.out hbz)
      rw [HE.out] at HST
      go_wp2_with fail
      refine HST.out.mono ?_
      rintro e w2 ⟨rfl, hb2⟩
      have B2 := hideP (GB.out.trans hb2)
      clear hb2
      go_wp2_with fail
      go_ret
      exact ⟨rfl, B2.out⟩

/-- numbers as bytes, one behind the other -/
def numsL (l : List Int) : List UInt8 := l.flatMap fun x => (putS x).data.toList
def putsN (l : List Int) (k : Nat) : List ByteArray := (l.take k).map putS ++ List.replicate (l.length - k) ⟨#[]⟩
theorem putsN_all (l : List Int) : cat (putsN l l.length) = numsL l := by
  unfold putsN cat numsL
  rw [List.take_length, Nat.sub_self, List.replicate_zero, List.append_nil, List.flatMap_map]
theorem putsN_length (l : List Int) (k : Nat) (h : k ≤ l.length) : (putsN l k).length = l.length := by
  unfold putsN
  rw [List.length_append, List.length_map, List.length_take, List.length_replicate]
  omega
theorem putsN_next (l : List Int) (k : Nat) (h : k < l.length) : (putsN l k).set k (putS l[k]) = putsN l (k + 1) := by
  have hl : ((l.take k).map putS).length = k := by rw [List.length_map, List.length_take]; omega
  unfold putsN
  rw [List.set_append, if_neg (by omega), hl, Nat.sub_self, show l.length - k = (l.length - (k + 1)) + 1 by omega, List.replicate_succ, List.set_cons_zero, List.take_add_one, List.getElem?_eq_getElem h, List.map_append, List.append_assoc]
  rfl
theorem putsN_zero (l : List Int) : putsN l 0 = List.replicate l.length ⟨#[]⟩ := by
  unfold putsN
  simp
theorem putS_size (n : Int) : (putS n).size ≤ 10 := by
  show (Nu.numB (Nu.zz n)).toArray.size ≤ 10
  rw [List.size_toArray]
  unfold Nu.numB
  rw [Nu.numL_length]
  have := Nu.cnt_le 9 (Nu.zz n)
  omega
theorem numsL_le (l : List Int) : (numsL l).length ≤ 10 * l.length := by
  induction l with
  | nil => exact Nat.le_refl _
  | cons x l ih =>
    have h1 := ih
    have h3 := putS_size x
    have h4 : (putS x).data.toList.length = (putS x).size := by simp
    unfold numsL at h1 ⊢
    rw [List.flatMap_cons, List.length_append, List.length_cons]
    omega

set_option maxRecDepth 100000 in
set_option maxHeartbeats 1000000 in
theorem nums_any (l : List Int) (a : Option Addr) (cap n : Nat) (w : World) (h : Ints w w.heap.size a l) (hn : l.length = n) (hn2 : n ≤ 100000) (hr : ∀ x ∈ l, -9223372036854775808 ≤ x ∧ x ≤ 9223372036854775807) :
    Calls Tryz.prog 35 #[.slice a n cap] w fun e w' => e = .returned (.string ⟨(numsL l).toArray⟩) ∧ Below w.heap.size w w' := by
  obtain ⟨i0, hi0, hz0, hz1, hz2⟩ := info_parts St.Tryz.infoS9
  have HN := hideP hn
  have HS := hideP h
  have HR := hideP hr
  have HLE := hideP (numsL_le l)
  clear h hn hr
  go_enter Tryz.func35, Tryz.ntmps35
  go_wp2_with (at_make; refine wpList_make_full _ rfl (.tmp 7) (.tmp 7) 22 rfl w.heap.size 9 i0 (.string ⟨#[]⟩) 1 Tryz.underlying22 hi0 hz0 hz1 .i64 .i64 _ _ n rfl rfl (by simp) (by simp) (by rw [hz2]; omega) (by unfold maxLen; omega) (Nat.le_refl _) ?_; intro w1 hown hgrow; have HI1 := hideP (made_strs hown); have HB1 := hideP ((Below.refl w.heap.size w).grown hgrow (Nat.le_refl _) (by simp)); clear hown hgrow)
  have z1 := HI1.out.lt
  go_loopw [11, 4, 5] (fun i _ _ wr => ∃ k : Nat, i = .int .i64 k ∧ k ≤ n ∧ IsS wr w.heap.size 9 (putsN l k) ∧ Below w.heap.size w wr) (fun i _ _ _ => n - (intOf i).toNat)
  case atStart => exact ⟨0, rfl, Nat.zero_le _, by rw [putsN_zero, HN.out]; exact HI1.out, HB1.out⟩
  case round =>
    obtain ⟨k, rfl, hk, hsr, hbw⟩ := hrel
    have SR := hideP hsr
    have BW := hideP hbw
    have hzr := hbw.size
    clear hsr hbw
    by_cases hlt : k < n
    · have hkl : k < l.length := by rw [HN.out]; exact hlt
      obtain ⟨b, off, rfl, hb, hcl⟩ := (HS.out.below BW.out).some (by omega)
      have ci := hcl k hkl
      have HNX := hideP (putsN_next l k hkl)
      have hx := HR.out l[k] (List.getElem_mem hkl)
      have hpl : k < (putsN l k).length := by rw [putsN_length l k (by omega)]; exact hkl
      have HOLD := hideP (fun (W : World) (hW : IsS W w.heap.size 9 (putsN l k)) => hW.cell hpl)
      generalize l[k] = x at ci HNX hx
      generalize (putsN l k)[k] = old at HOLD
      have hkn : (k : Int) < n := by omega
      clear hcl hkl hpl
      go_wp2_with fail
      refine (Nu.put_impl x _ hx.1 hx.2).mono ?_
      rintro e w2 ⟨rfl, hb2⟩
      have S2 := hideP (SR.out.below hb2 SR.out.lt)
      have B2 := hideP (BW.out.trans (hb2.mono hzr))
      have c2 := HOLD.out w2 S2.out
      have f2 := S2.out.frozen k
      clear hb2
      go_wp2_with fail
      go_roundw
      case rel => exact ⟨k + 1, by go_num, by omega, by rw [← HNX.out]; exact S2.out.set k _, B2.out.setCell (by simp) _⟩
      case measure => simp [intOf]; omega
    · obtain rfl : k = n := by omega
      have HJ : Hid (Calls Tryz.prog 19 #[.slice (some ⟨w.heap.size, 0, none⟩) k k] wr fun e w' => e = .returned (.string ⟨(numsL l).toArray⟩) ∧ Below wr.heap.size wr w') := by
        have hlk : k = l.length := HN.out.symm
        have := join_any (putsN l k) (some ⟨w.heap.size, 0, none⟩) k k wr (SR.out.strs SR.out.lt) (by rw [putsN_length l k (by omega)]; exact HN.out) (by omega) (by rw [hlk, putsN_all]; have := HLE.out; omega)
        rw [hlk, putsN_all] at this
        rw [hlk]
        exact this
      go_wp2_with fail
      refine HJ.out.mono ?_
      rintro e w2 ⟨rfl, hb2⟩
      have B2 := hideP (BW.out.trans (hb2.mono hzr))
      clear hb2
      go_wp2_with fail
      go_ret
      exact ⟨rfl, B2.out⟩

/-- how often each symbol comes -/
def countsN (s : List Int) : List Nat := incs (Hf.zeros 257) (Hf.nats s)
theorem nats_take (s : List Int) (k : Nat) : (Hf.nats s).take k = Hf.nats (s.take k) := by
  unfold Hf.nats
  rw [List.map_take]
theorem nats_at (s : List Int) (k : Nat) (h : k < s.length) : (Hf.nats s)[k]'(by unfold Hf.nats; rw [List.length_map]; exact h) = s[k].toNat := by
  unfold Hf.nats
  rw [List.getElem_map]
theorem zeros_length (n : Nat) : (Hf.zeros n).length = n := List.length_replicate ..
theorem countsN_length (s : List Int) : (countsN s).length = 257 := by
  unfold countsN
  rw [incs_length, zeros_length]
theorem counts_le (s : List Int) (h : ∀ x ∈ s, 0 ≤ x ∧ x ≤ 256) (k j : Nat) : (incs (Hf.zeros 257) ((Hf.nats s).take k)).getD j 0 ≤ s.length := by
  have h1 := incs_le ((Hf.nats s).take k) (Hf.zeros 257) j (fun y hy => by
    obtain ⟨x, hx, rfl⟩ := List.mem_map.1 (List.mem_of_mem_take hy)
    have := h x hx
    rw [zeros_length]
    omega)
  have h2 := Hf.dep_zeros 257 j
  unfold Hf.dep at h2
  rw [List.length_take] at h1
  have h3 : (Hf.nats s).length = s.length := List.length_map ..
  omega

set_option maxRecDepth 100000 in
set_option maxHeartbeats 1000000 in
theorem counts_impl (s : List Int) (a : Option Addr) (cap n : Nat) (w : World) (h : Ints w w.heap.size a s) (hn : s.length = n) (hn2 : n ≤ 400) (hr : ∀ x ∈ s, 0 ≤ x ∧ x ≤ 256) :
    Calls Tryz.prog 31 #[.slice a n cap] w fun e w' => e = .returned (.slice (some ⟨w.heap.size, 0, none⟩) 257 257) ∧ IsI w' w.heap.size 2 (up (countsN s)) ∧ Below w.heap.size w w' := by
  obtain ⟨i0, hi, hz0, hz1, hz2⟩ := info_parts In.Tryz.infoI2
  have HN := hideP hn
  have HS := hideP h
  have HR := hideP hr
  have HCL := hideP (counts_le s hr)
  have HNL : Hid ((Hf.nats s).length = s.length) := List.length_map ..
  clear h hn hr
  have HZ : Hid (up (incs (Hf.zeros 257) ((Hf.nats s).take 0)) = List.replicate 257 0) := by
    unfold Hid
    rw [List.take_zero]
    show up (Hf.zeros 257) = _
    unfold up Hf.zeros
    rw [List.map_replicate]
    rfl
  go_enter Tryz.func31, Tryz.ntmps31
  go_wp2_with (at_make; refine wpList_make_full _ rfl (.const (.int .i64 257)) (.const (.int .i64 257)) 45 rfl w.heap.size 2 i0 (.int .i64 0) 1 Tryz.underlying45 hi hz0 hz1 .i64 .i64 _ _ 257 rfl rfl (by omega) (by omega) (by rw [hz2]; omega) (by unfold maxLen; omega) (Nat.le_refl _) ?_; intro w1 hown hgrow; have HI1 := hideP (made_ints hown); have HB1 := hideP ((Below.refl w.heap.size w).grown hgrow (Nat.le_refl _) (by simp)); clear hown hgrow)
  go_loopw [9, 5] (fun iv _ wr => ∃ j : Nat, iv = .int .i64 j ∧ j ≤ n ∧ IsI wr w.heap.size 2 (up (incs (Hf.zeros 257) ((Hf.nats s).take j))) ∧ Below w.heap.size w wr) (fun iv _ _ => n - (intOf iv).toNat)
  case atStart => exact ⟨0, rfl, Nat.zero_le _, by rw [HZ.out]; exact HI1.out, HB1.out⟩
  case round =>
    obtain ⟨j, rfl, hj, hij, hbw⟩ := hrel
    have IJ := hideP hij
    have BW := hideP hbw
    clear hij hbw
    by_cases hlt : j < n
    · have hjl : j < s.length := by rw [HN.out]; exact hlt
      obtain ⟨b, off, rfl, hb, hcl⟩ := (HS.out.below BW.out).some (by omega)
      have ci := hcl j hjl
      have hx := HR.out s[j] (List.getElem_mem hjl)
      have HNX := hideP (incs_next (Hf.zeros 257) (Hf.nats s) j (by rw [HNL.out]; exact hjl))
      rw [nats_at s j hjl] at HNX
      generalize s[j] = x at ci hx HNX
      obtain ⟨y, rfl⟩ : ∃ y : Nat, x = y := ⟨x.toNat, by omega⟩
      rw [Int.toNat_natCast] at HNX
      have hlen : y < (incs (Hf.zeros 257) ((Hf.nats s).take j)).length := by rw [incs_length, zeros_length]; omega
      have cl0 : wr.cell? ⟨w.heap.size, y, none⟩ = some (.int .i64 (((incs (Hf.zeros 257) ((Hf.nats s).take j)).getD y 0 : Nat) : Int)) := by
        rw [IJ.out.cell (j := y) (by rw [up_length]; exact hlen), up_at _ _ hlen]
      have zl0 := IJ.out.frozen y
      have hdb := HCL.out j y
      obtain ⟨dv, hdv⟩ : ∃ dv, dv = (incs (Hf.zeros 257) ((Hf.nats s).take j)).getD y 0 := ⟨_, rfl⟩
      have HDV := hideP hdv
      rw [← hdv] at cl0 hdb
      have hdv2 : dv ≤ 400 := by have := HN.out; omega
      have hy : (y : Int) < 257 := by omega
      clear hdv hcl hjl hlen hdb
      go_wp2_with fail
      go_roundw
      case rel =>
        refine ⟨j + 1, by go_num, by omega, ?_, BW.out.setCell (by simp) _⟩
        have := IJ.out.set y ((dv : Int) + 1)
        rw [HNX.out, ← HDV.out, ← up_set]
        exact this
      case measure => simp [intOf]; omega
    · obtain rfl : j = n := by omega
      have HE : Hid (IsI wr w.heap.size 2 (up (countsN s))) := by
        have := IJ.out
        rw [List.take_of_length_le (by rw [HNL.out, HN.out]; exact Nat.le_refl _)] at this
        exact this
      go_wp2_with fail
      go_ret
      exact ⟨rfl, HE.out, BW.out⟩

/-- each length above 0 behind the number of its symbol -/
def rowT (d : List Nat) : Nat → List Int
  | 0 => []
  | k + 1 => if 0 < d.getD k 0 then rowT d k ++ [(k : Int), ((d.getD k 0 : Nat) : Int)] else rowT d k
theorem rowT_length (d : List Nat) : ∀ k, (rowT d k).length ≤ 2 * k
  | 0 => Nat.le_refl _
  | k + 1 => by
    have := rowT_length d k
    rw [rowT]
    split
    · rw [List.length_append]
      simp
      omega
    · omega
theorem rowT_mem (d : List Nat) (m : Nat) (hm : ∀ i, d.getD i 0 ≤ m) : ∀ k x, x ∈ rowT d k → 0 ≤ x ∧ (x ≤ k ∨ x ≤ m)
  | 0, x, h => absurd h (List.not_mem_nil)
  | k + 1, x, h => by
    rw [rowT] at h
    split at h
    · rcases List.mem_append.1 h with h | h
      · have := rowT_mem d m hm k x h
        omega
      · have := hm k
        generalize d.getD k 0 = y at h this
        rcases List.mem_cons.1 h with rfl | h
        · omega
        · rw [List.mem_singleton.1 h]
          omega
    · have := rowT_mem d m hm k x h
      omega
theorem two_newI (W : World) (x y : Int) (t : TypeId) : ∀ (j : Nat) (u : Value), [Value.int .i64 x, Value.int .i64 y][j]? = some u → (W.alloc (.cells #[.int .i64 x, .int .i64 y] t)).cell? ((⟨W.heap.size, 0, none⟩ : Addr).add j) = some u := by
  intro j u hj
  match j, hj with
  | 0, hj => simp at hj; subst hj; simp [Addr.add]
  | 1, hj => simp at hj; subst hj; simp [Addr.add]

set_option maxRecDepth 100000 in
set_option maxHeartbeats 1000000 in
theorem table_impl (d : List Nat) (a : Option Addr) (cap n : Nat) (w : World) (h : Ints w w.heap.size a (up d)) (hn : d.length = n) (hn2 : n ≤ 257) (hm : ∀ i, d.getD i 0 ≤ 12) :
    Calls Tryz.prog 36 #[.slice a n cap] w fun e w' => e = .returned (.string ⟨(numsL (rowT d n)).toArray⟩) ∧ Below w.heap.size w w' := by
  obtain ⟨i0, hi, hz0, hz1, hz2⟩ := info_parts In.Tryz.infoI2
  have HN := hideP hn
  have HS := hideP h
  have HM := hideP hm
  have HRL := hideP (rowT_length d)
  have HRM := hideP (rowT_mem d 12 hm)
  clear h hn hm
  go_enter Tryz.func36, Tryz.ntmps36
  go_wp2_with fail
  go_loopw [8, 3, 4, 5] (fun iv tv _ _ wr => ∃ j : Nat, iv = .int .i64 j ∧ j ≤ n ∧ OwnI wr w.heap.size tv (rowT d j) ∧ Below w.heap.size w wr) (fun iv _ _ _ _ => n - (intOf iv).toNat)
  case atStart => exact ⟨0, rfl, Nat.zero_le _, OwnI.nil _ _, Below.refl _ _⟩
  case round =>
    obtain ⟨j, rfl, hj, ho, hbw⟩ := hrel
    have O := hideP ho
    have BW := hideP hbw
    have hz := hbw.size
    clear ho hbw
    by_cases hlt : j < n
    · have hjd : j < d.length := by rw [HN.out]; exact hlt
      obtain ⟨b, off, rfl, hb, hcl⟩ := (HS.out.below BW.out).some (by rw [up_length]; omega)
      have ci := Hf.up_get hcl j hjd
      have hg : d.getD j 0 = d[j] := by rw [List.getD_eq_getElem?_getD, List.getElem?_eq_getElem hjd]; rfl
      have hx := HM.out j
      have HNX : Hid (rowT d (j + 1) = if 0 < d.getD j 0 then rowT d j ++ [(j : Int), ((d.getD j 0 : Nat) : Int)] else rowT d j) := rfl
      rw [← hg] at ci
      have hrl := HRL.out j
      generalize d.getD j 0 = x at ci hx HNX hg
      clear hg hcl hjd
      by_cases h0 : 0 < x
      · have h0' : (0 : Int) < x := by omega
        rw [if_pos h0] at HNX
        go_wp2_with (at_builtin; refine wpList_append_own _ rfl (.tmp 15) (.tmp 18) 45 rfl w.heap.size 2 i0 (.int .i64 0) 1 8 Tryz.underlying45 hi hz0 hz1 hz2 rfl (by decide) _ _ _ rfl (World.ownsRow.alloc O.out _) ⟨wr.heap.size, 0, none⟩ 2 2 [.int .i64 (j : Nat), .int .i64 (x : Nat)] rfl rfl (two_newI wr _ _ _) (Hf.two_one rfl rfl) (by unfold maxLen; omega) (by omega) (by simp; omega) ?_)
        intro v3 w3 hown hgrow _
        have O3 : Hid (OwnI w3 w.heap.size v3 (rowT d (j + 1))) := by
          rw [HNX.out]
          unfold OwnI
          rw [List.length_append, List.map_append]
          exact hown
        have B3 := hideP (In.app_one BW.out hz (Nat.le_refl _) O.out hgrow)
        clear hown hgrow O
        go_wp2_with fail
        go_roundw
        case rel => exact ⟨j + 1, by go_num, by omega, O3.out, B3.out⟩
        case measure => simp [intOf]; omega
      · have h0' : x = 0 := by omega
        subst h0'
        rw [if_neg h0] at HNX
        go_wp2_with fail
        go_roundw
        case rel => exact ⟨j + 1, by go_num, by omega, by rw [HNX.out]; exact O.out, BW.out⟩
        case measure => simp [intOf]; omega
    · obtain rfl : j = n := by omega
      have hrl := HRL.out j
      obtain ⟨x, c, hv, _, hi2⟩ := O.out.ints
      obtain ⟨m, hm⟩ : ∃ m, m = (rowT d j).length := ⟨_, rfl⟩
      have HJ := hideP (nums_any (rowT d j) x c m wr hi2 hm.symm (by omega) (fun y hy => by have := HRM.out j y hy; omega))
      rw [← hm] at hv
      subst hv
      clear hi2 hm
      go_wp2_with fail
      refine HJ.out.mono ?_
      rintro e w2 ⟨rfl, hb2⟩
      have B2 := hideP (BW.out.trans (hb2.mono hz))
      clear hb2
      go_wp2_with fail
      go_ret
      exact ⟨rfl, B2.out⟩
end Go.Proofs.YtmkpakhpjgocjaaGreat.Pk

/- Plain mathematics of codes: the codes of lengths, one width behind the other, and that each fits its width. -/
namespace Go.Proofs.YtmkpakhpjgocjaaGreat.Bi
open Go.RowKit

def cnt (l : List Int) (v : Int) : Nat := l.countP fun x => decide (x = v)
theorem cnt_snoc (l : List Int) (v x : Int) : cnt (l ++ [x]) v = cnt l v + if x = v then 1 else 0 := by simp [cnt, List.countP_append, List.countP_cons]
theorem cnt_more {l : List Int} {k : Nat} (h : k < l.length) (v : Int) : cnt (l.take (k + 1)) v = cnt (l.take k) v + if l[k] = v then 1 else 0 := by
  rw [take_more h, cnt_snoc]
theorem cnt_take (l : List Int) (v : Int) (k : Nat) : cnt (l.take k) v ≤ cnt l v := by
  unfold cnt
  exact List.Sublist.countP_le (List.take_sublist k l)
theorem cnt_here {l : List Int} {k : Nat} {v : Int} (h : k < l.length) (e : l[k] = v) : cnt (l.take k) v + 1 ≤ cnt l v := by
  have h1 := cnt_more h v
  rw [if_pos e] at h1
  have h2 := cnt_take l v (k + 1)
  omega

/-- what codes of at most a width take -/
def lowP (v : Nat) (x : Int) : Nat := if 0 < x ∧ x ≤ v then 2 ^ (12 - x.toNat) else 0
def low (l : List Int) (v : Nat) : Nat := (l.map (lowP v)).sum
theorem lowP_succ (v : Nat) (x : Int) : lowP (v + 1) x = lowP v x + (if x = ((v + 1 : Nat) : Int) then 1 else 0) * 2 ^ (12 - (v + 1)) := by
  unfold lowP
  by_cases h : x = ((v + 1 : Nat) : Int)
  · rw [if_pos h, if_pos (by omega), if_neg (by omega)]
    subst h
    simp
  · rw [if_neg h]
    by_cases h2 : 0 < x ∧ x ≤ v
    · rw [if_pos h2, if_pos (by omega)]
      omega
    · rw [if_neg h2, if_neg (by omega)]
      omega
theorem low_succ (l : List Int) (v : Nat) : low l (v + 1) = low l v + cnt l ((v + 1 : Nat) : Int) * 2 ^ (12 - (v + 1)) := by
  induction l with
  | nil => simp [low, cnt]
  | cons x l ih =>
    simp only [low, List.map_cons, List.sum_cons, cnt, List.countP_cons] at ih ⊢
    rw [ih, lowP_succ, Nat.add_mul]
    by_cases h : x = ((v + 1 : Nat) : Int)
    · simp only [h, if_true, decide_true]
      omega
    · simp only [h, if_false, decide_false, Bool.false_eq_true]
      omega
theorem low_zero (l : List Int) : low l 0 = 0 := by
  induction l with
  | nil => rfl
  | cons x l ih =>
    simp only [low, List.map_cons, List.sum_cons] at ih ⊢
    rw [ih, lowP, if_neg (by omega)]
theorem low_le (l : List Int) (v : Nat) : low l v ≤ csum l := by
  induction l with
  | nil => simp [low]
  | cons x l ih =>
    simp only [low, csum, List.map_cons, List.sum_cons] at ih ⊢
    have : lowP v x ≤ part x := by
      unfold lowP part
      generalize 2 ^ (12 - x.toNat) = p
      split <;> split <;> omega
    omega

/-- the number behind k places at a width -/
def innN (l : List Int) (v n0 k : Nat) : Nat := n0 + cnt (l.take k) v
/-- the next number behind a width -/
def outN (l : List Int) : Nat → Nat
  | 0 => 0
  | v + 1 => 2 * outN l v + cnt l ((v + 1 : Nat) : Int)
theorem outN_low (l : List Int) : ∀ v, v ≤ 12 → outN l v * 2 ^ (12 - v) = low l v := by
  intro v
  induction v with
  | zero => intro _; simp [outN, low_zero]
  | succ v ih =>
    intro hv
    rw [low_succ, ← ih (by omega)]
    simp only [outN]
    rw [Nat.add_mul, show 12 - v = 12 - (v + 1) + 1 by omega, Nat.pow_succ, Nat.mul_comm 2 (outN l v), Nat.mul_assoc, Nat.mul_comm 2]
theorem inn_fits {l : List Int} (hr : csum l ≤ 4096) {v k : Nat} (hv : v < 12) (hk : k < l.length) (e : l[k] = ((v + 1 : Nat) : Int)) : innN l (v + 1) (2 * outN l v) k < 2 ^ (v + 1) := by
  have h1 := cnt_here hk e
  have h2 := outN_low l (v + 1) (by omega)
  have h3 := low_le l (v + 1)
  have h4 : (2 : Nat) ^ (v + 1) * 2 ^ (12 - (v + 1)) = 4096 := by
    rw [← Nat.pow_add, show v + 1 + (12 - (v + 1)) = 12 by omega]
  have h5 : outN l (v + 1) * 2 ^ (12 - (v + 1)) ≤ 2 ^ (v + 1) * 2 ^ (12 - (v + 1)) := by rw [h2, h4]; omega
  have h6 : outN l (v + 1) ≤ 2 ^ (v + 1) := Nat.le_of_mul_le_mul_right h5 (Nat.pow_pos (by decide))
  simp only [outN] at h6
  unfold innN
  omega
theorem out_fits {l : List Int} (hr : csum l ≤ 4096) {v : Nat} (hv : v ≤ 12) : outN l v ≤ 2 ^ v := by
  have h2 := outN_low l v hv
  have h3 := low_le l v
  have h4 : (2 : Nat) ^ v * 2 ^ (12 - v) = 4096 := by
    rw [← Nat.pow_add, show v + (12 - v) = 12 by omega]
  have h5 : outN l v * 2 ^ (12 - v) ≤ 2 ^ v * 2 ^ (12 - v) := by rw [h2, h4]; omega
  exact Nat.le_of_mul_le_mul_right h5 (Nat.pow_pos (by decide))
theorem out_small {l : List Int} (hr : csum l ≤ 4096) {v : Nat} (hv : v ≤ 12) : outN l v ≤ 4096 := by
  have h1 := out_fits hr hv
  have h2 := Nat.pow_le_pow_right (n := 2) (by decide) hv
  omega
theorem innN_zero (l : List Int) (v n0 : Nat) : innN l v n0 0 = n0 := by simp [innN, cnt]
theorem innN_yes {l : List Int} {v n0 k : Nat} (h : k < l.length) (e : l[k] = (v : Int)) : innN l v n0 (k + 1) = innN l v n0 k + 1 := by
  unfold innN
  rw [cnt_more h, if_pos e]
  omega
theorem innN_no {l : List Int} {v n0 k : Nat} (h : k < l.length) (e : ¬ l[k] = (v : Int)) : innN l v n0 (k + 1) = innN l v n0 k := by
  unfold innN
  rw [cnt_more h, if_neg e]
  omega
theorem innN_all (l : List Int) (v : Nat) : innN l (v + 1) (2 * outN l v) l.length = outN l (v + 1) := by
  unfold innN
  rw [List.take_length]
  rfl
theorem innN_le (l : List Int) (v n0 k : Nat) : innN l v n0 k ≤ n0 + l.length := by
  unfold innN cnt
  have := List.countP_le_length (p := fun x => decide (x = (v : Int))) (l := l.take k)
  rw [List.length_take] at this
  omega

/-- the codes behind k places at a width -/
def innO (l : List Int) (v n0 : Nat) (o : List ByteArray) : Nat → List ByteArray
  | 0 => o
  | k + 1 => if l[k]? = some (v : Int) then (innO l v n0 o k).set k (bitsV (innN l v n0 k) v) else innO l v n0 o k
def outO (l : List Int) : Nat → List ByteArray
  | 0 => List.replicate l.length ⟨#[]⟩
  | v + 1 => innO l (v + 1) (2 * outN l v) (outO l v) l.length
def codesV (l : List Int) : List ByteArray := outO l 12
def codesR (l : List Int) : List ByteArray := if right l = true then codesV l else []
theorem innO_length (l : List Int) (v n0 : Nat) (o : List ByteArray) : ∀ k, (innO l v n0 o k).length = o.length := by
  intro k
  induction k with
  | zero => rfl
  | succ k ih =>
    simp only [innO]
    split
    · rw [List.length_set, ih]
    · exact ih
theorem outO_length (l : List Int) : ∀ v, (outO l v).length = l.length := by
  intro v
  induction v with
  | zero => simp [outO]
  | succ v ih => simp only [outO]; rw [innO_length, ih]
theorem codesV_length (l : List Int) : (codesV l).length = l.length := outO_length l 12
theorem innO_yes {l : List Int} {v n0 k : Nat} {o : List ByteArray} (h : k < l.length) (e : l[k] = (v : Int)) : innO l v n0 o (k + 1) = (innO l v n0 o k).set k (bitsV (innN l v n0 k) v) := by
  simp only [innO]
  rw [if_pos (by rw [List.getElem?_eq_getElem h, e])]
theorem innO_no {l : List Int} {v n0 k : Nat} {o : List ByteArray} (h : k < l.length) (e : ¬ l[k] = (v : Int)) : innO l v n0 o (k + 1) = innO l v n0 o k := by
  simp only [innO]
  rw [if_neg (by rw [List.getElem?_eq_getElem h]; simp; exact e)]
theorem codesR_yes {l : List Int} (h : right l = true) : codesR l = codesV l := if_pos h
theorem codesR_no {l : List Int} (h : right l = false) : codesR l = [] := if_neg (by rw [h]; decide)
end Go.Proofs.YtmkpakhpjgocjaaGreat.Bi
