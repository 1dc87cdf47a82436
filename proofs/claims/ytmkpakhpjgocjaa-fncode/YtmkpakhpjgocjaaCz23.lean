/- Texts put together: Builder, PutWalks, PutSpec. -/
import Derived.Shelf.Strings.Builder1
import Derived.Test.YtmkpakhpjgocjaaChecked
import Derived.WalkKit
import Derived.Test.YtmkpakhpjgocjaaCz11
import Derived.Test.YtmkpakhpjgocjaaCz15
/- A strings.Builder of the call's own: its copy check and WriteString walked, String out of the library's own contract. -/
namespace Go.Proofs.Ytmkpakhpjgocjaa.Sb
open Go.Shelf Go.RowKit

def lays169_ren : Go.Shelf.Ren := ⟨fun | 169 => 76 | n => n, fun | 70 => 68 | 9 => 9 | 0 => 0 | 72 => 70 | 37 => 22 | 127 => 113 | 3 => 3 | 5 => 5 | n => n, fun | n => n⟩
theorem lays169 : Go.Proofs.Lays.n169 Try.prog lays169_ren := {
  mixed := by kernel_rfl
  f169 := Try.func76.trans (congrArg some (by kernel_rfl))
  t0 := Try.underlying0
  a0 := Try.isAgg0
  z0 := Try.sizeOf0
  v0 := Try.zeroValue0
  t3 := Try.underlying3
  a3 := Try.isAgg3
  z3 := Try.sizeOf3
  v3 := Try.zeroValue3
  t9 := Try.underlying9
  a9 := Try.isAgg9
  z9 := Try.sizeOf9
  v9 := Try.zeroValue9
  t37 := Try.underlying22
  a37 := Try.isAgg22
  z37 := Try.sizeOf22
  v37 := Try.zeroValue22
  t70 := Try.underlying68
  a70 := Try.isAgg68
  z70 := Try.sizeOf68
  v70 := Try.zeroValue68
  t72 := Try.underlying70
  a72 := Try.isAgg70
  z72 := Try.sizeOf70
  v72 := Try.zeroValue70
  t127 := Try.underlying113
  a127 := Try.isAgg113
  z127 := Try.sizeOf113
  v127 := Try.zeroValue113 }
theorem builderX : Builder.Extra Try.prog lays169_ren := {
  sizeBuilder := by kernel_rfl
  liesBuilder := by kernel_rfl
  t5 := Try.underlying5
  a5 := Try.isAgg5
  z5 := Try.sizeOf5
  v5 := Try.zeroValue5
  infoByte := by kernel_rfl
  cellsByte := by kernel_rfl
  sizeByte := by kernel_rfl
  neB5 := by decide }

/-- what it holds, as a text -/
theorem string_any (B b : Nat) (l : List UInt8) (w : World) (h : Lib.IsBuilder 70 5 B b (Lib.byteCells l) w) (hBw : B ≤ w.heap.size) :
    Calls Try.prog 76 #[.pointer (some ⟨b, 0, none⟩)] w fun e w' => e = .returned (.string ⟨l.toArray⟩) ∧ Below B w w' := Any.Builder_String_any lays169 builderX B b l w h hBw

set_option maxHeartbeats 1000000 in
set_option maxRecDepth 100000 in
theorem check_used (b : Nat) (w : World) (h0 : w.cell? ⟨b, 0, none⟩ = some (.pointer (some ⟨b, 0, none⟩))) :
    Calls Try.prog 126 #[.pointer (some ⟨b, 0, none⟩)] w fun e w' => e = .returned (.tuple #[]) ∧ w' = w := by
  obtain ⟨j, hj, _⟩ := Option.map_eq_some_iff.1 builderX.sizeBuilder
  go_enter Try.func126, Try.ntmps126
  go_wp2
  rw [Lib.run_neq_ptr_same w _ Try.underlying68 hj]
  go_wp2
  go_end0
  exact ⟨rfl, rfl⟩

set_option maxHeartbeats 1000000 in
set_option maxRecDepth 100000 in
theorem check_fresh (b : Nat) (w : World) (h0 : w.cell? ⟨b, 0, none⟩ = some (.pointer none)) (hsh : w.shape? b = some (70, 2)) (hfz : w.frozen? ⟨b, 0, none⟩ = false) :
    Calls Try.prog 126 #[.pointer (some ⟨b, 0, none⟩)] w fun e w' => e = .returned (.tuple #[]) ∧ w' = w.setCell ⟨b, 0, none⟩ (.pointer (some ⟨b, 0, none⟩)) := by
  obtain ⟨j, hj, hjs⟩ := Option.map_eq_some_iff.1 builderX.sizeBuilder
  go_enter Try.func126, Try.ntmps126
  go_wp2
  rw [Lib.run_to_unsafe w ⟨b, 0, none⟩ Try.underlying68 Try.underlying136 hj (by rw [hjs]; decide) hsh (Nat.zero_lt_succ 1)]
  simp only [Result.andThen]
  rw [Oper.upon_value]
  go_wp2
  rw [run_callFunc_extern Try.func149 (by kernel_rfl) (by kernel_rfl) (by kernel_rfl) (e := Extern.AbiNoEscape.same) (by kernel_rfl)]
  rw [Lib.run_noEscape]
  simp only [Result.andThen]
  rw [Oper.upon_value]
  go_wp2
  rw [Lib.run_from_unsafe w ⟨b, 0, none⟩ Try.underlying136 Try.underlying68 hj hsh builderX.liesBuilder]
  simp only [Result.andThen]
  rw [Oper.upon_value]
  go_wp2
  go_end0
  exact ⟨rfl, rfl⟩

theorem check_any (B b : Nat) (bs : List Value) (w : World) (h : Lib.IsBuilder 70 5 B b bs w) :
    Calls Try.prog 126 #[.pointer (some ⟨b, 0, none⟩)] w fun e w' => e = .returned (.tuple #[]) ∧ (Lib.BuilderAt 70 5 B b (.pointer (some ⟨b, 0, none⟩)) bs w' ∧ Below B w w') := by
  rcases h with h | h
  · refine (check_fresh b w h.cell0 h.shape h.frozen0).mono ?_
    rintro e w' ⟨rfl, rfl⟩
    exact ⟨rfl, h.used _, (Below.refl B w).setCell (p := ⟨b, 0, none⟩) h.1 _⟩
  · refine (check_used b w h.cell0).mono ?_
    rintro e w' ⟨rfl, rfl⟩
    exact ⟨rfl, h, Below.refl B _⟩

set_option maxHeartbeats 2000000 in
set_option maxRecDepth 100000 in
/-- a text written behind what it holds -/
theorem write_any (B b : Nat) (bs : List Value) (s : ByteArray) (w : World) (h : Lib.IsBuilder 70 5 B b bs w) (hlen : bs.length + s.size ≤ 140737488355328) (hBw : B ≤ w.heap.size) :
    Calls Try.prog 75 #[.pointer (some ⟨b, 0, none⟩), .string s] w fun e w' => e = .returned (.tuple #[.int .i64 s.size, .nilIface]) ∧ (Lib.BuilderAt 70 5 B b (.pointer (some ⟨b, 0, none⟩)) (bs ++ Lib.strCells s) w' ∧ Below B w w') := by
  obtain ⟨i0, hi, hz0, hz1, hz2⟩ := info_parts builderX.infoByte
  go_enter Try.func75, Try.ntmps75
  go_wp2_with fail
  refine (check_any B b bs _ h).mono ?_
  rintro e w1 ⟨rfl, h1, hb1⟩
  obtain ⟨hB, v, hbk, hown, hne⟩ := h1
  have c0 : w1.cell? ⟨b, 0, none⟩ = some (.pointer (some ⟨b, 0, none⟩)) := by rw [Lib.cell_of_heap hbk]; rfl
  have c1 : w1.cell? ⟨b, 1, none⟩ = some v := by rw [Lib.cell_of_heap hbk]; rfl
  go_wp2_with (at_builtin; refine Lib.wpList_append_own_string _ rfl _ _ 22 9 rfl B 5 i0 Try.underlying22 Try.underlying9 hi hz0 hz1 hz2 _ _ _ rfl hown s rfl ?c3 ?c4 ?c5 ?_)
  case c3 => unfold maxLen; omega
  case c4 => omega
  case c5 => have := hb1.size; omega
  intro v' w2 hown' hgrow _
  have hlt : b < w1.heap.size := by
    rcases Nat.lt_or_ge b w1.heap.size with h' | h'
    · exact h'
    · simp [Array.getElem?_eq_none h'] at hbk
  have hb2 : w2.heap[b]? = some (.cells #[.pointer (some ⟨b, 0, none⟩), v] 70 (0, 0)) := by
    rw [hgrow.block b hlt (fun e => hne e.symm)]
    exact hbk
  have d0 : w2.cell? ⟨b, 0, none⟩ = some (.pointer (some ⟨b, 0, none⟩)) := by rw [Lib.cell_of_heap hb2]; rfl
  have d1 : w2.cell? ⟨b, 1, none⟩ = some v := by rw [Lib.cell_of_heap hb2]; rfl
  have f1 : w2.frozen? ⟨b, 1, none⟩ = false := Lib.frozen_of_heap hb2 1
  obtain ⟨ao, n', cap, rfl⟩ : ∃ ao n' cap, v' = .slice ao n' cap := by
    rcases hown'.2 with ⟨hv, _⟩ | ⟨g, cap, cur, hv, _⟩
    · exact ⟨_, _, _, hv⟩
    · exact ⟨_, _, _, hv⟩
  go_wp2_with fail
  go_ret2
  refine ⟨rfl, ?_, ?_⟩
  · exact Lib.BuilderAt.put (T := 70) (e := 5) hB hb2 (bs' := bs ++ Lib.strCells s) (by simpa [Lib.strCells_length] using hown') builderX.neB5
  · exact (hb1.grown hgrow (by have := hb1.size; omega) (fun k hk => (hown.lt k hk).1)).setCell (p := ⟨b, 1, none⟩) hB _
end Go.Proofs.Ytmkpakhpjgocjaa.Sb

/- The walks of both CodePut. -/
namespace Go.Proofs.Ytmkpakhpjgocjaa.Bi
open Go.RowKit
open Go.Proofs.Ytmkpakhpjgocjaa.In (Ints)
open Go.Proofs.Ytmkpakhpjgocjaa.St (IsS)
open Go.Proofs.Ytmkpakhpjgocjaa.Nu (ret_strJ own_string bv)

theorem getD_get {l : List Int} {i : Nat} (hi : i < l.length) : l.getD i 0 = l[i] := by rw [List.getD_eq_getElem?_getD, List.getElem?_eq_getElem hi]; rfl
theorem nonempty (s : ByteArray) (h : 1 ≤ s.size) : s.toList.isEmpty = false := by
  rw [ByteArray.toList_eq]
  cases hd : s.data.toList with
  | nil => exfalso; have := congrArg List.length hd; rw [Array.length_toList] at this; exact absurd (show s.size = 0 from this) (by omega)
  | cons _ _ => rfl
theorem okS_nat {l : List Int} {i : Nat} (h : i < l.length) (h0 : 0 < l.getD i 0) : okS l (i : Int) := ⟨by omega, by omega, by simpa using h0⟩

set_option maxRecDepth 100000 in
set_option maxHeartbeats 4000000 in
theorem put_yes (l s : List Int) (a a' : Option Addr) (cap cap' : Nat) (w : World) (hl : Ints w w.heap.size a l) (hs : Ints w w.heap.size a' s) (hm : ¬ 400 < s.length) (hw : whole l = true) :
    Calls Try.prog 15 #[.slice a l.length cap, .slice a' s.length cap'] w fun e w' => e = .returned (.string (putR l s)) ∧ Below w.heap.size w w' := by
  have HW := hideB (whole_impl l a cap w.heap.size w hl (by have := whole_len hw; omega))
  rw [hw] at HW
  have HC := hideB (codes_yes l a cap w.heap.size w hl (Nat.le_refl _) (whole_right hw))
  have HS := hideB hs
  have HK := hideB (whole_ok hw)
  have HWW := hideB hw
  have hn := whole_len hw
  have HCL := hideB (codesV_length l)
  have HYES := hideB (fun (h : ∀ x ∈ s, okS l x) => putR_yes hm hw h)
  have HBAD := hideB (fun (j : Nat) (hj : j < s.length) (h : ¬ okS l s[j]) => putR_bad hj h)
  clear hl hs hw
  obtain ⟨n, hln⟩ : ∃ n, n = l.length := ⟨_, rfl⟩
  obtain ⟨m, hms⟩ : ∃ m, m = s.length := ⟨_, rfl⟩
  obtain ⟨r, hr⟩ : ∃ r, r = putR l s := ⟨_, rfl⟩
  have HLN := hideB hln
  have HMS := hideB hms
  rw [← hr] at HYES HBAD ⊢
  rw [← hln] at hn HW HC HCL ⊢
  rw [← hms] at hm ⊢
  clear hln hms hr
  have hd4 : decide ((400 : Int) < m) = false := decide_eq_false (by omega)
  go_enter Try.func15, Try.ntmps15
  go_wp2_with fail
  refine HW.out.mono ?_
  rintro e w' ⟨rfl, hw⟩
  subst w'
  go_wp2_with fail
  refine HC.out.mono ?_
  rintro e w1 ⟨rfl, hi1, hb1⟩
  have X1 := hideB hi1
  have B1 := hideB hb1
  have z1 : w.heap.size < w1.heap.size := hi1.lt
  clear hi1 hb1
  go_wp2_with fail
  go_loopw [21] (fun i wr => ∃ k : Nat, i = .int .i64 k ∧ k ≤ m ∧ (∀ j (hj : j < s.length), j < k → okS l s[j]) ∧ Lib.IsBuilder 70 5 w1.heap.size w1.heap.size (Lib.byteCells (putL l (s.take k))) wr ∧ Below w1.heap.size w1 wr ∧ w1.heap.size ≤ wr.heap.size) (fun i _ => m - (intOf i).toNat)
  case atStart => exact ⟨0, rfl, Nat.zero_le _, fun j hj h0 => absurd h0 (Nat.not_lt_zero j), Lib.fresh_isBuilder _ _ w1, (Below.refl _ _).alloc (Nat.le_refl _) _, by simp⟩
  case round =>
    obtain ⟨k, rfl, hk, hall, hbu, hbel, hbz⟩ := hrel
    have HA := hideB hall
    have HBU := hideB hbu
    have GB := hideB hbel
    clear hall hbu hbel
    by_cases hlt : k < m
    · have hkl : k < s.length := by rw [← HMS.out]; exact hlt
      obtain ⟨b, off, rfl, hb, hc⟩ := (HS.out.below (B1.out.trans (GB.out.mono (Nat.le_of_lt z1)))).some (by omega)
      have ci := hc k hkl
      have HM := hideB (putL_more (l := l) hkl)
      have HB1 := hideB (HBAD.out k hkl)
      obtain ⟨x, hx⟩ : ∃ x, x = s[k] := ⟨_, rfl⟩
      have HX := hideB hx
      rw [← hx] at ci HM HB1
      clear hc hx
      by_cases h0 : x < 0
      · have HE := hideB (HB1.out (fun h => by have := h.1; omega))
        go_wp2_with fail
        go_ret
        exact ⟨ret_strJ HE.out.symm, B1.out.trans (GB.out.mono (Nat.le_of_lt z1))⟩
      · have hd0 : decide (x < 0) = false := decide_eq_false h0
        obtain ⟨i, rfl⟩ : ∃ i : Nat, x = i := ⟨x.toNat, by omega⟩
        by_cases h1 : n ≤ i
        · have HE := hideB (HB1.out (fun h => by have := h.2.1; have := HLN.out; omega))
          have hge : (n : Int) ≤ i := by omega
          go_wp2_with fail
          go_ret
          exact ⟨ret_strJ HE.out.symm, B1.out.trans (GB.out.mono (Nat.le_of_lt z1))⟩
        · have hd1 : decide ((n : Int) ≤ i) = false := decide_eq_false (by omega)
          have hil : i < l.length := by rw [← HLN.out]; omega
          have hin : i < n := by omega
          have hiv : i < (codesV l).length := by rw [HCL.out]; omega
          have cc := (X1.out.below GB.out z1).cell hiv
          rw [codes_get l HK.out i hiv] at cc
          have HCO := hideB (codeOf_none l i)
          have HOK := hideB (okS_nat hil)
          have hcl := codeOf_le l HK.out i
          obtain ⟨c, hcc⟩ : ∃ c, c = codeOf l i := ⟨_, rfl⟩
          have HCC := hideB hcc
          rw [← hcc] at cc HCO hcl
          clear hcc
          by_cases hp : 0 < l.getD i 0
          · have hne : c.toList.isEmpty = false := nonempty c (by rw [HCC.out, codeOf_size]; omega)
            have HOK2 := hideB (HOK.out hp)
            have HLE : Hid ((Lib.byteCells (putL l (s.take k))).length + c.size ≤ 140737488355328) := by
              unfold Hid
              have h1 := putL_le l HK.out (s.take k)
              rw [List.length_take] at h1
              rw [Lib.byteCells_length]
              omega
            have HNX : Hid (Lib.byteCells (putL l (s.take k)) ++ Lib.strCells c = Lib.byteCells (putL l (s.take (k + 1)))) := by
              unfold Hid
              rw [HM.out, Lib.byteCells_append, Lib.strCells_eq, HCC.out]
              rfl
            have HWR := hideB (Sb.write_any w1.heap.size w1.heap.size _ c wr HBU.out HLE.out hbz)
            clear hp hcl
            go_wp2_with fail
            refine HWR.out.mono ?_
            rintro e w2 ⟨rfl, hbt, hb2⟩
            rw [HNX.out] at hbt
            have HBT := hideB hbt
            have B2 := hideB (GB.out.trans hb2)
            have z2 := hb2.size
            clear hbt hb2
            go_wp2_with fail
            go_roundw
            case rel =>
              refine ⟨k + 1, by go_num, by omega, fun j hj hjk => ?_, Or.inr HBT.out, B2.out, by omega⟩
              by_cases e : j = k
              · subst e
                rw [← HX.out]
                exact HOK2.out
              · exact HA.out j hj (by omega)
            case measure => simp [intOf]; omega
          · have hce := HCO.out hp
            have HE := hideB (HB1.out (fun h => hp (by simpa using h.2.2)))
            subst hce
            clear hp hcl
            go_wp2_with fail
            go_ret
            exact ⟨ret_strJ HE.out.symm, B1.out.trans (GB.out.mono (Nat.le_of_lt z1))⟩
    · have HE : Hid (r = ⟨(putL l (s.take k)).toArray⟩) := by
        unfold Hid
        rw [List.take_of_length_le (by have := HMS.out; omega)]
        exact HYES.out (fun x hx => by
          obtain ⟨j, hj, rfl⟩ := List.getElem_of_mem hx
          exact HA.out j hj (by have := HMS.out; omega))
      have HST := hideB (Sb.string_any w1.heap.size w1.heap.size _ wr HBU.out hbz)
      go_wp2_with fail
      refine HST.out.mono ?_
      rintro e w2 ⟨rfl, hb2⟩
      have B2 := hideB (GB.out.trans hb2)
      clear hb2
      go_wp2_with fail
      go_ret
      exact ⟨ret_strJ HE.out.symm, B1.out.trans (B2.out.mono (Nat.le_of_lt z1))⟩

set_option maxHeartbeats 1000000 in
theorem put_impl (l s : List Int) (a a' : Option Addr) (cap cap' : Nat) (w : World) (hl : Ints w w.heap.size a l) (hs : Ints w w.heap.size a' s) (hn : l.length ≤ 1048576) (hm : s.length ≤ 1048576) :
    Calls Try.prog 15 #[.slice a l.length cap, .slice a' s.length cap'] w fun e w' => e = .returned (.string (putR l s)) ∧ Below w.heap.size w w' := by
  by_cases h4 : 400 < s.length
  · have HE := hideB (putR_no (l := l) (Or.inl h4))
    generalize putR l s = r at HE ⊢
    clear hl hs
    generalize s.length = m at h4 hm ⊢
    generalize l.length = n at hn ⊢
    go_enter Try.func15, Try.ntmps15
    go_wp2_with fail
    go_ret
    exact ⟨ret_strJ HE.out.symm, Below.refl _ _⟩
  · cases hw : whole l with
    | true => exact put_yes l s a a' cap cap' w hl hs h4 hw
    | false =>
      have HE := hideB (putR_no (s := s) (Or.inr hw))
      have HW := hideB (whole_impl l a cap w.heap.size w hl hn)
      rw [hw] at HW
      have hd4 : decide ((400 : Int) < s.length) = false := decide_eq_false (by omega)
      generalize putR l s = r at HE ⊢
      clear hl hs hw
      generalize s.length = m at h4 hm hd4 ⊢
      generalize l.length = n at hn HW ⊢
      go_enter Try.func15, Try.ntmps15
      go_wp2_with fail
      refine HW.out.mono ?_
      rintro e w' ⟨rfl, hw⟩
      subst w'
      go_wp2_with fail
      go_ret
      exact ⟨ret_strJ HE.out.symm, Below.refl _ _⟩
end Go.Proofs.Ytmkpakhpjgocjaa.Bi

/- The walks of the specification's CodePut, and of the law. -/
namespace Go.Proofs.Ytmkpakhpjgocjaa.Bi
open Go.RowKit
open Go.Proofs.Ytmkpakhpjgocjaa.In (Ints)
open Go.Proofs.Ytmkpakhpjgocjaa.St (IsS)
open Go.Proofs.Ytmkpakhpjgocjaa.Nu (ret_strJ own_string bv)

theorem own_lenB {w : World} {B m n : Nat} {e : TypeId} {v : Value} {xs : List Value} (h : w.ownsRow B e 1 v m xs) (hm : m = n) : w.ownsRow B e 1 v n xs := by rw [← hm]; exact h

set_option maxRecDepth 100000 in
set_option maxHeartbeats 4000000 in
theorem l04Put_any (l s : List Int) (a a' : Option Addr) (cap cap' : Nat) (w : World) (hl : Ints w w.heap.size a l) (hs : Ints w w.heap.size a' s) (hm : ¬ 400 < s.length) (hw : whole l = true) (hok : ∀ x ∈ s, okS l x) :
    Calls Try.prog 96 #[.slice a l.length cap, .slice a' s.length cap'] w fun e w' => e = .returned (.string ⟨(putL l s).toArray⟩) ∧ Below w.heap.size w w' := by
  obtain ⟨i0, hi0, hz0, hz1, hz2⟩ := info_parts Sb.builderX.infoByte
  have HC := hideB (codes_spec l a cap w.heap.size w hl (Nat.le_refl _) (whole_right hw))
  have HS := hideB hs
  have HK := hideB (whole_ok hw)
  have hn := whole_len hw
  have HCL := hideB (codesV_length l)
  have HOK := hideB (fun (j : Nat) (hj : j < s.length) => hok _ (List.getElem_mem hj))
  clear hl hs hw hok
  obtain ⟨n, hln⟩ : ∃ n, n = l.length := ⟨_, rfl⟩
  obtain ⟨m, hms⟩ : ∃ m, m = s.length := ⟨_, rfl⟩
  have HLN := hideB hln
  have HMS := hideB hms
  rw [← hln] at hn HC HCL ⊢
  rw [← hms] at hm ⊢
  clear hln hms
  go_enter Try.func96, Try.ntmps96
  go_wp2_with fail
  refine HC.out.mono ?_
  rintro e w1 ⟨rfl, hi1, hb1⟩
  have X1 := hideB hi1
  have B1 := hideB hb1
  have z1 : w.heap.size < w1.heap.size := hi1.lt
  clear hi1 hb1
  go_wp2_with fail
  go_loopw [7, 6] (fun i v wr => ∃ k : Nat, i = .int .i64 k ∧ k ≤ m ∧ wr.ownsRow w1.heap.size 5 1 v (putL l (s.take k)).length (Lib.byteCells (putL l (s.take k))) ∧ Below w1.heap.size w1 wr) (fun i _ _ => m - (intOf i).toNat)
  case atStart => exact ⟨0, rfl, Nat.zero_le _, World.ownsRow_made _ _ _ (Nat.le_refl _) (by decide) rfl, (Below.refl _ _).alloc (Nat.le_refl _) _⟩
  case round =>
    obtain ⟨k, rfl, hk, hown, hbel⟩ := hrel
    have HO := hideB hown
    have GB := hideB hbel
    have hbz := hbel.size
    clear hown hbel
    by_cases hlt : k < m
    · have hkl : k < s.length := by rw [← HMS.out]; exact hlt
      obtain ⟨b, off, rfl, hb, hc⟩ := (HS.out.below (B1.out.trans (GB.out.mono (Nat.le_of_lt z1)))).some (by omega)
      have ci := hc k hkl
      have HM := hideB (putL_more (l := l) hkl)
      have ho := HOK.out k hkl
      obtain ⟨x, hx⟩ : ∃ x, x = s[k] := ⟨_, rfl⟩
      rw [← hx] at ci HM ho
      clear hc hx
      obtain ⟨i, rfl⟩ : ∃ i : Nat, x = i := ⟨x.toNat, by have := ho.1; omega⟩
      have hin : i < n := by have h1 := ho.2.1; have h2 := HLN.out; omega
      have hiv : i < (codesV l).length := by rw [HCL.out]; omega
      have cc := (X1.out.below GB.out z1).cell hiv
      rw [codes_get l HK.out i hiv] at cc
      have hcl := codeOf_le l HK.out i
      obtain ⟨c, hcc⟩ : ∃ c, c = codeOf l i := ⟨_, rfl⟩
      have HCC := hideB hcc
      rw [← hcc] at cc hcl
      clear hcc ho
      obtain ⟨q, hq⟩ : ∃ q, q = (putL l (s.take k)).length := ⟨_, rfl⟩
      have hqb : q ≤ 4800 := by
        have h1 := putL_le l HK.out (s.take k)
        rw [List.length_take] at h1
        omega
      have HNX : Hid (Lib.byteCells (putL l (s.take k)) ++ Lib.strCells c = Lib.byteCells (putL l (s.take (k + 1)))) := by
        unfold Hid
        rw [HM.out, Lib.byteCells_append, Lib.strCells_eq, HCC.out]
        rfl
      have HNL : Hid (q + c.size = (putL l (s.take (k + 1))).length) := by
        unfold Hid
        rw [HM.out, List.length_append, hq, HCC.out]
        rfl
      have hown := HO.out
      rw [← hq] at hown
      clear hq
      go_wp2_with (at_builtin; refine Lib.wpList_append_own_string _ rfl _ _ 22 9 rfl w1.heap.size 5 i0 Try.underlying22 Try.underlying9 hi0 hz0 hz1 hz2 _ _ _ rfl hown c rfl ?c3 ?c4 ?c5 ?_)
      case c3 => unfold maxLen; omega
      case c4 => omega
      case c5 => omega
      intro v' w2 hown' hgrow _
      rw [HNX.out] at hown'
      have R2 := hideB (own_lenB hown' HNL.out)
      have B2 := hideB (GB.out.grown hgrow (by omega) (fun k hk => (hown.lt k hk).1))
      clear hown' hgrow hown
      go_wp2_with fail
      go_roundw
      case rel => exact ⟨k + 1, by go_num, by omega, R2.out, B2.out⟩
      case measure => simp [intOf]; omega
    · have HE : Hid (putL l (s.take k) = putL l s) := by
        unfold Hid
        rw [List.take_of_length_le (by have := HMS.out; omega)]
      have hcv := own_string (P := Try.prog) (src := 22) (dst := 9) (putL l (s.take k)) HO.out Try.underlying22 Try.underlying5 Try.underlying9
      rw [HE.out] at hcv
      go_wp2_with fail
      go_ret
      exact ⟨rfl, B1.out.trans (GB.out.mono (Nat.le_of_lt z1))⟩

set_option maxRecDepth 100000 in
set_option maxHeartbeats 4000000 in
theorem putS_yes (l s : List Int) (a a' : Option Addr) (cap cap' : Nat) (w : World) (hl : Ints w w.heap.size a l) (hs : Ints w w.heap.size a' s) (hm : ¬ 400 < s.length) (hw : whole l = true) :
    Calls Try.prog 32 #[.slice a l.length cap, .slice a' s.length cap'] w fun e w' => e = .returned (.string (putR l s)) ∧ Below w.heap.size w w' := by
  have HW := hideB (l04Whole_any l a cap w.heap.size w hl (by have := whole_len hw; omega))
  rw [hw] at HW
  have HPU := hideB (l04Put_any l s a a' cap cap' w hl hs hm hw)
  have HS := hideB hs
  have HL := hideB hl
  have HK := hideB (whole_ok hw)
  have hn := whole_len hw
  have HYES := hideB (fun (h : ∀ x ∈ s, okS l x) => putR_yes hm hw h)
  have HBAD := hideB (fun (j : Nat) (hj : j < s.length) (h : ¬ okS l s[j]) => putR_bad hj h)
  have HPL := hideB (putL_le l (whole_ok hw) s)
  clear hl hs hw
  obtain ⟨n, hln⟩ : ∃ n, n = l.length := ⟨_, rfl⟩
  obtain ⟨m, hms⟩ : ∃ m, m = s.length := ⟨_, rfl⟩
  obtain ⟨r, hr⟩ : ∃ r, r = putR l s := ⟨_, rfl⟩
  have HLN := hideB hln
  have HMS := hideB hms
  rw [← hr] at HYES HBAD ⊢
  rw [← hln] at hn HW HPU ⊢
  rw [← hms] at hm HPU HPL ⊢
  clear hln hms hr
  have hd4 : decide ((400 : Int) < m) = false := decide_eq_false (by omega)
  have hd5 : decide ((400 : Int) < n) = false := decide_eq_false (by omega)
  go_enter Try.func32, Try.ntmps32
  go_wp2_with fail
  refine HW.out.mono ?_
  rintro e w' ⟨rfl, hw⟩
  subst w'
  go_wp2_with fail
  go_loopw [5] (fun i wr => ∃ k : Nat, i = .int .i64 k ∧ k ≤ m ∧ (∀ j (hj : j < s.length), j < k → okS l s[j]) ∧ wr = w) (fun i _ => m - (intOf i).toNat)
  case atStart => exact ⟨0, rfl, Nat.zero_le _, fun j hj h0 => absurd h0 (Nat.not_lt_zero j), rfl⟩
  case round =>
    obtain ⟨k, rfl, hk, hall, hw⟩ := hrel
    subst hw
    have HA := hideB hall
    clear hall
    by_cases hlt : k < m
    · have hkl : k < s.length := by rw [← HMS.out]; exact hlt
      obtain ⟨b, off, rfl, hb, hc⟩ := HS.out.some (by omega)
      have ci := hc k hkl
      have HB1 := hideB (HBAD.out k hkl)
      obtain ⟨x, hx⟩ : ∃ x, x = s[k] := ⟨_, rfl⟩
      have HX := hideB hx
      rw [← hx] at ci HB1
      clear hc hx
      by_cases h0 : x < 0 ∨ (n : Int) - 1 < x
      · have HE := hideB (HB1.out (fun h => by have h1 := h.1; have h2 := h.2.1; have h3 := HLN.out; omega))
        have HI := hideB (is_no x 0 ((n : Int) - 1) wr h0)
        clear h0
        go_wp2_with fail
        refine HI.out.mono ?_
        rintro e w' ⟨rfl, hw⟩
        subst w'
        go_wp2_with fail
        go_ret
        exact ⟨ret_strJ HE.out.symm, Below.refl _ _⟩
      · have HI := hideB (is_yes x 0 ((n : Int) - 1) wr (by omega) (by omega))
        obtain ⟨i, rfl⟩ : ∃ i : Nat, x = i := ⟨x.toNat, by omega⟩
        have hin : i < n := by omega
        have hil : i < l.length := by rw [← HLN.out]; omega
        obtain ⟨bl, offl, rfl, hbl, hcl⟩ := HL.out.some (by omega)
        have cl := hcl i hil
        have hx12 := HK.out _ (List.getElem_mem hil)
        have HGD := hideB (getD_get hil)
        obtain ⟨y, hy⟩ : ∃ y, y = l[i] := ⟨_, rfl⟩
        rw [← hy] at cl hx12 HGD
        clear hcl hy h0
        by_cases hp : 0 < y
        · have hne : (y == 0) = false := beq_eq_false_iff_ne.2 (by omega)
          have HOK2 : Hid (okS l (i : Int)) := okS_nat hil (by rw [HGD.out]; exact hp)
          go_wp2_with fail
          refine HI.out.mono ?_
          rintro e w' ⟨rfl, hw⟩
          subst w'
          go_wp2_with fail
          go_roundw
          case rel =>
            refine ⟨k + 1, by go_num, by omega, fun j hj hjk => ?_, trivial⟩
            by_cases e : j = k
            · subst e
              rw [← HX.out]
              exact HOK2.out
            · exact HA.out j hj (by omega)
          case measure => simp [intOf]; omega
        · obtain rfl : y = 0 := by omega
          have HE := hideB (HB1.out (fun h => by
            have h1 := h.2.2
            rw [Int.toNat_natCast, HGD.out] at h1
            omega))
          go_wp2_with fail
          refine HI.out.mono ?_
          rintro e w' ⟨rfl, hw⟩
          subst w'
          go_wp2_with fail
          go_ret
          exact ⟨ret_strJ HE.out.symm, Below.refl _ _⟩
    · have HALL : Hid (∀ x ∈ s, okS l x) := fun x hx => by
        obtain ⟨j, hj, rfl⟩ := List.getElem_of_mem hx
        exact HA.out j hj (by have := HMS.out; omega)
      have HE := hideB (HYES.out HALL.out)
      have HPP := hideB (HPU.out HALL.out)
      obtain ⟨t, ht⟩ : ∃ t : ByteArray, t = ⟨(putL l s).toArray⟩ := ⟨_, rfl⟩
      have htz : t.size ≤ 4800 := by
        have h1 := HPL.out
        have h2 : t.size = (putL l s).length := by rw [ht]; simp [ByteArray.size]
        omega
      rw [← ht] at HE HPP
      clear ht
      go_wp2_with fail
      refine HPP.out.mono ?_
      rintro e w2 ⟨rfl, hb2⟩
      have B2 := hideB hb2
      clear hb2
      go_wp2_with fail
      go_ret
      exact ⟨ret_strJ HE.out.symm, B2.out⟩

set_option maxHeartbeats 1000000 in
theorem put_spec (l s : List Int) (a a' : Option Addr) (cap cap' : Nat) (w : World) (hl : Ints w w.heap.size a l) (hs : Ints w w.heap.size a' s) (hn : l.length ≤ 1048576) (hm : s.length ≤ 1048576) :
    Calls Try.prog 32 #[.slice a l.length cap, .slice a' s.length cap'] w fun e w' => e = .returned (.string (putR l s)) ∧ Below w.heap.size w w' := by
  by_cases h5 : 400 < l.length
  · have HE := hideB (putR_no (s := s) (Or.inr (whole_no (right_no (l := l) (Or.inl (within_long (by omega)))))))
    generalize putR l s = r at HE ⊢
    clear hl hs
    generalize s.length = m at hm ⊢
    generalize l.length = n at hn h5 ⊢
    go_enter Try.func32, Try.ntmps32
    go_wp2_with fail
    go_ret
    exact ⟨ret_strJ HE.out.symm, Below.refl _ _⟩
  · have hd5 : decide ((400 : Int) < l.length) = false := decide_eq_false (by omega)
    by_cases h4 : 400 < s.length
    · have HE := hideB (putR_no (l := l) (Or.inl h4))
      generalize putR l s = r at HE ⊢
      clear hl hs
      generalize s.length = m at h4 hm ⊢
      generalize l.length = n at hn hd5 h5 ⊢
      go_enter Try.func32, Try.ntmps32
      go_wp2_with fail
      go_ret
      exact ⟨ret_strJ HE.out.symm, Below.refl _ _⟩
    · cases hw : whole l with
      | true => exact putS_yes l s a a' cap cap' w hl hs h4 hw
      | false =>
        have HE := hideB (putR_no (s := s) (Or.inr hw))
        have HW := hideB (l04Whole_any l a cap w.heap.size w hl (by omega))
        rw [hw] at HW
        have hd4 : decide ((400 : Int) < s.length) = false := decide_eq_false (by omega)
        generalize putR l s = r at HE ⊢
        clear hl hs hw
        generalize s.length = m at h4 hm hd4 ⊢
        generalize l.length = n at hn hd5 h5 HW ⊢
        go_enter Try.func32, Try.ntmps32
        go_wp2_with fail
        refine HW.out.mono ?_
        rintro e w' ⟨rfl, hw⟩
        subst w'
        go_wp2_with fail
        go_ret
        exact ⟨ret_strJ HE.out.symm, Below.refl _ _⟩
end Go.Proofs.Ytmkpakhpjgocjaa.Bi
