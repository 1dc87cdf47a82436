/- The walk of the law FnNums. -/
import Derived.Test.YtkkoeaohmfdlgaaDoorNumBack
import Derived.Test.YtkkoeaohmfdlgaaDoorDrawPutNum
import Derived.Test.YtkkoeaohmfdlgaaDoorDrawPutText
import Derived.Laws.StructEq
namespace Go.Proofs.YtkkoeaohmfdlgaaDoor.fnNums
open Go.RowKit
open Go.Proofs.YtkkoeaohmfdlgaaDoor.Dr (IsRow Row row_of hideD drawPutNum_any drawPutText_any)
open Go.Proofs.YtkkoeaohmfdlgaaDoor.Nu (putS putT)
open Go.Proofs.YtkkoeaohmfdlgaaDoor.Gn (getV outN textV outT)

theorem handle_on {w w1 : World} (hb : Below w.heap.size w w1) (hg : w.cell? ⟨0, 0, none⟩ = some Gn.handle) : w1.cell? ⟨0, 0, none⟩ = some Gn.handle := Gn.handle_below hb hg
theorem nonempty (s : ByteArray) (h : 1 ≤ s.size) : s.toList.isEmpty = false := by
  rw [ByteArray.toList_eq]
  cases hd : s.data.toList with
  | nil => exfalso; have := congrArg List.length hd; rw [Array.length_toList] at this; exact absurd (show s.size = 0 from this) (by omega)
  | cons _ _ => rfl
theorem fieldN (u : World) : (Instr.field 26 (.agg #[.int .i64 0, .int .i64 0, .int .i64 4]) 2).run Tryd.prog u = .ok (.int .i64 4) u := by kernel_rfl
theorem fieldT (u : World) : (Instr.field 31 (.agg #[.string ⟨#[]⟩, .int .i64 0, .int .i64 4]) 2).run Tryd.prog u = .ok (.int .i64 4) u := by kernel_rfl

set_option maxRecDepth 100000 in
set_option maxHeartbeats 2000000 in
theorem walk_in (w : World) (a0 : Option Addr) (len0 cap0 : Nat) (a1 : Option Addr) (len1 cap1 : Nat) (r0 : Row w w.heap.size a0 len0) (r1 : Row w w.heap.size a1 len1) (hl0 : len0 ≤ 1048576) (hl1 : len1 ≤ 1048576)
    (hg : w.cell? ⟨0, 0, none⟩ = some Gn.handle) :
    Calls Tryd.prog 3 #[.slice a0 len0 cap0, .slice a1 len1 cap1] w fun e w' => e = .returned (.bool true) ∧ Below w.heap.size w w' := by
  have R0 := hideD r0
  have R1 := hideD r1
  have HG := hideD hg
  clear r0 r1 hg
  go_enter Tryd.func3, Tryd.ntmps3
  go_wp2_with fail
  refine (drawPutNum_any a0 len0 cap0 _ hl0 R0.out).mono ?_
  rintro e wa ⟨n, rfl, n1, n2, ba⟩
  have BA := hideD ba
  clear ba
  go_wp2_with fail
  refine (Nu.put_impl n _ n1 n2).mono ?_
  rintro e wb ⟨rfl, bb⟩
  have BB := hideD (BA.out.trans (bb.mono BA.out.size))
  clear bb
  go_wp2_with fail
  refine (Nu.put_spec n _ n1 n2).mono ?_
  rintro e wc ⟨rfl, bc⟩
  have BC := hideD (BB.out.trans (bc.mono BB.out.size))
  clear bc
  have hp1 := Nm2.putS_pos n
  have hp2 := Nu.putS_size n
  have HGC := hideD (Nm2.get_cut n n1 n2)
  have hgb : getV ((⟨#[120, 121]⟩ : ByteArray) ++ putS n ++ ⟨#[122]⟩) 2 = outN n ((putS n).size + 2) 0 :=
    (Nm2.get_back ((⟨#[120, 121]⟩ : ByteArray) ++ putS n ++ ⟨#[122]⟩) n [120, 121] [122] n1 n2 (by simp only [ByteArray.size_append]; show 2 + (putS n).size + 1 ≤ 8000; omega) (by simp [ByteArray.data_append, Nm2.putS_list])).trans (by
      have e : (((([120, 121] : List UInt8).length + (putS n).size : Nat)) : Int) = (putS n).size + 2 := by simp; omega
      rw [e])
  have HGB := hideD hgb
  clear hgb
  obtain ⟨t, ht⟩ : ∃ t, t = putS n := ⟨_, rfl⟩
  rw [← ht] at hp1 hp2 HGC HGB ⊢
  clear ht
  go_wp2_with fail
  refine (Gn.get_impl _ _ _ (by unfold maxLen; simp only [ByteArray.size_append]; show 2 + t.size + 1 ≤ _; omega) (handle_on BC.out HG.out)).mono ?_
  rw [HGB.out]
  simp only [outN]
  rintro e wd ⟨rfl, bd⟩
  have BD := hideD (BC.out.trans (bd.mono BC.out.size))
  clear bd
  have hnn : (n == n) = true := by simp
  have hfld := fieldN
  go_wp2_with fail
  have BX := hideD (BD.out.alloc BD.out.size (.cells #[.int .i64 n, .int .i64 (t.size + 2), .int .i64 0] 26))
  generalize wd.alloc (.cells #[.int .i64 n, .int .i64 (t.size + 2), .int .i64 0] 26) = wx at BX ⊢
  have hcz : (t.extract 0 (t.size - 1)).size ≤ maxLen := by rw [ByteArray.size_extract]; unfold maxLen; omega
  refine (Gn.get_impl (t.extract 0 (t.size - 1)) 0 _ hcz (handle_on BX.out HG.out)).mono ?_
  rw [HGC.out]
  simp only [outN]
  rintro e we ⟨rfl, be⟩
  have BE := hideD (BX.out.trans (be.mono BX.out.size))
  clear be hcz
  generalize t.extract 0 (t.size - 1) = tc
  go_wp2_with fail
  refine (drawPutText_any a1 len1 cap1 _ hl1 ((Dr.Row.below R1.out BE.out).mono BE.out.size)).mono ?_
  rintro e wf ⟨u, hu, rfl, bf⟩
  have BF := hideD (BE.out.trans (bf.mono BE.out.size))
  clear bf hnn hfld
  go_wp2_with fail
  refine (Nu.text_impl u _ (by unfold maxLen; omega)).mono ?_
  rintro e wg ⟨rfl, bg⟩
  have BG := hideD (BF.out.trans (bg.mono BF.out.size))
  clear bg
  go_wp2_with fail
  refine (Nu.text_spec u _ (by unfold maxLen; omega)).mono ?_
  rintro e wh ⟨rfl, bh⟩
  have BH := hideD (BG.out.trans (bh.mono BG.out.size))
  clear bh
  by_cases h : u.size ≤ 8000
  · have hz := Nm2.putT_size u h
    have hz1 := Nm2.putS_pos (u.size : Int)
    have hz2 := Nu.putS_size (u.size : Int)
    by_cases hbig : 8000 < (putT u).size + 1
    · obtain ⟨p, hp⟩ : ∃ p, p = putT u := ⟨_, rfl⟩
      rw [← hp] at hz hbig ⊢
      have hpz : 8000 ≤ p.size := by omega
      have hpb : p.size ≤ 8010 := by omega
      clear hp hz hz1 hz2 hbig
      have hne : p.toList.isEmpty = false := nonempty p (by omega)
      have hbig : (8000 : Int) < p.size + 1 := by omega
      go_wp2
      go_ret
      exact ⟨rfl, BH.out⟩
    · have HTC := hideD (Nm2.text_cut u h (by omega))
      have htb : textV ((⟨#[120]⟩ : ByteArray) ++ putT u) 1 = outT u ((putT u).size + 1) 0 :=
        (Nm2.text_back ((⟨#[120]⟩ : ByteArray) ++ putT u) u [120] h (by simp only [ByteArray.size_append]; show 1 + (putT u).size ≤ 8000; omega) (by simp [ByteArray.data_append])).trans (by
          have e : (((([120] : List UInt8).length + (putT u).size : Nat)) : Int) = (putT u).size + 1 := by simp; omega
          rw [e])
      have HTB := hideD htb
      clear htb
      obtain ⟨p, hp⟩ : ∃ p, p = putT u := ⟨_, rfl⟩
      rw [← hp] at hz hbig HTC HTB ⊢
      have hpz : 1 ≤ p.size := by omega
      have hpb : p.size + 1 ≤ 8000 := by omega
      clear hp hz hz1 hz2 hbig
      have hne : p.toList.isEmpty = false := nonempty p hpz
      have hxz : ((⟨#[120]⟩ : ByteArray) ++ p).size ≤ maxLen := by unfold maxLen; simp only [ByteArray.size_append]; show 1 + p.size ≤ _; omega
      have hbig : ¬ (8000 : Int) < p.size + 1 := by omega
      go_wp2_with fail
      refine (Gn.text_impl ((⟨#[120]⟩ : ByteArray) ++ p) 1 _ hxz (handle_on BH.out HG.out)).mono ?_
      rw [HTB.out]
      simp only [outT]
      rintro e wi ⟨rfl, bi⟩
      have BI := hideD (BH.out.trans (bi.mono BH.out.size))
      clear bi hxz
      have hfld := fieldT
      go_wp2_with fail
      have hcz : (p.extract 0 (p.size - 1)).size ≤ maxLen := by rw [ByteArray.size_extract]; unfold maxLen; omega
      refine (Gn.text_impl (p.extract 0 (p.size - 1)) 0 _ hcz (handle_on BI.out HG.out)).mono ?_
      rw [HTC.out]
      simp only [outT]
      rintro e wj ⟨rfl, bj⟩
      have BJ := hideD (BI.out.trans (bj.mono BI.out.size))
      clear bj hcz
      go_wp2
      go_ret
      exact ⟨rfl, BJ.out⟩
  · have he : putT u = ⟨#[]⟩ := by unfold Nu.putT; rw [if_neg h]
    have HE := hideD he
    rw [he]
    clear he
    go_wp2_with fail
    refine (Nu.text_spec u _ (by unfold maxLen; omega)).mono ?_
    rintro e wi ⟨rfl, bi⟩
    have BI := hideD (BH.out.trans (bi.mono BH.out.size))
    clear bi
    rw [HE.out]
    go_wp2
    go_ret
    exact ⟨rfl, BI.out⟩

set_option maxHeartbeats 400000 in
theorem walk (a0 : Option Addr) (len0 cap0 : Nat) (z0 : List Int) {w : World} (w0 : IsRow .u8 w a0 len0 cap0 z0) (a1 : Option Addr) (len1 cap1 : Nat) (z1 : List Int) (w1 : IsRow .u8 w a1 len1 cap1 z1)
    (hg : w.cell? ⟨0, 0, none⟩ = some Gn.handle) :
    Calls Tryd.prog 3 #[.slice a0 len0 cap0, .slice a1 len1 cap1] w fun e w' => e = .returned (.bool true) ∧ Below w.heap.size w w' := by
  by_cases h0 : len0 ≤ 1048576
  · by_cases h1 : len1 ≤ 1048576
    · exact walk_in w a0 len0 cap0 a1 len1 cap1 (row_of w0) (row_of w1) h0 h1 hg
    · clear w0 w1 hg
      have g0 : (len0 : Int) ≤ 1048576 := by omega
      have g1 : (1048576 : Int) < len1 := by omega
      go_enter Tryd.func3, Tryd.ntmps3
      go_wp2
      go_ret
      exact ⟨rfl, Below.refl _ _⟩
  · clear w0 w1 hg
    have g0 : (1048576 : Int) < len0 := by omega
    go_enter Tryd.func3, Tryd.ntmps3
    go_wp2
    go_ret
    exact ⟨rfl, Below.refl _ _⟩
end Go.Proofs.YtkkoeaohmfdlgaaDoor.fnNums
