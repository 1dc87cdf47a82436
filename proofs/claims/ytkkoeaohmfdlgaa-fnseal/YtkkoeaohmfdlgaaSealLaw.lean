/- The walk of the law FnSeal. -/
import Derived.Test.YtkkoeaohmfdlgaaSealMath
import Derived.Test.YtkkoeaohmfdlgaaDrawCrc
import Derived.Laws.StructEq
namespace Go.Proofs.Ytkkoeaohmfdlgaa.fnSeal
open Go.RowKit
open Go.Proofs.Ytkkoeaohmfdlgaa.Dr (IsRow Row row_of hideD at_any drawSeal_any drawCrc_any)
open Go.Proofs.Ytkkoeaohmfdlgaa.Se (sealV sealL unsealV outV)

/-- the block that a text's bytes are laid in -/
theorem bytes_cell (u : World) (s : ByteArray) (cap e j : Nat) (hj : j < s.size) :
    (u.alloc (.cells (bytesRow s cap) e ((bytesRow s cap).size, (bytesRow s cap).size + 1))).cell? ⟨u.heap.size, j, none⟩ = some (.int .u8 (s[j].toNat : Int)) := by
  rw [World.cell?_alloc_mark, bytesRow_at s cap j hj]
  rfl
theorem bytes_free (u : World) (s : ByteArray) (cap e j : Nat) (hj : j < s.size) :
    (u.alloc (.cells (bytesRow s cap) e ((bytesRow s cap).size, (bytesRow s cap).size + 1))).frozen? ⟨u.heap.size, j, none⟩ = false := by
  rw [World.frozen?_alloc_mark]
  have h := bytesRow_at s cap j hj
  have := (Array.getElem?_eq_some_iff.1 h).1
  simp
  omega

theorem seal_empty (t : ByteArray) (h : ¬ t.size ≤ 7996) : sealV t = ⟨#[]⟩ := by unfold sealV; rw [if_neg h]
theorem seal_some (t : ByteArray) (h : t.size ≤ 7996) : (sealV t).size = t.size + 4 := by
  have hs : sealV t = t ++ Se.fourS (Se.crcOf t) := by unfold sealV; rw [if_pos h]
  rw [hs]; simp [ByteArray.size_append, Se.fourS_size]

theorem turned (c0 : Nat) (r : Int) (hc : c0 < 256) (p0 : 0 ≤ r) (p1 : r < 255 ∨ r = 0) :
    ∃ d : UInt8, bits BinOp.xor IntKind.u8 (c0 : Int) (IntKind.u8.wrap (IntKind.i64.wrap (1 + r))) = (d.toNat : Int) ∧ d.toNat ≠ c0 := by
  have e1 : IntKind.u8.wrap (IntKind.i64.wrap (1 + r)) = (((1 + r).toNat : Nat) : Int) := by
    rw [IntKind.wrap_i64, IntKind.wrap_u8']; omega
  have hm : (1 + r).toNat < 256 := by omega
  have hm0 : (1 + r).toNat ≠ 0 := by omega
  rw [e1, u8_xor_nat c0 _ hc hm]
  generalize (1 + r).toNat = m at hm hm0
  have hlt : c0 ^^^ m < 256 := Nat.xor_lt_two_pow (n := 8) hc hm
  have e : (UInt8.ofNat (c0 ^^^ m)).toNat = c0 ^^^ m := by rw [UInt8.toNat_ofNat', Nat.mod_eq_of_lt hlt]
  refine ⟨UInt8.ofNat (c0 ^^^ m), by rw [e], ?_⟩
  rw [e]
  intro h
  apply hm0
  have : c0 ^^^ m = c0 ^^^ 0 := by rw [h, Nat.xor_zero]
  exact Se.xlc this

theorem addr_add (g j : Nat) : (⟨g, 0, none⟩ : Addr).add j = ⟨g, j, none⟩ := by unfold Addr.add; split <;> simp_all

theorem field5 (u : World) : (Instr.field 27 (.agg #[.string ⟨#[]⟩, .int .i64 0, .int .i64 5]) 2).run Try.prog u = .ok (.int .i64 5) u := by kernel_rfl

/-- the bytes behind the store -/
theorem set_cells {wd : World} {g i : Nat} {s : ByteArray} (hi : i < s.size) (d : UInt8)
    (hc : ∀ j (hj : j < s.size), wd.cell? ⟨g, j, none⟩ = some (.int .u8 (s[j].toNat : Int))) :
    ∀ j (hj : j < (s.data.toList.set i d).length), (wd.setCell ⟨g, i, none⟩ (.int .u8 (d.toNat : Int))).cell? ((⟨g, 0, none⟩ : Addr).add j) = some (.int .u8 ((s.data.toList.set i d)[j].toNat : Int)) := by
  intro j hj
  have e : (⟨g, 0, none⟩ : Addr).add j = ⟨g, j, none⟩ := by unfold Addr.add; split <;> simp_all
  have hj' : j < s.size := by simpa using hj
  rw [e]
  by_cases h : j = i
  · subst h
    rw [World.cell?_setCell_same wd _ _ (hc j hj'), List.getElem_set_self]
  · rw [World.cell?_setCell_other wd _ _ _ (by first | (simp; done) | (simp; omega)), hc j hj', List.getElem_set_ne (by omega)]
    rfl

set_option maxRecDepth 100000 in
set_option maxHeartbeats 2000000 in
theorem walk_in (w : World) (a0 : Option Addr) (len0 cap0 : Nat) (a1 : Option Addr) (len1 cap1 : Nat) (r0 : Row w w.heap.size a0 len0) (r1 : Row w w.heap.size a1 len1) (hl0 : len0 ≤ 1048576) (hl1 : len1 ≤ 1048576) :
    Calls Try.prog 3 #[.slice a0 len0 cap0, .slice a1 len1 cap1] w fun e w' => e = .returned (.bool true) ∧ Below w.heap.size w w' := by
  have R0 := hideD r0
  have R1 := hideD r1
  clear r0 r1
  go_enter Try.func3, Try.ntmps3
  go_wp2_with fail
  refine (drawSeal_any a0 len0 cap0 _ hl0 R0.out).mono ?_
  rintro e wa ⟨t, ht, rfl, ba⟩
  have BA := hideD ba
  clear ba
  go_wp2_with fail
  refine (Se.seal_impl t _ (by unfold maxLen; omega)).mono ?_
  rintro e wb ⟨rfl, bb⟩
  have BB := hideD (BA.out.trans (bb.mono BA.out.size))
  clear bb
  go_wp2_with fail
  refine (Se.seal_spec t _ (by unfold maxLen; omega)).mono ?_
  rintro e wc ⟨rfl, bc⟩
  have BC := hideD (BB.out.trans (bc.mono BB.out.size))
  clear bc
  by_cases h : t.size ≤ 7996
  · have hsz := seal_some t h
    obtain ⟨s, hs⟩ : ∃ s, s = sealV t := ⟨_, rfl⟩
    rw [← hs] at hsz ⊢
    have HS := hideD hs
    have HZ := hideD hsz
    have hs4 : 4 ≤ s.size := by omega
    have hs8 : s.size ≤ 8000 := by omega
    clear hs hsz
    have hne : s.toList.isEmpty = false := by
      rw [ByteArray.toList_eq]
      cases hd : s.data.toList with
      | nil => exfalso; have := congrArg List.length hd; rw [Array.length_toList] at this; exact absurd (show s.size = 0 from this) (by omega)
      | cons _ _ => rfl
    have hbs := fun u : World => run_bytes_of_string (P := Try.prog) u 9 22 5 s Try.underlying9 Try.underlying22 Try.underlying5
    go_wp2_with fail
    have hcell : ∀ j (hj : j < s.size), (wc.alloc (Obj.cells (bytesRow s (grownCap wc s.size 0 5)) 5 ((bytesRow s (grownCap wc s.size 0 5)).size, (bytesRow s (grownCap wc s.size 0 5)).size + 1))).drew.cell? ⟨wc.heap.size, j, none⟩ = some (.int .u8 (s[j].toNat : Int)) := fun j hj => bytes_cell wc s _ _ j hj
    have hfree : ∀ j, j < s.size → (wc.alloc (Obj.cells (bytesRow s (grownCap wc s.size 0 5)) 5 ((bytesRow s (grownCap wc s.size 0 5)).size, (bytesRow s (grownCap wc s.size 0 5)).size + 1))).drew.frozen? ⟨wc.heap.size, j, none⟩ = false := fun j hj => bytes_free wc s _ _ j hj
    have BD := hideD ((BC.out.alloc BC.out.size (Obj.cells (bytesRow s (grownCap wc s.size 0 5)) 5 ((bytesRow s (grownCap wc s.size 0 5)).size, (bytesRow s (grownCap wc s.size 0 5)).size + 1))).drew)
    have hgz : wc.heap.size < (wc.alloc (Obj.cells (bytesRow s (grownCap wc s.size 0 5)) 5 ((bytesRow s (grownCap wc s.size 0 5)).size, (bytesRow s (grownCap wc s.size 0 5)).size + 1))).drew.heap.size := by simp
    generalize (wc.alloc (Obj.cells (bytesRow s (grownCap wc s.size 0 5)) 5 ((bytesRow s (grownCap wc s.size 0 5)).size, (bytesRow s (grownCap wc s.size 0 5)).size + 1))).drew = wd at hcell hfree BD hgz ⊢
    generalize grownCap wc s.size 0 5 = cp
    have hgw : w.heap.size ≤ wc.heap.size := BC.out.size
    generalize wc.heap.size = g at hcell hfree hgz hgw ⊢
    have RD := hideD (Dr.Row.below R1.out BD.out)
    have HCL := hideD hcell
    have HFR := hideD hfree
    clear hcell hfree hbs
    refine (at_any w.heap.size a1 len1 cap1 0 s.size wd hl1 (by omega) (by omega) RD.out).mono ?_
    rintro e w' ⟨r, rfl, q0, q1, hw⟩
    subst w'
    obtain ⟨i, rfl⟩ := Int.eq_ofNat_of_zero_le q0
    have hi : i < s.size := by omega
    have ci := HCL.out i hi
    have fi := HFR.out i hi
    have hc256 : s[i].toNat < 256 := s[i].toNat_lt
    obtain ⟨c0, hc0⟩ : ∃ c0, c0 = s[i].toNat := ⟨_, rfl⟩
    rw [← hc0] at ci hc256
    have HC0 := hideD hc0
    clear hc0 q1
    have g1 : (i : Int) < (s.size : Int) := by omega
    go_wp2
    go_region_with (go_at_call 7; refine (at_any w.heap.size a1 len1 cap1 1 255 _ hl1 (by omega) (by omega) (by exact RD.out)).mono ?_; rintro e w' ⟨r, rfl, p0, p1, hw⟩; subst w')
    all_goals
      obtain ⟨d, hd, hdn⟩ := turned c0 r hc256 p0 p1
      rw [hd]
      have HSL : Hid (s.data.toList = sealL t.data.toList) := by unfold Hid; rw [HS.out]; exact Se.sealV_list t h
      have HUN : Hid (unsealV (⟨(s.data.toList.set i d).toArray⟩ : ByteArray) = outV ⟨#[]⟩ 0 5) := by
        have hi2 : i < (sealL t.data.toList).length := by rw [← HSL.out]; simpa using hi
        refine Se.unseal_turned t _ h i d hi2 ?_ (by rw [← HSL.out])
        rw [← HSL.out]
        intro hh
        have hi3 : i < s.data.toList.length := by simpa using hi
        rw [List.getElem?_eq_getElem hi3] at hh
        apply hdn
        rw [HC0.out, ← Option.some.inj hh]
        rfl
      have HUS : Hid (unsealV s = outV t 0 0) := by unfold Hid; rw [HS.out]; exact Se.unseal_back t h
      have HCE := hideD (set_cells hi d HCL.out)
      have BE := hideD ((BD.out.setCell (p := ⟨g, i, none⟩) hgw (.int .u8 (d.toNat : Int))).drew)
      have hge : g < (wd.setCell ⟨g, i, none⟩ (.int .u8 (d.toNat : Int))).drew.heap.size := by simpa [World.setCell] using hgz
      have HCE2 : Hid (∀ j (hj : j < (s.data.toList.set i d).length), (wd.setCell ⟨g, i, none⟩ (.int .u8 (d.toNat : Int))).drew.cell? ((⟨g, 0, none⟩ : Addr).add j) = some (.int .u8 ((s.data.toList.set i d)[j].toNat : Int))) := HCE.out
      generalize (wd.setCell ⟨g, i, none⟩ (.int .u8 (d.toNat : Int))).drew = we at BE hge HCE2 ⊢
      clear ci fi hd p0 p1
      go_wp2_with fail
      refine (Se.unseal_impl s _ (by unfold maxLen; omega)).mono ?_
      rw [HUS.out]
      simp only [outV]
      rintro e wf ⟨rfl, bf⟩
      have BF := hideD (BE.out.trans (bf.mono BE.out.size))
      have hcv : (convert 22 9 (.slice (some ⟨g, 0, none⟩) s.size cp)).run Try.prog wf = .ok (.string ⟨(s.data.toList.set i d).toArray⟩) wf := by
        have hh := run_convert_bytes_back (P := Try.prog) wf 22 9 5 ⟨g, 0, none⟩ cp (s.data.toList.set i d) Try.underlying22 Try.underlying5 Try.underlying9 (fun j hj => (bf.cell (by rw [addr_add]; exact hge)).trans (HCE2.out j hj))
        have hl : (s.data.toList.set i d).length = s.size := by simp
        rw [hl] at hh
        exact hh
      clear bf
      go_wp2_with fail
      refine (Se.unseal_impl _ _ (by unfold maxLen; show (s.data.toList.set i d).toArray.size ≤ _; simp; omega)).mono ?_
      rw [HUN.out]
      simp only [outV]
      rintro e wg ⟨rfl, bg⟩
      have BG := hideD (BF.out.trans (bg.mono BF.out.size))
      clear bg hcv
      have hfld := field5
      go_wp2_with fail
      refine (drawCrc_any a1 len1 cap1 _ hl1 ((Dr.Row.below R1.out BG.out).mono BG.out.size)).mono ?_
      rintro e wy ⟨c, u, hu, rfl, by_⟩
      have BY := hideD (BG.out.trans (by_.mono BG.out.size))
      clear by_
      by_cases hbig : 8000 < t.size + u.size
      · go_wp2
        go_ret
        exact ⟨rfl, BY.out⟩
      · have HC := hideD (Se.crc_on t u (by omega))
        have htu : (t ++ u).size ≤ maxLen := by unfold maxLen; simp [ByteArray.size_append]; omega
        go_wp2_with fail
        refine (Cr.more_impl c u _ (by unfold maxLen; omega)).mono ?_
        rintro e w' ⟨rfl, hw⟩
        subst w'
        go_wp2_with fail
        refine (Cr.more_spec c u _ (by unfold maxLen; omega)).mono ?_
        rintro e w' ⟨rfl, hw⟩
        subst w'
        have hq : (Cr.moreV c u == Cr.moreV c u) = true := by simp
        go_wp2_with fail
        refine (Cr.crc_impl0 t _ (by unfold maxLen; omega)).mono ?_
        rintro e w' ⟨rfl, hw⟩
        subst w'
        go_wp2_with fail
        refine (Cr.more_impl (Cr.moreV 0 t) u _ (by unfold maxLen; omega)).mono ?_
        rintro e w' ⟨rfl, hw⟩
        subst w'
        go_wp2_with fail
        refine (Cr.crc_impl0 (t ++ u) _ htu).mono ?_
        rintro e w' ⟨rfl, hw⟩
        subst w'
        rw [HC.out]
        have hq2 : (Cr.moreV 0 (t ++ u) == Cr.moreV 0 (t ++ u)) = true := by simp
        go_wp2
        go_ret
        exact ⟨rfl, BY.out⟩
  · rw [seal_empty t h]
    go_wp2_with fail
    refine (drawCrc_any a1 len1 cap1 _ hl1 ((Dr.Row.below R1.out BC.out).mono BC.out.size)).mono ?_
    rintro e wy ⟨c, u, hu, rfl, by_⟩
    have BY := hideD (BC.out.trans (by_.mono BC.out.size))
    clear by_
    by_cases hbig : 8000 < t.size + u.size
    · go_wp2
      go_ret
      exact ⟨rfl, BY.out⟩
    · have HC := hideD (Se.crc_on t u (by omega))
      have htu : (t ++ u).size ≤ maxLen := by unfold maxLen; simp [ByteArray.size_append]; omega
      go_wp2_with fail
      refine (Cr.more_impl c u _ (by unfold maxLen; omega)).mono ?_
      rintro e w' ⟨rfl, hw⟩
      subst w'
      go_wp2_with fail
      refine (Cr.more_spec c u _ (by unfold maxLen; omega)).mono ?_
      rintro e w' ⟨rfl, hw⟩
      subst w'
      have hq : (Cr.moreV c u == Cr.moreV c u) = true := by simp
      go_wp2_with fail
      refine (Cr.crc_impl0 t _ (by unfold maxLen; omega)).mono ?_
      rintro e w' ⟨rfl, hw⟩
      subst w'
      go_wp2_with fail
      refine (Cr.more_impl (Cr.moreV 0 t) u _ (by unfold maxLen; omega)).mono ?_
      rintro e w' ⟨rfl, hw⟩
      subst w'
      go_wp2_with fail
      refine (Cr.crc_impl0 (t ++ u) _ htu).mono ?_
      rintro e w' ⟨rfl, hw⟩
      subst w'
      rw [HC.out]
      have hq2 : (Cr.moreV 0 (t ++ u) == Cr.moreV 0 (t ++ u)) = true := by simp
      go_wp2
      go_ret
      exact ⟨rfl, BY.out⟩

set_option maxHeartbeats 400000 in
theorem walk (a0 : Option Addr) (len0 cap0 : Nat) (z0 : List Int) {w : World} (w0 : IsRow .u8 w a0 len0 cap0 z0) (a1 : Option Addr) (len1 cap1 : Nat) (z1 : List Int) (w1 : IsRow .u8 w a1 len1 cap1 z1) :
    Calls Try.prog 3 #[.slice a0 len0 cap0, .slice a1 len1 cap1] w fun e w' => e = .returned (.bool true) ∧ Below w.heap.size w w' := by
  by_cases h0 : len0 ≤ 1048576
  · by_cases h1 : len1 ≤ 1048576
    · exact walk_in w a0 len0 cap0 a1 len1 cap1 (row_of w0) (row_of w1) h0 h1
    · clear w0 w1
      have g0 : (len0 : Int) ≤ 1048576 := by omega
      have g1 : (1048576 : Int) < len1 := by omega
      go_enter Try.func3, Try.ntmps3
      go_wp2
      go_ret
      exact ⟨rfl, Below.refl _ _⟩
  · clear w0 w1
    have g0 : (1048576 : Int) < len0 := by omega
    go_enter Try.func3, Try.ntmps3
    go_wp2
    go_ret
    exact ⟨rfl, Below.refl _ _⟩
end Go.Proofs.Ytkkoeaohmfdlgaa.fnSeal
