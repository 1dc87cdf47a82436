/- Texts put together: LfImpl, LfSpec, StrRow, StrLaws, StrSzL, StrArg, FileOfLaw. -/
import Derived.Test.YtjdlgpnhkfdehaaGreatDoorFo42
import Derived.Test.YtjdlgpnhkfdehaaGreatDoorFo47
import Derived.Lib.QuietBelow
import Derived.BigQuiet
import Derived.Deep.QuietTactic
import Derived.Test.YtjdlgpnhkfdehaaGreatDoorFo46
import Derived.Test.YtjdlgpnhkfdehaaGreatDoorFo7
import Derived.Test.YtjdlgpnhkfdehaaGreatDoorFo31
/- The walk of impl.FileOf. -/
namespace Go.Proofs.YtjdlgpnhkfdehaaGreatDoor.Ls
open Go.RowKit
open Go.Proofs.YtjdlgpnhkfdehaaGreatDoor.Up (ansU Glob glob_keep unpack_all)
open Go.Proofs.YtjdlgpnhkfdehaaGreatDoor.Se (outV)
open Go.Proofs.YtjdlgpnhkfdehaaGreatDoor.Pk (cat join_any)
open Go.Proofs.YtjdlgpnhkfdehaaGreatDoor.St (Strs OwnS one_newS one_cellS app_one)
theorem mixedG : Tryz.prog.follows .mixedOrders = true := by kernel_rfl
set_option maxRecDepth 100000 in
set_option maxHeartbeats 1000000 in
theorem must_impl (z b : Int) (r : ByteArray) (i : Nat) (w : World) (hz0 : 0 ≤ z) (hz : z ≤ 1000) (hb0 : 1 ≤ b) (hb : b ≤ 48) (hi : i ≤ 64) :
  Calls Tryz.prog 86 #[lV z b r, .int .i64 i] w fun e w' => e = .returned (.int .i64 (mustN z b i)) ∧ Below w.heap.size w w' := by
 have hm0 : (0 : Int) ≤ i * b := Int.mul_nonneg (by omega) (by omega)
 have hm1 : (i : Int) * b ≤ 64 * 48 := Int.mul_le_mul (by omega) hb (by omega) (by omega)
 have HM : Hid (mustN z b i = min b (z - i * b)) := rfl
 rw [HM.out]
 clear HM
 have hw1 : IntKind.i64.wrap ((i : Int) * b) = (i : Int) * b := by rw [IntKind.wrap_i64]; omega
 have hw2 : IntKind.i64.wrap (z - (i : Int) * b) = z - (i : Int) * b := by rw [IntKind.wrap_i64]; omega
 unfold lV
 go_enter Tryz.func86, Tryz.ntmps86
 go_wp2_with fail
 go_ret
 exact ⟨rfl, (Below.refl _ _).alloc (Nat.le_refl _) _⟩
theorem joinAll_own {W : World} {base : Nat} {v : Value} {D : List ByteArray} (h : OwnS W base v D) (hl : D.length ≤ 1048576) (hc : (cat D).length ≤ 1048576) :
  Calls Tryz.prog 56 #[v] W fun e w' => e = .returned (.string ⟨(cat D).toArray⟩) ∧ Below W.heap.size W w' := by
 obtain ⟨a, cap, rfl, _, hs⟩ := h.strs
 exact join_any D a cap D.length W hs rfl hl hc
set_option maxRecDepth 100000 in
set_option maxHeartbeats 4000000 in
theorem file_impl (z b : Int) (r : ByteArray) (l : List ByteArray) (a : Option Addr) (cap m : Nat) (ga : Addr) (w : World) (hm : m = l.length) (hp : m ≤ 1048576) (hs : Strs w w.heap.size a l) (hsz : ∀ x ∈ l, x.size ≤ 1048576) (hG : Glob w (.iface 285 (.pointer (some ga)))) :
  Calls Tryz.prog 33 #[lV z b r, .slice a m cap] w fun e w' => e = .returned (.string (fileV z b r l)) ∧ Below w.heap.size w w' := by
 obtain ⟨i0, hif, hz0, hz1, hz2⟩ := info_parts St.Tryz.infoS9
 have HA : Hid (Below w.heap.size w (w.alloc (.cells #[.int .i64 z, .int .i64 b, .string r] 35))) := (Below.refl _ _).alloc (Nat.le_refl _) _
 have HX : Hid ((w.alloc (.cells #[.int .i64 z, .int .i64 b, .string r] 35)).heap[w.heap.size]? = some (.cells #[.int .i64 z, .int .i64 b, .string r] 35 (0, 0))) := heap_alloc_new w _
 by_cases h4 : 400 < m
 ·have h4i : (400 : Int) < (m : Int) := by omega
  have HQ : Hid (fileV z b r l = ⟨#[]⟩) := by unfold Hid fileV; rw [if_pos (by omega)]
  rw [HQ.out]
  unfold lV
  clear HQ hs hsz hG hm
  go_enter Tryz.func33, Tryz.ntmps33
  go_wp2_with fail
  go_ret
  exact ⟨rfl, HA.out⟩
 ·have h4i : ¬ (400 : Int) < (m : Int) := by omega
  have h4d : decide ((400 : Int) < (m : Int)) = false := by simp; omega
  have HQ : Hid (fileV z b r l = ⟨(cat (fileL z b 0 (l.take (countN z b r)))).toArray⟩) := by unfold Hid fileV; rw [if_neg (by omega)]
  rw [HQ.out]
  clear HQ
  have HC := hideL (fun W => count_impl z b r W)
  have HCL := countN_le z b r
  have HCY : Hid (0 < countN z b r → 0 ≤ z ∧ z ≤ 1000 ∧ 1 ≤ b ∧ b ≤ 48) := fun h => by
   cases hr : rightB z b r with
   | false => rw [countN_no hr] at h; omega
   | true => have := rightB_yes hr; omega
  have HB48 : Hid (∀ D : List ByteArray, (0 < D.length → b ≤ 48) → (∀ x ∈ D, (x.size : Int) ≤ b) → D.length ≤ 64 → (cat D).length ≤ 1048576) := fun D h1 h2 h3 => by
   by_cases h0 : 0 < D.length
   ·have hb48 := h1 h0
    have := cat_le 48 D fun x hx => by have := h2 x hx; omega
    omega
   ·have : D = [] := List.eq_nil_of_length_eq_zero (by omega)
    subst this
    decide
  have HM := hideL (fun (i : Nat) (hi : i ≤ 64) (W : World) (h : 0 ≤ z ∧ z ≤ 1000 ∧ 1 ≤ b ∧ b ≤ 48) => must_impl z b r i W h.1 h.2.1 h.2.2.1 h.2.2.2 hi)
  generalize countN z b r = c at HC HCL HCY ⊢
  obtain ⟨q, hq⟩ : ∃ q, q = l.take c := ⟨_, rfl⟩
  have hql : q.length = min c m := by rw [hq, List.length_take, hm]
  have HQS : Hid (∀ x ∈ q, x.size ≤ 1048576) := fun x hx => hsz x (by rw [hq] at hx; exact List.mem_of_mem_take hx)
  have HQG : Hid (∀ (k : Nat) (h : k < q.length) (W : World), Below w.heap.size w W → ∃ bb off, a = some ⟨bb, off, none⟩ ∧ W.cell? ⟨bb, off + k, none⟩ = some (.string q[k])) := fun k h W hW => by
   have hkl : k < l.length := by omega
   obtain ⟨bb, off, ha, _, hc⟩ := (hs.below hW).some (by omega)
   refine ⟨bb, off, ha, ?_⟩
   rw [hc k hkl]
   congr 2
   subst hq
   rw [List.getElem_take]
  rw [← hq]
  have HG := hideL hG
  have HV := hideL (fun (x : ByteArray) (W : World) (hx : x.size ≤ 1048576) (hW : Glob W (.iface 285 (.pointer (some ga)))) => unpack_all ga x W hx hW)
  obtain ⟨n, hn⟩ : ∃ n, n = q.length := ⟨_, rfl⟩
  have HN := hideL hn
  have hnc : n ≤ c := by omega
  have hnm : n ≤ m := by omega
  have hmin : min (c : Int) (m : Int) = (n : Int) := by omega
  have hcase : (n : Int) = c ∧ (c : Int) ≤ m ∨ (n : Int) = m ∧ (m : Int) < c := by omega
  clear hs hsz hG hm hq hn hql
  have hmx := mixedG
  unfold lV at HC HM ⊢
  go_enter Tryz.func33, Tryz.ntmps33
  go_wp2_with fail
  generalize hww : w.alloc (.cells #[.int .i64 z, .int .i64 b, .string r] 35) = wa at HA HX ⊢
  clear hww
  generalize hgx : w.heap.size = gx at HX ⊢
  refine (HC.out _).mono ?_
  rintro e w1 ⟨rfl, hb⟩
  have X1 := hideL (blkL HX.out hb)
  have B1 := hideL (lowL HA.out hb)
  clear hb HX HA HC
  have G1 := hideL (glob_keep HG.out B1.out)
  have LW := hideL (show gx < w1.heap.size from (Array.getElem?_eq_some_iff.1 X1.out).1)
  clear HG
  go_wp2_with fail
  go_loopw [16, 5] (fun iv bv wr => ∃ (k : Nat) (D : List ByteArray), iv = .int .i64 k ∧ k ≤ n ∧ OwnS wr w1.heap.size bv D ∧ FileF z b q k D ∧ Below w1.heap.size w1 wr) (fun iv _ _ => n - (intOf iv).toNat)
  case atStart => exact ⟨0, [], rfl, Nat.zero_le _, OwnS.nil _ _, file_none z b q, Below.refl _ _⟩
  case round =>
   obtain ⟨k, D, rfl, hk, ho, hF, hbw⟩ := hrel
   have O := hideL ho
   have F := hideL hF
   have BW := hideL hbw
   have GW := hideL (glob_keep G1.out hbw)
   have XW := hideL (blkL X1.out hbw)
   have BB := hideL (lowL B1.out hbw)
   have hDL := hF.1
   clear ho hF hbw
   by_cases hlt : k < n
   ·have hlt' : (k : Int) < (n : Int) := by omega
    have hkq : k < q.length := by rw [← HN.out]; exact hlt
    have hkm : (k : Int) < (m : Int) := by omega
    obtain ⟨bb, off, rfl, ci⟩ := HQG.out k hkq wr BB.out
    have hx := HQS.out q[k] (List.getElem_mem hkq)
    have HNXT := hideL (fun (t : ByteArray) (h1 : blkT q[k] = some t) (h2 : (t.size : Int) = mustN z b k) => file_next F.out hkq h1 h2)
    have HSTP := hideL (fun h => file_stop F.out hkq h)
    generalize q[k] = x at ci hx HNXT HSTP
    obtain ⟨t, c0, hu⟩ := ansU_out x
    have HY := hideL (fun (h : c0 = 0) => blkT_yes (t := t) (by rw [hu, h]))
    have HZ := hideL (fun (h : ¬ c0 = 0) => blkT_no hu h)
    have HVX := hideL (fun (W : World) (hW : Glob W (.iface 285 (.pointer (some ga)))) => HV.out x W hx hW)
    rw [hu] at HVX
    unfold outV at HVX
    clear hu
    go_wp2_with fail
    refine (HVX.out _ GW.out).mono ?_
    rintro e w3 ⟨rfl, hb⟩
    have O3 := hideL (O.out.below hb)
    have X3 := hideL (blkL XW.out hb)
    have B3 := hideL (lowL BW.out hb)
    clear hb ci O XW BW GW BB
    have O4 : Hid (OwnS (w3.alloc (.cells #[.string t, .int .i64 0, .int .i64 c0] 26)) w1.heap.size u5 D) := World.ownsRow.alloc O3.out _
    have X4 : Hid ((w3.alloc (.cells #[.string t, .int .i64 0, .int .i64 c0] 26)).heap[gx]? = some (.cells #[.int .i64 z, .int .i64 b, .string r] 35 (0, 0))) := blk_alloc X3.out _
    have Y4 : Hid ((w3.alloc (.cells #[.string t, .int .i64 0, .int .i64 c0] 26)).heap[w3.heap.size]? = some (.cells #[.string t, .int .i64 0, .int .i64 c0] 26 (0, 0))) := heap_alloc_new w3 _
    have B4 : Hid (Below w1.heap.size w1 (w3.alloc (.cells #[.string t, .int .i64 0, .int .i64 c0] 26))) := lowB_alloc rfl B3.out _
    go_upto_region 8 with fail
    generalize hww : w3.alloc (.cells #[.string t, .int .i64 0, .int .i64 c0] 26) = u4 at O4 X4 Y4 B4 ⊢
    generalize w3.heap.size = gt at Y4 ⊢
    clear hww O3 X3 B3
    obtain ⟨x0, x1, x2⟩ := cells3 X4.out
    obtain ⟨y0, y1, y2⟩ := cells3 Y4.out
    by_cases hc0 : c0 = 0
    ·have HSOME := hideL (HY.out hc0)
     have hcpos : 0 ≤ z ∧ z ≤ 1000 ∧ 1 ≤ b ∧ b ≤ 48 := HCY.out (by omega)
     have HMU := hideL (fun (W : World) => HM.out k (by omega) W hcpos)
     have HMN : Hid (mustN z b k = mustN z b k) := rfl
     subst hc0
     clear HZ HY
     generalize mustN z b k = mm at HMU HNXT HSTP HMN
     have gx0 := fun d os => cell_regrown x0 d os
     have gx1 := fun d os => cell_regrown x1 d os
     have gx2 := fun d os => cell_regrown x2 d os
     have gy0 := fun d os => cell_regrown y0 d os
     have gy2 := fun d os => cell_regrown y2 d os
     by_cases hmm : (t.size : Int) = mm
     ·have FN := hideL (HNXT.out t HSOME.out hmm)
      have hmb : ((t.size : Int) != mm) = false := by simp; exact hmm
      have hme : ((t.size : Int) == mm) = true := by simp; exact hmm
      clear hmm HNXT HSTP
      refine wp_region_quiet_below (by assumption) (by kernel_rfl) ?_
      repeat (quiet_step (first | (go_at_call 86; exact Calls.regrown_of (HMU.out _))))
      refine wpQuiet_nil ?_
      intro _ hw'
      obtain ⟨⟨dq, osq⟩, hw''⟩ := hw'
      subst hw''
      have KQ := hideL (below_regrown u4 dq osq)
      generalize Go.Sort.grow (redrawn u4 dq) osq = w8 at KQ ⊢
      clear gx0 gx1 gx2 gy0 gy2 x0 x1 x2 y0 y1 y2
      have O8 := hideL (O4.out.below KQ.out)
      have B8 := hideL (lowL B4.out KQ.out)
      have hz8 := B8.out.size
      obtain ⟨y0, y1, y2⟩ := cells3 (blkL Y4.out KQ.out)
      go_wp2_with (at_builtin; refine wpList_append_own _ rfl (.tmp 36) (.tmp 39) 30 rfl w1.heap.size 9 i0 (.string ⟨#[]⟩) 1 16 Tryz.underlying30 hif hz0 hz1 hz2 rfl (by decide) _ _ _ rfl (World.ownsRow.alloc O8.out _) ⟨w8.heap.size, 0, none⟩ 1 1 [.string t] rfl rfl (one_newS w8 _ _) (one_cellS _) (by rw [hDL]; unfold maxLen; omega) (by rw [hDL]; omega) (by simp; omega) ?_)
      intro v9 w9 hown hgrow _
      have O9 : Hid (OwnS w9 w1.heap.size v9 (D ++ [t])) := OwnS.snoc (by rw [hDL]; exact hown)
      have B9 := hideL (app_one B8.out hz8 (Nat.le_refl _) O8.out hgrow)
      clear hown hgrow O8 O4
      go_wp2_with fail
      go_roundw
      case rel => exact ⟨k + 1, _, by go_num, by omega, O9.out, FN.out, B9.out⟩
      case measure => simp [intOf]; omega
     ·have HEND := hideL (HSTP.out (.inr ⟨t, HSOME.out, hmm⟩))
      have hmb : ((t.size : Int) != mm) = true := by simp; exact hmm
      have hme : ((t.size : Int) == mm) = false := by simp; exact hmm
      clear hmm HNXT HSTP
      refine wp_region_quiet_below (by assumption) (by kernel_rfl) ?_
      repeat (quiet_step (first | (go_at_call 86; exact Calls.regrown_of (HMU.out _))))
      refine wpQuiet_nil ?_
      intro _ hw'
      obtain ⟨⟨dq, osq⟩, hw''⟩ := hw'
      subst hw''
      have KQ := hideL (below_regrown u4 dq osq)
      generalize Go.Sort.grow (redrawn u4 dq) osq = w8 at KQ ⊢
      clear gx0 gx1 gx2 gy0 gy2 x0 x1 x2 y0 y1 y2
      have O8 := hideL (O4.out.below KQ.out)
      have B8 := hideL (lowL B1.out (lowL B4.out KQ.out))
      go_wp2_with fail
      refine (joinAll_own O8.out (by omega) (HB48.out D (fun _ => hcpos.2.2.2) F.out.2.1 (by omega))).mono ?_
      rintro e w9 ⟨rfl, hb⟩
      have B9 := hideL (lowL B8.out hb)
      clear hb
      go_wp2_with fail
      go_ret
      exact ⟨by rw [HEND.out]; rfl, B9.out⟩
    ·have HEND := hideL (HSTP.out (.inl (HZ.out hc0)))
     have hcpos : 0 ≤ z ∧ z ≤ 1000 ∧ 1 ≤ b ∧ b ≤ 48 := HCY.out (by omega)
     have hcb : (c0 != 0) = true := by simp; exact hc0
     have hce : (c0 == 0) = false := by simp; exact hc0
     clear HZ HY HNXT HSTP
     go_quiet (fail)
     have O8 := fun (i : Nat) => O4.out.below (below_drewN (Below.refl u4.heap.size u4) i)
     have B8 := fun (i : Nat) => lowL B1.out (lowL B4.out (below_drewN (Below.refl u4.heap.size u4) i))
     go_wp2_with fail
     refine (joinAll_own (O8 _) (by omega) (HB48.out D (fun _ => hcpos.2.2.2) F.out.2.1 (by omega))).mono ?_
     rintro e w9 ⟨rfl, hb⟩
     have B9 := hideL (lowL (B8 _) hb)
     clear hb
     go_wp2_with fail
     go_ret
     exact ⟨by rw [HEND.out]; rfl, B9.out⟩
   ·have HEND := hideL (file_end F.out (by rw [← HN.out]; omega))
    have hlt' : ¬ (k : Int) < (n : Int) := by omega
    have B8 := hideL (lowL B1.out BW.out)
    go_wp2_with fail
    refine (joinAll_own O.out (by omega) (HB48.out D (fun h => (HCY.out (by omega)).2.2.2) F.out.2.1 (by omega))).mono ?_
    rintro e w9 ⟨rfl, hb⟩
    have B9 := hideL (lowL B8.out hb)
    clear hb
    go_wp2_with fail
    go_ret
    exact ⟨by rw [HEND.out]; rfl, B9.out⟩
end Go.Proofs.YtjdlgpnhkfdehaaGreatDoor.Ls


/- The walk of the specification's FileOf. -/
namespace Go.Proofs.YtjdlgpnhkfdehaaGreatDoor.Ls
open Go.RowKit
open Go.Proofs.YtjdlgpnhkfdehaaGreatDoor.Up (ansU unpack_spec)
open Go.Proofs.YtjdlgpnhkfdehaaGreatDoor.Se (outV)
open Go.Proofs.YtjdlgpnhkfdehaaGreatDoor.Pk (cat)
open Go.Proofs.YtjdlgpnhkfdehaaGreatDoor.St (Strs)
open Go.Proofs.YtjdlgpnhkfdehaaGreatDoor.Bk (cnt count_any)
theorem min_spec (x y : Int) (w : World) :
  Calls Tryz.prog 130 #[.int .i64 x, .int .i64 y] w fun e w' => e = .returned (.int .i64 (min x y)) ∧ ∃ n, w' = w.drewN n := by
 by_cases h : x < y
 ·have HM : Hid (min x y = x) := by unfold Hid; omega
  rw [HM.out]
  go_enter Tryz.func130, Tryz.ntmps130
  go_wp2_with fail
  go_ret
  exact ⟨rfl, 0, rfl⟩
 ·have HM : Hid (min x y = y) := by unfold Hid; omega
  rw [HM.out]
  go_enter Tryz.func130, Tryz.ntmps130
  go_wp2_with fail
  go_ret
  exact ⟨rfl, 0, rfl⟩
theorem cat_snoc (D : List ByteArray) (t : ByteArray) : (⟨(cat (D ++ [t])).toArray⟩ : ByteArray) = ⟨(cat D).toArray⟩ ++ t := by
 refine ByteArray.ext ?_
 show (cat (D ++ [t])).toArray = (⟨(cat D).toArray⟩ ++ t : ByteArray).data
 rw [ByteArray.data_append]
 simp [cat]
theorem cat_size (D : List ByteArray) : (⟨(cat D).toArray⟩ : ByteArray).size = (cat D).length := by
 show (cat D).toArray.size = _
 rw [List.size_toArray]
set_option maxRecDepth 100000 in
set_option maxHeartbeats 4000000 in
theorem l07File_spec (zn bn : Nat) (r : ByteArray) (l : List ByteArray) (a : Option Addr) (cap m : Nat) (w : World) (hr : rightB zn bn r = true) (hm : m = l.length) (hp : m ≤ 400) (hs : Strs w w.heap.size a l) (hsz : ∀ x ∈ l, x.size ≤ 1048576) :
  Calls Tryz.prog 87 #[lV zn bn r, .slice a m cap] w fun e w' => e = .returned (.string ⟨(cat (fileL zn bn 0 (l.take (cnt zn bn)))).toArray⟩) ∧ Below w.heap.size w w' := by
 have h := rightB_yes hr
 have hcl := (countN_yes hr).2
 have HA : Hid (Below w.heap.size w (w.alloc (.cells #[.int .i64 zn, .int .i64 bn, .string r] 35))) := (Below.refl _ _).alloc (Nat.le_refl _) _
 have HX : Hid ((w.alloc (.cells #[.int .i64 zn, .int .i64 bn, .string r] 35)).heap[w.heap.size]? = some (.cells #[.int .i64 zn, .int .i64 bn, .string r] 35 (0, 0))) := heap_alloc_new w _
 have HC := hideL (fun W => count_any zn bn W (by omega) (by omega) (by omega))
 have HB48 : Hid (∀ D : List ByteArray, (∀ x ∈ D, (x.size : Int) ≤ bn) → D.length ≤ 64 → (cat D).length ≤ 3072) := fun D h2 h3 => by
  have := cat_le 48 D fun x hx => by have := h2 x hx; omega
  omega
 generalize cnt zn bn = c at HC hcl ⊢
 obtain ⟨q, hq⟩ : ∃ q, q = l.take c := ⟨_, rfl⟩
 have hql : q.length = min c m := by rw [hq, List.length_take, hm]
 have HQS : Hid (∀ x ∈ q, x.size ≤ 1048576) := fun x hx => hsz x (by rw [hq] at hx; exact List.mem_of_mem_take hx)
 have HQG : Hid (∀ (k : Nat) (h : k < q.length) (W : World), Below w.heap.size w W → ∃ bb off, a = some ⟨bb, off, none⟩ ∧ W.cell? ⟨bb, off + k, none⟩ = some (.string q[k])) := fun k h W hW => by
  have hkl : k < l.length := by omega
  obtain ⟨bb, off, ha, _, hc⟩ := (hs.below hW).some (by omega)
  refine ⟨bb, off, ha, ?_⟩
  rw [hc k hkl]
  congr 2
  subst hq
  rw [List.getElem_take]
 rw [← hq]
 obtain ⟨n, hn⟩ : ∃ n, n = q.length := ⟨_, rfl⟩
 have HN := hideL hn
 have HNE := hideL (show n = min c m by omega)
 have hzb : zn ≤ 1000 := by omega
 have hbb1 : 1 ≤ bn := by omega
 have hbb : bn ≤ 48 := by omega
 clear hs hsz hm hq hn hql h hr
 unfold lV
 go_enter Tryz.func87, Tryz.ntmps87
 go_wp2_with fail
 generalize hww : w.alloc (.cells #[.int .i64 zn, .int .i64 bn, .string r] 35) = w1 at HA HX ⊢
 clear hww
 generalize w.heap.size = gx at HX ⊢
 refine (HC.out _).mono ?_
 rintro e w2 ⟨rfl, hw⟩
 subst w2
 clear HC
 go_wp2_with fail
 go_loopw [7, 5] (fun iv bv wr => ∃ (k : Nat) (D : List ByteArray), iv = .int .i64 k ∧ bv = .string ⟨(cat D).toArray⟩ ∧ k ≤ n ∧ FileF zn bn q k D ∧ Below w1.heap.size w1 wr) (fun iv _ _ => n - (intOf iv).toNat)
 case atStart => exact ⟨0, [], rfl, rfl, Nat.zero_le _, file_none zn bn q, Below.refl _ _⟩
 case round =>
  obtain ⟨k, D, rfl, rfl, hk, hF, hbw⟩ := hrel
  have F := hideL hF
  have BW := hideL hbw
  have XW := hideL (blkL HX.out hbw)
  have BB := hideL (lowL HA.out hbw)
  have hDL := hF.1
  clear hF hbw
  have hnc : n ≤ c := by have := HNE.out; omega
  have hnm : n ≤ m := by have := HNE.out; omega
  by_cases hlt : k < n
  ·have hlc : (k : Int) < (c : Int) := by omega
   have hlm : (k : Int) < (m : Int) := by omega
   have hkq : k < q.length := by rw [← HN.out]; exact hlt
   obtain ⟨bb, off, rfl, ci⟩ := HQG.out k hkq wr BB.out
   have hx := HQS.out q[k] (List.getElem_mem hkq)
   have HNXT := hideL (fun (t : ByteArray) (h1 : blkT q[k] = some t) (h2 : (t.size : Int) = mustN zn bn k) => file_next F.out hkq h1 h2)
   have HSTP := hideL (fun h => file_stop F.out hkq h)
   generalize q[k] = x at ci hx HNXT HSTP
   obtain ⟨t, c0, hu⟩ := ansU_out x
   have HY := hideL (fun (h : c0 = 0) => blkT_yes (t := t) (by rw [hu, h]))
   have HZ := hideL (fun (h : ¬ c0 = 0) => blkT_no hu h)
   have HVX := hideL (fun (W : World) => unpack_spec x W hx)
   rw [hu] at HVX
   unfold outV at HVX
   clear hu
   have hcs := HB48.out D F.out.2.1 (by omega)
   have hcz := cat_size D
   go_wp2_with fail
   refine (HVX.out _).mono ?_
   rintro e w3 ⟨rfl, hb⟩
   have X3 := hideL (blkL XW.out hb)
   have B3 := hideL (lowL BW.out hb)
   clear hb ci XW BW BB
   have X4 : Hid ((w3.alloc (.cells #[.string t, .int .i64 0, .int .i64 c0] 26)).heap[gx]? = some (.cells #[.int .i64 zn, .int .i64 bn, .string r] 35 (0, 0))) := blk_alloc X3.out _
   have Y4 : Hid ((w3.alloc (.cells #[.string t, .int .i64 0, .int .i64 c0] 26)).heap[w3.heap.size]? = some (.cells #[.string t, .int .i64 0, .int .i64 c0] 26 (0, 0))) := heap_alloc_new w3 _
   have B4 : Hid (Below w1.heap.size w1 (w3.alloc (.cells #[.string t, .int .i64 0, .int .i64 c0] 26))) := lowB_alloc rfl B3.out _
   go_upto_region 7 with fail
   generalize hww : w3.alloc (.cells #[.string t, .int .i64 0, .int .i64 c0] 26) = u4 at X4 Y4 B4 ⊢
   generalize w3.heap.size = gt at Y4 ⊢
   clear hww X3 B3
   obtain ⟨x0, x1, x2⟩ := cells3 X4.out
   obtain ⟨y0, y1, y2⟩ := cells3 Y4.out
   by_cases hc0 : c0 = 0
   ·have HSOME := hideL (HY.out hc0)
    have hm0 : (0 : Int) ≤ (k : Int) * bn := Int.mul_nonneg (by omega) (by omega)
    have hm1 : (k : Int) * bn ≤ 64 * 48 := Int.mul_le_mul (by omega) (by omega) (by omega) (by omega)
    have hw1 : IntKind.i64.wrap ((k : Int) * bn) = (k : Int) * bn := by rw [IntKind.wrap_i64]; omega
    have hw2 : IntKind.i64.wrap ((zn : Int) - (k : Int) * bn) = (zn : Int) - (k : Int) * bn := by rw [IntKind.wrap_i64]; omega
    have HMU : Hid (∀ W, Calls Tryz.prog 130 #[.int .i64 (bn : Nat), .int .i64 ((zn : Int) - (k : Int) * bn)] W fun e w' => e = .returned (.int .i64 (mustN zn bn k)) ∧ ∃ n, w' = W.drewN n) := fun W => min_spec _ _ W
    subst hc0
    clear HZ HY
    generalize mustN zn bn k = mm at HMU HNXT HSTP
    by_cases hmm : (t.size : Int) = mm
    ·have FN := hideL (HNXT.out t HSOME.out hmm)
     have hts := FN.out.2.1 t (by simp)
     have hmb : ((t.size : Int) != mm) = false := by simp; exact hmm
     have hme : ((t.size : Int) == mm) = true := by simp; exact hmm
     have n1 : ¬ 9223372036854775807 < (⟨(cat D).toArray⟩ : ByteArray).size + t.size := by omega
     have HSN := hideL (cat_snoc D t)
     clear hmm HNXT HSTP
     go_quiet (first | (go_at_call 130; refine Calls.quiet_of (HMU.out _)))
     generalize (⟨(cat D).toArray⟩ : ByteArray) = CD at n1 HSN ⊢
     have B8 := fun (i : Nat) => lowL B4.out (below_drewN (Below.refl u4.heap.size u4) i)
     go_wp2_with fail
     go_roundw
     case rel => exact ⟨k + 1, _, by go_num, by rw [HSN.out], by omega, FN.out, B8 _⟩
     case measure => simp [intOf]; omega
    ·have HEND := hideL (HSTP.out (.inr ⟨t, HSOME.out, hmm⟩))
     have hmb : ((t.size : Int) != mm) = true := by simp; exact hmm
     have hme : ((t.size : Int) == mm) = false := by simp; exact hmm
     clear hmm HNXT HSTP
     go_quiet (first | (go_at_call 130; refine Calls.quiet_of (HMU.out _)))
     have B8 := fun (i : Nat) => lowL HA.out (lowL B4.out (below_drewN (Below.refl u4.heap.size u4) i))
     go_wp2_with fail
     go_ret
     exact ⟨by rw [HEND.out]; rfl, B8 _⟩
   ·have HEND := hideL (HSTP.out (.inl (HZ.out hc0)))
    have hcb : (c0 != 0) = true := by simp; exact hc0
    have hce : (c0 == 0) = false := by simp; exact hc0
    clear HZ HY HNXT HSTP
    go_quiet (fail)
    have B8 := fun (i : Nat) => lowL HA.out (lowL B4.out (below_drewN (Below.refl u4.heap.size u4) i))
    go_wp2_with fail
    go_ret
    exact ⟨by rw [HEND.out]; rfl, B8 _⟩
  ·have HEND := hideL (file_end F.out (by rw [← HN.out]; omega))
   have B8 := hideL (lowL HA.out BW.out)
   by_cases hkc : k < c
   ·have hkc' : (k : Int) < (c : Int) := by omega
    have hkm' : ¬ (k : Int) < (m : Int) := by have := HNE.out; omega
    have hkmd : decide ((k : Int) < (m : Int)) = false := by simp; have := HNE.out; omega
    go_wp2_with fail
    go_ret
    exact ⟨by rw [HEND.out]; rfl, B8.out⟩
   ·have hkc' : ¬ (k : Int) < (c : Int) := by omega
    have hkcd : decide ((k : Int) < (c : Int)) = false := by simp; omega
    go_wp2_with fail
    go_ret
    exact ⟨by rw [HEND.out]; rfl, B8.out⟩
set_option maxRecDepth 100000 in
set_option maxHeartbeats 2000000 in
theorem file_spec (z b : Int) (r : ByteArray) (l : List ByteArray) (a : Option Addr) (cap m : Nat) (w : World) (hm : m = l.length) (hp : m ≤ 1048576) (hs : Strs w w.heap.size a l) (hsz : ∀ x ∈ l, x.size ≤ 1048576) :
  Calls Tryz.prog 34 #[lV z b r, .slice a m cap] w fun e w' => e = .returned (.string (fileV z b r l)) ∧ Below w.heap.size w w' := by
 have HA : Hid (Below w.heap.size w (w.alloc (.cells #[.int .i64 z, .int .i64 b, .string r] 35))) := (Below.refl _ _).alloc (Nat.le_refl _) _
 have HX : Hid ((w.alloc (.cells #[.int .i64 z, .int .i64 b, .string r] 35)).heap[w.heap.size]? = some (.cells #[.int .i64 z, .int .i64 b, .string r] 35 (0, 0))) := heap_alloc_new w _
 by_cases h4 : 400 < m
 ·have h4i : (400 : Int) < (m : Int) := by omega
  have HQ : Hid (fileV z b r l = ⟨#[]⟩) := by unfold Hid fileV; rw [if_pos (by omega)]
  rw [HQ.out]
  unfold lV
  clear HQ hs hsz hm
  go_enter Tryz.func34, Tryz.ntmps34
  go_wp2_with fail
  go_ret
  exact ⟨rfl, HA.out⟩
 ·have h4i : ¬ (400 : Int) < (m : Int) := by omega
  have h4d : decide ((400 : Int) < (m : Int)) = false := by simp; omega
  have HQ : Hid (fileV z b r l = ⟨(cat (fileL z b 0 (l.take (countN z b r)))).toArray⟩) := by unfold Hid fileV; rw [if_neg (by omega)]
  have HR := hideL (fun W => right_spec z b r W)
  rw [HQ.out]
  clear HQ
  cases hr : rightB z b r with
  | false =>
   have HE : Hid (fileL z b 0 (l.take (countN z b r)) = []) := by rw [countN_no hr]; rfl
   rw [HE.out]
   rw [hr] at HR
   clear hr hs hsz HE
   unfold lV at HR ⊢
   go_enter Tryz.func34, Tryz.ntmps34
   go_wp2_with fail
   refine (HR.out _).mono ?_
   rintro e w1 ⟨rfl, hb⟩
   have B1 := hideL (lowL HA.out hb)
   clear hb
   go_wp2_with fail
   go_ret
   exact ⟨rfl, B1.out⟩
  | true =>
   have h := rightB_yes hr
   obtain ⟨zn, hz⟩ := Int.eq_ofNat_of_zero_le h.1
   obtain ⟨bn, hb⟩ := Int.eq_ofNat_of_zero_le (show 0 ≤ b by omega)
   subst hz
   subst hb
   have HL : Hid (∀ W, Below w.heap.size w W → _) := fun W hW => l07File_spec zn bn r l a cap m W hr hm (by omega) ((hs.below hW).mono hW.size) hsz
   rw [(countN_yes hr).1]
   rw [hr] at HR
   clear hr hs h hm hsz
   generalize (⟨(cat (fileL zn bn 0 (l.take (cnt zn bn)))).toArray⟩ : ByteArray) = Q at HL ⊢
   unfold lV at HR HL ⊢
   go_enter Tryz.func34, Tryz.ntmps34
   go_wp2_with fail
   generalize hww : w.alloc (.cells #[.int .i64 zn, .int .i64 bn, .string r] 35) = wa at HA HX ⊢
   clear hww
   refine (HR.out _).mono ?_
   rintro e w1 ⟨rfl, hb⟩
   have X1 := hideL (blkL HX.out hb)
   have B1 := hideL (lowL HA.out hb)
   clear hb HX HA
   obtain ⟨c0, c1, c2⟩ := cells3 X1.out
   go_wp2_with fail
   refine (HL.out _ B1.out).mono ?_
   rintro e w2 ⟨rfl, hb⟩
   have B2 := hideL (lowL B1.out hb)
   clear hb c0 c1 c2
   go_wp2_with fail
   go_ret
   exact ⟨rfl, B2.out⟩
end Go.Proofs.YtjdlgpnhkfdehaaGreatDoor.Ls


/- The laws' own copy of a row of texts. -/
namespace Go.Proofs.YtjdlgpnhkfdehaaGreatDoor.St
open Go.RowKit
set_option maxRecDepth 100000 in
set_option maxHeartbeats 1000000 in
theorem toStr_any (a : Option Addr) (cap : Nat) (l : List ByteArray) (w : World) (h : Strs w w.heap.size a l) (hn : l.length ≤ 1048576) :
    Calls Tryz.prog 52 #[.slice a l.length cap] w fun e w' => e = .returned (.slice (some ⟨w.heap.size, 0, none⟩) l.length l.length) ∧ IsS w' w.heap.size 9 l ∧ Below w.heap.size w w' := by
  obtain ⟨i0, hi, hz0, hz1, hz2⟩ := info_parts Tryz.infoS9
  have HS := hideT h
  clear h
  obtain ⟨n, hln⟩ : ∃ n, n = l.length := ⟨_, rfl⟩
  have HLN := hideT hln
  rw [← hln] at hn ⊢
  clear hln
  go_enter Tryz.func52, Tryz.ntmps52
  go_wp2_with (at_make; refine wpList_make_full _ rfl (.tmp 6) (.tmp 6) 30 rfl w.heap.size 9 i0 (.string ⟨#[]⟩) 1 Tryz.underlying30 hi hz0 hz1 .i64 .i64 _ _ n rfl rfl (by simp) (by simp) (by rw [hz2]; omega) (by unfold maxLen; omega) (Nat.le_refl _) ?_; intro w1 hown1 hgrow1; have HR := hideT (made_strs hown1); have HB := hideT ((Below.refl w.heap.size w).grown hgrow1 (Nat.le_refl _) (by simp)); clear hown1 hgrow1)
  go_loopw [4] (fun i wr => ∃ k : Nat, i = .int .i64 k ∧ k ≤ n ∧ IsS wr w.heap.size 9 (mid l k) ∧ Below w.heap.size w wr) (fun i _ => n - (intOf i).toNat)
  case atStart => exact ⟨0, rfl, by omega, by rw [mid_zero, ← HLN.out]; exact HR.out, HB.out⟩
  case round =>
    obtain ⟨k, rfl, hk, h1, hbel⟩ := hrel
    have G1 := hideT h1
    have GB := hideT hbel
    by_cases hlt : k < n
    · have hkl : k < l.length := by rw [← HLN.out]; exact hlt
      obtain ⟨b, off, rfl, hb, hc⟩ := (HS.out.below hbel).some (by omega)
      have ci := hc k hkl
      have HM := hideT (mid_next l k hkl)
      have cf := h1.frozen k
      have ce : ∃ v, wr.cell? ⟨w.heap.size, k, none⟩ = some (.string v) := ⟨_, h1.cell (j := k) (by rw [mid_length l k (by omega)]; exact hkl)⟩
      obtain ⟨v0, ce⟩ := ce
      obtain ⟨s, hs⟩ : ∃ s, s = l[k] := ⟨_, rfl⟩
      have HSE := hideT hs
      rw [← hs] at ci
      clear h1 hbel hc hs
      go_wp2_with fail
      go_roundw
      case rel => exact ⟨k + 1, by go_num, by omega, by rw [← HM.out, ← HSE.out]; exact G1.out.set k s, GB.out.setCell (Nat.le_refl _) _⟩
      case measure => simp [intOf]; omega
    · have HE : Hid (mid l k = l) := by
        unfold Hid
        rw [show k = l.length by have := HLN.out; omega]
        exact mid_all l
      clear h1 hbel
      go_wp2_with fail
      go_ret
      exact ⟨rfl, by rw [← HE.out]; exact G1.out, GB.out⟩
end Go.Proofs.YtjdlgpnhkfdehaaGreatDoor.St


/- The laws' own helpers on rows of texts: the budget of their sizes. -/
namespace Go.Proofs.YtjdlgpnhkfdehaaGreatDoor.St
open Go.RowKit
end Go.Proofs.YtjdlgpnhkfdehaaGreatDoor.St


/- The budget of sizes of a row of texts, where something is spent of it already. -/
namespace Go.Proofs.YtjdlgpnhkfdehaaGreatDoor.St
open Go.RowKit
set_option maxRecDepth 100000 in
set_option maxHeartbeats 1000000 in
/-- what is left of a budget: below 0, or each text and their number are within it -/
theorem szL_any (L : Nat) (hL : L ≤ 1048576) (a : Option Addr) (cap : Nat) (l : List ByteArray) (w : World) (h : Strs w w.heap.size a l) (hn : l.length ≤ maxLen) (hs : ∀ s ∈ l, s.size ≤ maxLen) :
  Calls Tryz.prog 50 #[.slice a l.length cap, .int .i64 (L : Nat)] w fun e w' => ∃ r : Int, e = .returned (.int .i64 r) ∧ (0 ≤ r → l.length ≤ 1048576 ∧ ∀ s ∈ l, s.size ≤ 1048576) ∧ w' = w := by
 have HS := hideT h
 have HZ := hideT hs
 clear h hs
 unfold maxLen at hn
 obtain ⟨n, hln⟩ : ∃ n, n = l.length := ⟨_, rfl⟩
 have HLN := hideT hln
 rw [← hln] at hn ⊢
 clear hln
 by_cases hbig : L < n
 ·have g1 : (L : Int) - n < 0 := by omega
  go_enter Tryz.func50, Tryz.ntmps50
  go_wp2_with fail
  go_ret
  exact ⟨-1, rfl, fun h => by omega, rfl⟩
 ·have g1 : ¬ (L : Int) - n < 0 := by omega
  go_enter Tryz.func50, Tryz.ntmps50
  go_wp2_with fail
  go_loopw [5, 1] (fun i v wr => ∃ (k : Nat) (r : Int), i = .int .i64 k ∧ v = .int .i64 r ∧ k ≤ n ∧ 0 ≤ r ∧ r ≤ 1048576 ∧ (∀ j (hj : j < l.length), j < k → l[j].size ≤ 1048576) ∧ wr = w) (fun i _ _ => n - (intOf i).toNat)
  case atStart => exact ⟨0, _, rfl, rfl, by omega, by omega, by omega, fun j hj h0 => by omega, rfl⟩
  case round =>
   obtain ⟨k, r, rfl, rfl, hk, r0, r1, hall, hw⟩ := hrel
   subst hw
   have HA := hideT hall
   clear hall
   by_cases hlt : k < n
   ·have hkl : k < l.length := by rw [← HLN.out]; exact hlt
    obtain ⟨b, off, rfl, hb, hc⟩ := HS.out.some (by omega)
    have ci := hc k hkl
    have hsz := HZ.out l[k] (List.getElem_mem hkl)
    obtain ⟨s, hs⟩ : ∃ s, s = l[k] := ⟨_, rfl⟩
    have HSE := hideT hs
    rw [← hs] at ci hsz
    unfold maxLen at hsz
    clear hc hs
    by_cases hneg : r - s.size < 0
    ·go_wp2_with fail
     go_ret
     exact ⟨-1, rfl, fun h => by omega, rfl⟩
    ·go_wp2_with fail
     go_roundw
     case rel =>
      refine ⟨k + 1, _, by go_num, rfl, by omega, by omega, by omega, fun j hj h0 => ?_, trivial⟩
      by_cases e : j = k
      ·subst e
       rw [← HSE.out]
       omega
      ·exact HA.out j hj (by omega)
     case measure => simp [intOf]; omega
   ·go_wp2_with fail
    go_ret
    refine ⟨r, rfl, fun _ => ⟨by have := HLN.out; omega, fun s hs => ?_⟩, rfl⟩
    obtain ⟨j, hj, rfl⟩ := List.getElem_of_mem hs
    exact HA.out j hj (by have := HLN.out; omega)
end Go.Proofs.YtjdlgpnhkfdehaaGreatDoor.St


/- A slice of texts that came in. -/
namespace Go.Proofs.YtjdlgpnhkfdehaaGreatDoor.St
open Go.RowKit
def IsStrs (w : World) (a : Option Addr) (len cap : Nat) (ss : List ByteArray) : Prop :=
 (a = none ∧ len = 0 ∧ cap = 0 ∧ ss = []) ∨
 ∃ x, a = some x ∧ len ≤ cap ∧ cap ≤ maxLen ∧ ss.length = cap ∧ (∀ i, i < ss.length → w.cell? (x.add i) = some (.string (ss.getD i ByteArray.empty))) ∧ ∀ s ∈ ss, s.size ≤ maxLen
theorem strs_of {w : World} {a : Option Addr} {len cap : Nat} {ss : List ByteArray} (h : IsStrs w a len cap ss) :
  ∃ l : List ByteArray, l.length = len ∧ Strs w w.heap.size a l ∧ len ≤ maxLen ∧ len ≤ cap ∧ ∀ s ∈ l, s.size ≤ maxLen := by
 rcases h with ⟨_, rfl, rfl, _⟩ | ⟨x, rfl, hlc, hm, hz, hc, hw⟩
 ·exact ⟨[], rfl, .inl rfl, by decide, Nat.le_refl _, fun s hs => by cases hs⟩
 ·refine ⟨ss.take len, by rw [List.length_take]; omega, ?_, by omega, hlc, fun s hs => hw s (List.mem_of_mem_take hs)⟩
  rcases Nat.eq_zero_or_pos len with h0 | h0
  ·subst h0
   exact .inl rfl
  ·obtain ⟨b, off, spot⟩ := x
   have hc0 := hc 0 (by omega)
   have hspot : spot = none := by simpa [Addr.add] using World.cell?_spot hc0
   subst hspot
   have e : ∀ i, (⟨b, off, none⟩ : Addr).add i = ⟨b, off + i, none⟩ := fun i => by unfold Addr.add; split <;> simp_all
   have hlt := World.block_lt_of_cell? w _ hc0
   rw [e 0] at hlt
   refine .inr ⟨b, off, rfl, hlt, fun j hj => ?_⟩
   rw [List.length_take] at hj
   have hj' : j < ss.length := by omega
   rw [← e j, hc j hj', List.getElem_take, List.getD_eq_getElem?_getD, List.getElem?_eq_getElem hj']
   rfl
end Go.Proofs.YtjdlgpnhkfdehaaGreatDoor.St


/- The walk of the law FnExactFileOf out of the contracts. -/
namespace Go.Proofs.YtjdlgpnhkfdehaaGreatDoor.fnExactFileOf
open Go.RowKit
open Go.Proofs.YtjdlgpnhkfdehaaGreatDoor.Ls
open Go.Proofs.YtjdlgpnhkfdehaaGreatDoor.St (Strs IsStrs strs_of toStr_any eq_any szL_any)
open Go.Proofs.YtjdlgpnhkfdehaaGreatDoor.Up (Glob glob_keep)
set_option maxRecDepth 100000 in
set_option maxHeartbeats 4000000 in
theorem walk_in (z b : Int) (r : ByteArray) (hr : r.size ≤ maxLen) (l : List ByteArray) (a : Option Addr) (cap : Nat) (w : World) (hs : Strs w w.heap.size a l) (hn : l.length ≤ maxLen) (hz : ∀ s ∈ l, s.size ≤ maxLen) (ga : Addr) (hG : Glob w (.iface 285 (.pointer (some ga)))) :
  Calls Tryz.prog 8 #[lV z b r, .slice a l.length cap] w fun e w' => e = .returned (.bool true) ∧ Below w.heap.size w w' := by
 have HS := hideL hs
 have HG := hideL hG
 have HA : Hid (Below w.heap.size w (w.alloc (.cells #[.int .i64 z, .int .i64 b, .string r] 60))) := (Below.refl _ _).alloc (Nat.le_refl _) _
 have HX : Hid ((w.alloc (.cells #[.int .i64 z, .int .i64 b, .string r] 60)).heap[w.heap.size]? = some (.cells #[.int .i64 z, .int .i64 b, .string r] 60 (0, 0))) := heap_alloc_new w _
 have HSZ := hideL (fun (L : Nat) (hL : L ≤ 1048576) (W : World) (hW : Below w.heap.size w W) => szL_any L hL a cap l W ((HS.out.below hW).mono hW.size) hn hz)
 have HTo := hideL (fun (W : World) (hW : Below w.heap.size w W) (h : l.length ≤ 1048576) => toStr_any a cap l W ((HS.out.below hW).mono hW.size) h)
 have HEq := hideL (fun (x y : Option Addr) (W : World) (B : Nat) (h : l.length ≤ 1048576) hx hy => eq_any x y l.length l.length l W B hx hy h)
 have HI := hideL (fun (x : Option Addr) (W : World) (h : l.length ≤ 1048576) hx (hsz : ∀ s ∈ l, s.size ≤ 1048576) hG => file_impl z b r l x l.length l.length ga W rfl h hx hsz hG)
 have HP := hideL (fun (x : Option Addr) (W : World) (h : l.length ≤ 1048576) hx (hsz : ∀ s ∈ l, s.size ≤ 1048576) => file_spec z b r l x l.length l.length W rfl h hx hsz)
 have HTL := hideL (fun W => to_any z b r W)
 have HSY := hideL (fun W (h : r.size ≤ 1048576) => sz_yes z b r W h)
 have HSN := hideL (fun W (h : 1048576 < r.size) => sz_no z b r W (by unfold maxLen at hr; exact hr) h)
 clear hs hG hz
 unfold maxLen at hn hr
 generalize l.length = m at hn HSZ HTo HEq HI HP ⊢
 obtain ⟨q, hq⟩ : ∃ q, q = fileV z b r l := ⟨_, rfl⟩
 rw [← hq] at HI HP
 clear hq
 unfold lV at HI HP HTL HSY HSN ⊢
 by_cases h2 : 1048576 < r.size
 ·go_enter Tryz.func8, Tryz.ntmps8
  go_wp2_with fail
  refine (HSN.out _ h2).mono ?_
  rintro e w1 ⟨rfl, hb⟩
  have B1 := hideL (lowL HA.out hb)
  clear hb
  go_wp2_with fail
  go_ret
  exact ⟨rfl, B1.out⟩
 ·obtain ⟨L, hL⟩ : ∃ L : Nat, (L : Int) = 1048576 - (r.size : Int) := ⟨1048576 - r.size, by omega⟩
  have hL1 : L ≤ 1048576 := by omega
  rw [← hL] at HSY
  clear hL
  go_enter Tryz.func8, Tryz.ntmps8
  go_wp2_with fail
  generalize hww : w.alloc (.cells #[.int .i64 z, .int .i64 b, .string r] 60) = wa at HA HX ⊢
  generalize w.heap.size = gx at HX ⊢
  clear hww
  refine (HSY.out _ (by omega)).mono ?_
  rintro e w1 ⟨rfl, hb⟩
  have X1 := hideL (blkL HX.out hb)
  have B1 := hideL (lowL HA.out hb)
  clear hb HX HA
  have hLn : ¬ ((L : Nat) : Int) < 0 := by omega
  have hLd : decide (((L : Nat) : Int) < 0) = false := by simp
  go_wp2_with fail
  refine (HSZ.out L hL1 _ B1.out).mono ?_
  rintro e w2 ⟨rr, rfl, hrr, hw⟩
  subst w2
  by_cases hneg : rr < 0
  ·go_wp2_with fail
   go_ret
   exact ⟨rfl, B1.out⟩
  ·have HN := hideL (hrr (by omega)).1
   have HZS := hideL (hrr (by omega)).2
   have hnd : decide (rr < 0) = false := by simp; omega
   clear hrr
   obtain ⟨c0, c1, c2⟩ := cells3 X1.out
   go_wp2_with fail
   refine (HTL.out _).mono ?_
   rintro e w2 ⟨rfl, hb⟩
   have X2 := hideL (blkL X1.out hb)
   have B2 := hideL (lowL B1.out hb)
   clear hb X1 B1 c0 c1 c2
   go_wp2_with fail
   refine (HTo.out w2 B2.out HN.out).mono ?_
   rintro e w3 ⟨rfl, hi, hb⟩
   have S3 := hideL (hi.strs hi.lt)
   have X3 := hideL (blkL X2.out hb)
   have B3 := hideL (lowL B2.out hb)
   clear hi hb X2 B2
   go_wp2_with fail
   refine (HP.out (some ⟨w2.heap.size, 0, none⟩) w3 HN.out S3.out HZS.out).mono ?_
   rintro e w4 ⟨rfl, hb⟩
   have X4 := hideL (blkL X3.out hb)
   have B4 := hideL (lowL B3.out hb)
   clear hb X3 B3 S3
   go_wp2_with fail
   refine (HTo.out w4 B4.out HN.out).mono ?_
   rintro e w5 ⟨rfl, hi, hb⟩
   have I5 := hideL hi
   have X5 := hideL (blkL X4.out hb)
   have B5 := hideL (lowL B4.out hb)
   clear hi hb X4 B4
   obtain ⟨c0, c1, c2⟩ := cells3 X5.out
   go_wp2_with fail
   refine (HTL.out _).mono ?_
   rintro e w6 ⟨rfl, hb⟩
   have I6 := hideL (I5.out.below hb I5.out.lt)
   have B6 := hideL (lowL B5.out hb)
   clear hb X5 B5 I5 c0 c1 c2
   go_wp2_with fail
   refine (HI.out (some ⟨w4.heap.size, 0, none⟩) w6 HN.out (I6.out.strs I6.out.lt) HZS.out (glob_keep HG.out B6.out)).mono ?_
   rintro e w7 ⟨rfl, hb⟩
   have I7 := hideL (I6.out.below hb I6.out.lt)
   have B7 := hideL (lowL B6.out hb)
   clear hb B6 I6
   go_wp2_with fail
   refine (HTo.out w7 B7.out HN.out).mono ?_
   rintro e w8 ⟨rfl, hi, hb⟩
   have I8 := hideL (I7.out.below hb I7.out.lt)
   have J8 := hideL hi
   have B8 := hideL (lowL B7.out hb)
   clear hi hb B7 I7
   go_wp2_with fail
   refine (HEq.out (some ⟨w4.heap.size, 0, none⟩) (some ⟨w7.heap.size, 0, none⟩) w8 w8.heap.size HN.out (I8.out.strs I8.out.lt) (J8.out.strs J8.out.lt)).mono ?_
   rintro e w9 ⟨rfl, hb⟩
   have B9 := hideL (lowL B8.out hb)
   clear hb
   go_wp2_with fail
   go_ret
   exact ⟨rfl, B9.out⟩
theorem walk (z b : Int) (r : ByteArray) (_ : (Lit.int .i64 z).wf = true) (_ : (Lit.int .i64 b).wf = true) (hr : r.size ≤ maxLen) (a0 : Option Addr) (len0 cap0 : Nat) (z0 : List ByteArray) {w : World} (w0 : IsStrs w a0 len0 cap0 z0) (ga : Addr) (hG : Glob w (.iface 285 (.pointer (some ga)))) :
  Calls Tryz.prog 8 #[lV z b r, .slice a0 len0 cap0] w fun e w' => e = .returned (.bool true) ∧ Below w.heap.size w w' := by
 obtain ⟨l, rfl, hs, hm, _, hz⟩ := strs_of w0
 exact walk_in z b r hr l a0 cap0 w hs hm hz ga hG
end Go.Proofs.YtjdlgpnhkfdehaaGreatDoor.fnExactFileOf

