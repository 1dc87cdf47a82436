/- Texts put together: UnRead, UnIs, UnImpl, UnShortP. -/
import Derived.Test.YtjdlgpnhkfdehaaGreatDoorBu35
import Derived.Test.YtjdlgpnhkfdehaaGreatDoorBu34
import Derived.Test.YtjdlgpnhkfdehaaGreatDoorBu24
import Derived.Test.YtjdlgpnhkfdehaaGreatDoorBu41
import Derived.Test.YtjdlgpnhkfdehaaGreatDoorBu40
import Derived.Test.YtjdlgpnhkfdehaaGreatDoorBu39
/- What impl's readBlock hands back, given what readShort does. -/
namespace Go.Proofs.YtjdlgpnhkfdehaaGreatDoor.Up
open Go.Proofs.YtjdlgpnhkfdehaaGreatDoor.Pk
open Go.RowKit
open Go.Proofs.YtjdlgpnhkfdehaaGreatDoor.Sh (bt)
def cutR : Go.Shelf.Ren := ⟨fun | 206 => 167 | n => n, fun | 9 => 9 | 4 => 4 | 3 => 3 | n => n, fun | n => n⟩
theorem cutL : Go.Proofs.Lays.n206 Tryz.prog cutR := {
  mixed := by kernel_rfl
  f206 := Tryz.func167.trans (congrArg some (by kernel_rfl))
  t3 := Tryz.underlying3
  a3 := Tryz.isAgg3
  z3 := Tryz.sizeOf3
  v3 := Tryz.zeroValue3
  t4 := Tryz.underlying4
  a4 := Tryz.isAgg4
  z4 := Tryz.sizeOf4
  v4 := Tryz.zeroValue4
  t9 := Tryz.underlying9
  a9 := Tryz.isAgg9
  z9 := Tryz.sizeOf9
  v9 := Tryz.zeroValue9 }
theorem has_one (t : ByteArray) (k : UInt8) : Lib.hasPrefix t.data.toList [k] = decide (0 < t.size ∧ bt t 0 = k.toNat) := by
  have hz : t.size = t.data.toList.length := by rw [Array.length_toList]; rfl
  have hb : bt t 0 = (t.data.toList.getD 0 0).toNat := by
    unfold Sh.bt
    simp
  rw [hz, hb]
  cases t.data.toList with
  | nil => simp [Lib.hasPrefix]
  | cons x l =>
    have e : Lib.hasPrefix (x :: l) [k] = (k == x) := by
      show [k].isPrefixOf (x :: l) = _
      simp [List.isPrefixOf]
    rw [e]
    by_cases h : k = x
    · subst h
      simp
    · have h2 : ¬ x.toNat = k.toNat := fun q => h (UInt8.toNat_inj.1 q).symm
      rw [beq_eq_false_iff_ne.2 h, decide_eq_false]
      exact fun q => h2 q.2
theorem size_ext (t : ByteArray) : (t.extract 1 t.size).size ≤ t.size := by
  rw [ByteArray.size_extract]
  omega
set_option maxRecDepth 100000 in
theorem cutLite_any (t : ByteArray) (k : UInt8) (w : World) (ht : t.size ≤ 1048576) :
    Calls Tryz.prog 166 #[.string t, .string ⟨#[k]⟩] w fun e w' => ((0 < t.size ∧ bt t 0 = k.toNat) ∧ e = .returned (.tuple #[.string (t.extract 1 t.size), .bool true]) ∨ ¬ (0 < t.size ∧ bt t 0 = k.toNat) ∧ e = .returned (.tuple #[.string t, .bool false])) ∧ w' = w := by
  have HP := hideP (Any.stringslite_HasPrefix cutL t ⟨#[k]⟩ w)
  have HO := hideP (has_one t k)
  by_cases h : 0 < t.size ∧ bt t 0 = k.toNat
  · rw [show (⟨#[k]⟩ : ByteArray).data.toList = [k] from rfl, HO.out, decide_eq_true h] at HP
    have h1 : (1 : Int) ≤ (t.size : Int) := by omega
    go_enter Tryz.func166, Tryz.ntmps166
    go_wp2_with fail
    refine HP.out.mono ?_
    rintro e w' ⟨rfl, rfl⟩
    have hk : (⟨#[k]⟩ : ByteArray).size = 1 := rfl
    go_wp2_with fail
    go_ret2
    exact ⟨.inl ⟨h, rfl⟩, rfl⟩
  · rw [show (⟨#[k]⟩ : ByteArray).data.toList = [k] from rfl, HO.out, decide_eq_false h] at HP
    go_enter Tryz.func166, Tryz.ntmps166
    go_wp2_with fail
    refine HP.out.mono ?_
    rintro e w' ⟨rfl, rfl⟩
    go_wp2_with fail
    go_ret2
    exact ⟨.inr ⟨h, rfl⟩, rfl⟩
theorem cut_any (t : ByteArray) (k : UInt8) (w : World) (ht : t.size ≤ 1048576) :
    Calls Tryz.prog 118 #[.string t, .string ⟨#[k]⟩] w fun e w' => ((0 < t.size ∧ bt t 0 = k.toNat) ∧ e = .returned (.tuple #[.string (t.extract 1 t.size), .bool true]) ∨ ¬ (0 < t.size ∧ bt t 0 = k.toNat) ∧ e = .returned (.tuple #[.string t, .bool false])) ∧ w' = w := by
  go_enter Tryz.func118, Tryz.ntmps118
  go_wp2_with fail
  refine (cutLite_any t k w ht).mono ?_
  rintro e w' ⟨⟨h, rfl⟩ | ⟨h, rfl⟩, rfl⟩
  · go_wp2_with fail
    go_ret2
    exact ⟨.inl ⟨h, rfl⟩, rfl⟩
  · go_wp2_with fail
    go_ret2
    exact ⟨.inr ⟨h, rfl⟩, rfl⟩
theorem has_any (t : ByteArray) (k : UInt8) (w : World) :
    Calls Tryz.prog 119 #[.string t, .string ⟨#[k]⟩] w fun e w' => e = .returned (.bool (decide (0 < t.size ∧ bt t 0 = k.toNat))) ∧ w' = w := by
  have := Bi.prefix_any t ⟨#[k]⟩ w
  rw [show (⟨#[k]⟩ : ByteArray).data.toList = [k] from rfl, has_one t k] at this
  exact this
set_option maxRecDepth 100000 in
set_option maxHeartbeats 1000000 in
theorem read_block (ev : Value) (HS : Hid (∀ (s : ByteArray) (w : World), Glob w ev → 1 ≤ s.size → s.size ≤ 8000 → Calls Tryz.prog 120 #[.string s] w fun e w' => (∃ r v, e = .returned (.tuple #[.string r, v]) ∧ (v = .nilIface ∨ v = ev) ∧ r.size ≤ 8000 ∧ ∀ b, Good s b → r = b ∧ v = .nilIface) ∧ Below w.heap.size w w'))
    (t : ByteArray) (w : World) (ht : t.size ≤ 8000) (hg : Glob w ev) :
    Calls Tryz.prog 64 #[.string t] w fun e w' => (∃ r v, e = .returned (.tuple #[.string r, v]) ∧ (v = .nilIface ∨ v = ev) ∧ r.size ≤ 8000 ∧ ∀ b : ByteArray, b.size ≤ 48 → innerV b = t → r = b ∧ v = .nilIface) ∧ Below w.heap.size w w' := by
  have HG := hideP hg
  have g0 : w.cell? ⟨0, 0, none⟩ = some ev := hg.2
  clear hg
  go_enter Tryz.func64, Tryz.ntmps64
  go_wp2_with fail
  refine (cut_any t 0 w (by omega)).mono ?_
  rintro e w' ⟨⟨h, rfl⟩ | ⟨h, rfl⟩, rfl⟩
  · go_wp2_with fail
    go_ret2
    refine ⟨⟨_, _, rfl, .inl rfl, by have := size_ext t; omega, fun b h1 h2 => ?_⟩, Below.refl _ _⟩
    rcases inner_case h1 h2 with k | k
    · have q1 := k.2.2
      have q2 : bt t 0 = 0 := h.2
      omega
    · exact ⟨k.2.2.2, rfl⟩
  · have H0 := hideP h
    clear h
    go_wp2_with fail
    refine (has_any t 1 _).mono ?_
    rintro e w2 ⟨rfl, rfl⟩
    by_cases h1 : 0 < t.size ∧ bt t 0 = (1 : UInt8).toNat
    · rw [decide_eq_true h1]
      have H1 := hideP h1
      clear h1
      go_wp2_with fail
      refine (HS.out t _ HG.out (by have := H1.out.1; omega) ht).mono ?_
      rintro e w3 ⟨⟨r, v, rfl, hv, hrz, hr⟩, hb⟩
      have HV := hideP hv
      have HR := hideP hr
      have HB := hideP hb
      clear hv hr hb
      go_wp2_with fail
      go_ret2
      refine ⟨⟨_, _, rfl, HV.out, hrz, fun b h1 h2 => ?_⟩, HB.out⟩
      rcases inner_case h1 h2 with k | k
      · exact HR.out b k.1
      · exact absurd ⟨k.2.1, k.2.2.1⟩ H0.out
    · rw [decide_eq_false h1]
      have H1 := hideP h1
      clear h1
      go_wp2_with fail
      go_quiet (fail)
      go_wp2_with fail
      go_ret2
      refine ⟨⟨_, _, rfl, .inr rfl, by decide, fun b h1 h2 => ?_⟩, below_drewN (Below.refl _ _) _⟩
      rcases inner_case h1 h2 with k | k
      · exact absurd ⟨k.2.1, k.2.2⟩ H1.out
      · exact absurd ⟨k.2.1, k.2.2.1⟩ H0.out
end Go.Proofs.YtjdlgpnhkfdehaaGreatDoor.Up


/- errors.Is of no error. -/
namespace Go.Proofs.YtjdlgpnhkfdehaaGreatDoor.Up
open Go.Proofs.YtjdlgpnhkfdehaaGreatDoor.Pk
open Go.RowKit
theorem eq_nil (tid : TypeId) (pv : Value) (u : World) : Sem.run Tryz.prog (binOp BinOp.eql 72 .nilIface (.iface tid pv)) u = .ok (.bool false) u := by kernel_rfl
set_option maxRecDepth 100000 in
theorem is_nil (tid : TypeId) (pv : Value) (w : World) :
    Calls Tryz.prog 65 #[.nilIface, .iface tid pv] w fun e w' => e = .returned (.bool false) ∧ w' = w := by
  have heq := eq_nil tid pv
  go_enter Tryz.func65, Tryz.ntmps65
  go_wp2
  go_ret
  exact ⟨rfl, rfl⟩
end Go.Proofs.YtjdlgpnhkfdehaaGreatDoor.Up


/- What impl's BlockUnpack answers, given what readShort does and that errors.Is knows the error itself. -/
namespace Go.Proofs.YtjdlgpnhkfdehaaGreatDoor.Up
open Go.Proofs.YtjdlgpnhkfdehaaGreatDoor.Pk
open Go.RowKit
open Go.Proofs.YtjdlgpnhkfdehaaGreatDoor.Se (sealV unsealV outV unseal_impl)
def ShortOk (ev : Value) : Prop := ∀ (s : ByteArray) (w : World), Glob w ev → 1 ≤ s.size → s.size ≤ 8000 → Calls Tryz.prog 120 #[.string s] w fun e w' => (∃ r v, e = .returned (.tuple #[.string r, v]) ∧ (v = .nilIface ∨ v = ev) ∧ r.size ≤ 8000 ∧ ∀ b, Good s b → r = b ∧ v = .nilIface) ∧ Below w.heap.size w w'
def IsOk (ev : Value) : Prop := ∀ w : World, Calls Tryz.prog 65 #[ev, ev] w fun e w' => e = .returned (.bool true) ∧ Below w.heap.size w w'
set_option maxRecDepth 100000 in
set_option maxHeartbeats 4000000 in
theorem unpack_impl (tid : TypeId) (pv : Value) (HS : Hid (ShortOk (.iface tid pv))) (HI : Hid (IsOk (.iface tid pv))) (s : ByteArray) (w : World) (hs : s.size ≤ 1048576) (hgl : Glob w (.iface tid pv)) :
    Calls Tryz.prog 12 #[.string s] w fun e w' => e = .returned (ansU s) ∧ Below w.heap.size w w' := by
  obtain ⟨g, hg⟩ : ∃ g, g = w.heap.size := ⟨_, rfl⟩
  have HBE := hideP hg.symm
  have HR0 : Hid ((w.alloc (.cells #[.string ⟨#[]⟩, .int .i64 0, .int .i64 0] 26)).heap[g]? = some (.cells #[.string ⟨#[]⟩, .int .i64 0, .int .i64 0] 26 (0, 0))) := by rw [hg]; exact heap_alloc_new w _
  have HL0 : Hid (Below g w (w.alloc (.cells #[.string ⟨#[]⟩, .int .i64 0, .int .i64 0] 26))) := by rw [hg]; exact (Below.refl _ _).alloc (Nat.le_refl _) _
  have HG0 : Hid (Glob (w.alloc (.cells #[.string ⟨#[]⟩, .int .i64 0, .int .i64 0] 26)) (.iface tid pv)) := glob_keep hgl ((Below.refl _ _).alloc (Nat.le_refl _) _)
  clear hgl
  rcases unseal_case s with ⟨t, hu, hse, htz, h4⟩ | ⟨c, hc0, hu⟩
  · have HU := hideP hu
    have HSE := hideP hse
    have HAN := hideP (ansU_yes hu)
    clear hu hse
    go_enter Tryz.func12, Tryz.ntmps12
    go_wp2_with fail
    rw [← hg]
    generalize hww : w.alloc (.cells #[.string ⟨#[]⟩, .int .i64 0, .int .i64 0] 26) = w0 at HR0 HL0 HG0 ⊢
    clear hww hg
    refine (unseal_impl s _ (by unfold maxLen; omega)).mono ?_
    rintro e w1 ⟨rfl, hb1⟩
    have R1 := hideP (blk_low HR0.out hb1)
    have L1 := hideP (low2 HBE.out HL0.out hb1)
    have G1 := hideP (glob_keep HG0.out hb1)
    clear hb1 HR0 HL0 HG0
    rw [HU.out]
    unfold outV
    go_wp2_with fail
    have Rwx : Hid ((w1.alloc (.cells #[.string t, .int .i64 0, .int .i64 0] 26)).heap[g]? = some (.cells #[.string ⟨#[]⟩, .int .i64 0, .int .i64 0] 26 (0, 0))) := blk_low R1.out ((Below.refl _ _).alloc (Nat.le_refl _) _)
    have Lwx : Hid (Below g w (w1.alloc (.cells #[.string t, .int .i64 0, .int .i64 0] 26))) := low2 HBE.out L1.out ((Below.refl _ _).alloc (Nat.le_refl _) _)
    have Gwx : Hid (Glob (w1.alloc (.cells #[.string t, .int .i64 0, .int .i64 0] 26)) (.iface tid pv)) := glob_keep G1.out ((Below.refl _ _).alloc (Nat.le_refl _) _)
    generalize hww : w1.alloc (.cells #[.string t, .int .i64 0, .int .i64 0] 26) = wx at Rwx Lwx Gwx ⊢
    clear hww R1 L1 G1
    refine (read_block (.iface tid pv) HS t wx (by omega) Gwx.out).mono ?_
    rintro e w2 ⟨⟨r, v, rfl, hv, hrz, hr⟩, hb2⟩
    have R2 := hideP (blk_low Rwx.out hb2)
    have L2 := hideP (low2 HBE.out Lwx.out hb2)
    have G2 := hideP (glob_keep Gwx.out hb2)
    have HR := hideP hr
    have g2 := G2.out.2
    clear hb2 hr Rwx Lwx Gwx
    rcases hv with rfl | rfl
    · go_wp2_with fail
      refine (is_nil tid pv w2).mono ?_
      rintro e w3 ⟨rfl, rfl⟩
      go_wp2_with fail
      refine (pack_impl r _ (by omega)).mono ?_
      rintro e wp ⟨rfl, hbp⟩
      have Rwp := hideP (blk_low R2.out hbp)
      have Lwp := hideP (low2 HBE.out L2.out hbp)
      clear hbp g2 G2 R2 L2
      obtain ⟨kb, hkb⟩ : ∃ x, x = packB r := ⟨_, rfl⟩
      obtain ⟨ha1, ha2⟩ := ansT_read HSE.out htz h4 (r := r) (fun b h1 h2 => (HR.out b h1 h2).1)
      rw [← hkb] at ha1 ha2 ⊢
      clear hkb
      by_cases hk : kb = s
      · have HQ := hideP (ha1 hk)
        subst hk
        obtain ⟨cc0, cc1, cc2⟩ := three Rwp.out
        have ff := fun o => frozen_of_row wp g o _ _ Rwp.out
        have s3 := set3_cells Rwp.out (.string r) (.int .i64 0) (.int .i64 0)
        go_wp2_with fail
        refine bodyPost_ret (v := outV r 0 0) (by simp [results, outV, Tryz.results12, go_sem, s3.1, s3.2.1, s3.2.2]) rfl ⟨?_, ?_⟩
        · rw [HAN.out, HQ.out]
        · rw [HBE.out]
          exact set3_low Lwp.out _ _ _
      · have HQ := hideP (ha2 hk)
        have hkl : (kb.toList == s.toList) = false := by rw [list_eqP]; exact decide_eq_false hk
        obtain ⟨cc0, cc1, cc2⟩ := three Rwp.out
        have ff := fun o => frozen_of_row wp g o _ _ Rwp.out
        have s3 := set3_cells Rwp.out (.string ⟨#[]⟩) (.int .i64 0) (.int .i64 3)
        go_wp2_with fail
        refine bodyPost_ret (v := outV ⟨#[]⟩ 0 3) (by simp [results, outV, Tryz.results12, go_sem, s3.1, s3.2.1, s3.2.2]) rfl ⟨?_, ?_⟩
        · rw [HAN.out, HQ.out]
        · rw [HBE.out]
          exact set3_low Lwp.out _ _ _
    · have HQ := hideP (ansT_none (t := t) fun b h1 h2 => by have := (HR.out b h1 h2).2; cases this)
      go_wp2_with fail
      refine (HI.out w2).mono ?_
      rintro e wp ⟨rfl, hbp⟩
      have Rwp := hideP (blk_low R2.out hbp)
      have Lwp := hideP (low2 HBE.out L2.out hbp)
      clear hbp g2 G2 R2 L2
      obtain ⟨cc0, cc1, cc2⟩ := three Rwp.out
      have ff := fun o => frozen_of_row wp g o _ _ Rwp.out
      have s3 := set3_cells Rwp.out (.string ⟨#[]⟩) (.int .i64 0) (.int .i64 3)
      go_wp2_with fail
      refine bodyPost_ret (v := outV ⟨#[]⟩ 0 3) (by simp [results, outV, Tryz.results12, go_sem, s3.1, s3.2.1, s3.2.2]) rfl ⟨?_, ?_⟩
      · rw [HAN.out, HQ.out]
      · rw [HBE.out]
        exact set3_low Lwp.out _ _ _
  · have HAN := hideP (ansU_no hc0 hu)
    have HU := hideP hu
    have hc' : (c != 0) = true := by simp; exact hc0
    clear hu hc0
    go_enter Tryz.func12, Tryz.ntmps12
    go_wp2_with fail
    rw [← hg]
    generalize hww : w.alloc (.cells #[.string ⟨#[]⟩, .int .i64 0, .int .i64 0] 26) = w0 at HR0 HL0 HG0 ⊢
    clear hww hg
    refine (unseal_impl s _ (by unfold maxLen; omega)).mono ?_
    rintro e w1 ⟨rfl, hb1⟩
    have R1 := hideP (blk_low HR0.out hb1)
    have L1 := hideP (low2 HBE.out HL0.out hb1)
    clear hb1 HR0 HL0 HG0
    rw [HU.out]
    unfold outV
    obtain ⟨cc0, cc1, cc2⟩ := three R1.out
    have ff := fun o => frozen_of_row w1 g o _ _ R1.out
    have s3 := fun o => set3_alloc R1.out (.string ⟨#[]⟩) (.int .i64 0) (.int .i64 c) o
    have HGW : Hid (g < w1.heap.size) := (Array.getElem?_eq_some_iff.1 R1.out).1
    have hgw := HGW.out
    go_wp2_with fail
    refine bodyPost_ret (v := outV ⟨#[]⟩ 0 c) (by simp [results, outV, Tryz.results12, go_sem, (s3 _).1, (s3 _).2.1, (s3 _).2.2]) rfl ⟨?_, ?_⟩
    · rw [HAN.out]
    · rw [HBE.out]
      exact set3_lowA HBE.out L1.out _ _ _ _
end Go.Proofs.YtjdlgpnhkfdehaaGreatDoor.Up


/- Plain facts for impl's readShort. -/
namespace Go.Proofs.YtjdlgpnhkfdehaaGreatDoor.Up
open Go.Proofs.YtjdlgpnhkfdehaaGreatDoor.Pk
open Go.RowKit
open Go.Proofs.YtjdlgpnhkfdehaaGreatDoor.Gn (rd run numR)
open Go.Proofs.YtjdlgpnhkfdehaaGreatDoor.Hf (up up_length up_set)
open Go.Proofs.YtjdlgpnhkfdehaaGreatDoor.Bi (above)
theorem run_on (s : ByteArray) : ∀ f k p u, (run s f k p u).2.2 = 0 → p < (run s f k p u).2.1 := by
  intro f
  induction f with
  | zero => intro k p u h; exact absurd (show (3 : Int) = 0 from h) (by decide)
  | succ f ih =>
    intro k p u h
    rw [run] at h ⊢
    split at h
    · exact absurd h (by decide)
    · rename_i h1
      rw [if_neg h1]
      split at h
      · exact absurd h (by decide)
      · rename_i h2
        rw [if_neg h2]
        split at h
        · rename_i h3
          rw [if_pos h3]
          split at h
          · exact absurd h (by decide)
          · rename_i h4
            rw [if_neg h4]
            show p < p + 1
            omega
        · rename_i h3
          rw [if_neg h3]
          have := ih _ _ _ h
          omega
theorem rd_on {s : ByteArray} {a : Nat} (h : (rd s (a : Int)).2.2 = 0) : a < (rd s (a : Int)).2.1 := by
  unfold rd at h ⊢
  split at h
  · exact absurd h (by decide)
  · rename_i h1
    rw [if_neg h1]
    split at h
    · exact absurd h (by decide)
    · rename_i h2
      rw [if_neg h2]
      exact run_on s _ _ _ _ h
def RdI (t : ByteArray) (k : Nat) (p : Nat) : Prop := p ≤ t.size ∧ ∀ b, Good t b → p = posK b k
theorem rdI_step {t : ByteArray} {k p : Nat} (h : RdI t k p) (hk : ∀ b, Good t b → k < (numsAll b).length) :
    ((rd t (p : Int)).2.2 = 0 → RdI t (k + 1) (rd t (p : Int)).2.1 ∧ ∀ b, Good t b → (numsAll b)[k]? = some (rd t (p : Int)).1) ∧ (¬ (rd t (p : Int)).2.2 = 0 → ∀ b, ¬ Good t b) := by
  have key : ∀ b, Good t b → ∃ v, (numsAll b)[k]? = some v ∧ rd t (p : Int) = (v, posK b (k + 1), 0) := by
    intro b hb
    have hl := hk b hb
    have := rd_good hb k hl
    rw [← h.2 b hb] at this
    exact ⟨_, List.getElem?_eq_getElem hl, this⟩
  refine ⟨fun _ => ⟨⟨rd_end t _, fun b hb => ?_⟩, fun b hb => ?_⟩, fun hn b hb => ?_⟩
  · obtain ⟨v, _, e⟩ := key b hb
    rw [e]
  · obtain ⟨v, h1, e⟩ := key b hb
    rw [e]
    exact h1
  · obtain ⟨v, _, e⟩ := key b hb
    exact hn (by rw [e])
theorem rdI_first {t : ByteArray} (h : 1 ≤ t.size) : RdI t 0 1 := ⟨h, fun b _ => by unfold posK; simp [numsL]⟩
theorem four_le (b : ByteArray) (k : Nat) (h : k < 4) : k < (numsAll b).length := by rw [numsAll_len]; omega
end Go.Proofs.YtjdlgpnhkfdehaaGreatDoor.Up

