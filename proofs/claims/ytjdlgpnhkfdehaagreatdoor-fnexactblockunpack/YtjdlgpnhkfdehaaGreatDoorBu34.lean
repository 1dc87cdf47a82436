/- Texts put together: BackWalks, UnBack, UnLaid, UnsealWalks. -/
import Derived.Test.YtjdlgpnhkfdehaaGreatDoorBu31
import Derived.Test.YtjdlgpnhkfdehaaGreatDoorBu21
import Derived.Test.YtjdlgpnhkfdehaaGreatDoorBu25
import Derived.Test.YtjdlgpnhkfdehaaGreatDoorBu33
import Derived.Deep.QuietTactic
import Derived.BigQuiet
import Derived.Test.YtjdlgpnhkfdehaaGreatDoorRows
import Derived.OpenShut
import Derived.MakeChecks
import Derived.LaidLaws
import Derived.LaidHandle
import Derived.RowKitTokens
import Derived.Test.YtjdlgpnhkfdehaaGreatDoorBu15
import Derived.Test.YtjdlgpnhkfdehaaGreatDoorBu20
import Derived.Deep.RegionWith
/- What the program's ZerosBack answers. -/
namespace Go.Proofs.YtjdlgpnhkfdehaaGreatDoor.Ze
open Go.RowKit
open Go.Proofs.YtjdlgpnhkfdehaaGreatDoor.Bi (upTo_impl)
open Go.Proofs.YtjdlgpnhkfdehaaGreatDoor.In (Ints OwnI IsO one_newI one_cellI app_one)
open Go.Proofs.YtjdlgpnhkfdehaaGreatDoor.In.Tryz (infoI2)
theorem OwnI.zeros {w : World} {base : Nat} {v : Value} {l : List Int} {m : Nat} (h : w.ownsRow base 2 1 v (l.length + m) (l.map (Value.int .i64) ++ List.replicate m (.int .i64 0))) : OwnI w base v (l ++ List.replicate m 0) := by
  unfold OwnI
  rw [List.length_append, List.map_append, List.length_replicate, List.map_replicate]
  exact h
set_option maxRecDepth 100000 in
set_option maxHeartbeats 1000000 in
theorem zerosBack_impl (l : List Int) (a : Option Addr) (cap B : Nat) (w : World) (hi : Ints w B a l) (hB : B ≤ w.heap.size) (hn : l.length ≤ 1048576) :
    Calls Tryz.prog 216 #[.slice a l.length cap] w fun e w' => ∃ v, e = .returned v ∧ OwnI w' w.heap.size v (backR l) ∧ Below w.heap.size w w' := by
  obtain ⟨i0, hi0, hz0, hz1, hz2⟩ := info_parts infoI2
  by_cases hlong : 400 < l.length
  · rw [backR_no (numsR_long hlong)]
    clear hi
    generalize l.length = n at hlong hn ⊢
    go_enter Tryz.func216, Tryz.ntmps216
    go_wp2_with fail
    go_ret
    exact ⟨_, rfl, OwnI.nil _ _, Below.refl _ _⟩
  · have HU := hideZ (upTo_impl l 256 a cap B w hi hn)
    cases hu : upTo l 256 with
    | false =>
      rw [backR_no ((numsR_of (by omega)).trans hu)]
      rw [hu] at HU
      clear hi hu
      generalize l.length = n at HU hlong hn ⊢
      have hd : decide (400 < (n : Int)) = false := decide_eq_false (by omega)
      go_enter Tryz.func216, Tryz.ntmps216
      go_wp2_with fail
      refine HU.out.mono ?_
      rintro e w' ⟨rfl, hw⟩
      subst w'
      go_wp2_with fail
      go_ret
      exact ⟨_, rfl, OwnI.nil _ _, Below.refl _ _⟩
    | true =>
      have HNR := hideZ ((numsR_of (by omega)).trans hu)
      have HUP := hideZ (upTo_yes hu)
      rw [hu] at HU
      have HS := hideZ (hi.mono hB)
      clear hi hu
      obtain ⟨n, hln⟩ : ∃ n, n = l.length := ⟨_, rfl⟩
      have HLN := hideZ hln
      rw [← hln] at HU hlong ⊢
      clear hln hn
      have hd : decide (400 < (n : Int)) = false := decide_eq_false (by omega)
      go_enter Tryz.func216, Tryz.ntmps216
      go_wp2_with fail
      refine HU.out.mono ?_
      rintro e w' ⟨rfl, hw⟩
      subst w'
      go_wp2_with fail
      go_loopw [17, 3, 4] (fun i u m wr => ∃ k q : Nat, i = .int .i64 k ∧ m = .int .i64 q ∧ k ≤ n ∧ q = (bst (l.take k)).2 ∧ (bst (l.take k)).1.length ≤ 400 ∧ OwnI wr w.heap.size u (bst (l.take k)).1 ∧ Below w.heap.size w wr) (fun i _ _ _ => n - (intOf i).toNat)
      case atStart => exact ⟨0, 1, rfl, rfl, Nat.zero_le _, rfl, by simp [bst], OwnI.nil _ _, Below.refl _ _⟩
      case round =>
        obtain ⟨k, q, rfl, rfl, hk, hq, h400, hown, hbel⟩ := hrel
        have hwo := (bst_worth l k (by have := HLN.out; omega)).2
        rw [← hq] at hwo
        have hq4 : q ≤ 401 := by omega
        have GB := hideZ hbel
        have HQ := hideZ hq
        have hsz := hbel.size
        obtain ⟨a', cap', rfl, _, _⟩ := hown.ints
        obtain ⟨lk, hlk⟩ : ∃ lk, lk = (bst (l.take k)).1 := ⟨_, rfl⟩
        rw [← hlk] at hown h400 ⊢
        have G1 := hideZ hown
        have HLK := hideZ hlk
        clear hq hown hbel hlk hwo
        by_cases hlt : k < n
        · have hkl : k < l.length := by rw [← HLN.out]; exact hlt
          obtain ⟨b, off, rfl, hb, hc⟩ := (HS.out.below GB.out).some (by omega)
          have ci := hc k hkl
          have hx256 := HUP.out _ (List.getElem_mem hkl)
          obtain ⟨x, hx⟩ : ∃ x, x = l[k] := ⟨_, rfl⟩
          have HX := hideZ hx
          rw [← hx] at ci hx256
          clear hc hx
          by_cases h0 : 1 < x
          · have HZ1 : Hid (bst (l.take (k + 1)) = (lk ++ [x - 1], 1)) := by
              unfold Hid
              rw [bst_one hkl (by rw [← HX.out]; exact h0), HX.out, HLK.out]
            go_wp2_with (at_builtin; refine wpList_append_own _ rfl (.tmp 23) (.tmp 26) 97 rfl w.heap.size 2 i0 (.int .i64 0) 1 8 Tryz.underlying97 hi0 hz0 hz1 hz2 rfl (by decide) _ _ _ rfl (OwnI.alloc G1.out _) ⟨wr.heap.size, 0, none⟩ 1 1 [.int .i64 (x - 1)] rfl rfl (one_newI _ _ _) (one_cellI _) (by unfold maxLen; omega) (by omega) (by simp; omega) ?_)
            intro v' w6 hown' hgrow _
            have hown6 := OwnI.snoc hown'
            have b6 := hideZ (app_one GB.out (by omega) (Nat.le_refl _) G1.out hgrow)
            obtain ⟨l6, hl6⟩ : ∃ l6, l6 = lk ++ [x - 1] := ⟨_, rfl⟩
            rw [← hl6] at hown6 HZ1
            have N6 := hideZ hown6
            obtain ⟨a6, cap6, rfl, _, _⟩ := hown6.ints
            clear hown' hgrow hown6 hl6
            by_cases h4 : 400 < l6.length
            · have HE : Hid (backR l = []) := backR_long (k := k + 1) (by have := HLN.out; omega) (by rw [HZ1.out]; exact h4)
              have h4' : (400 : Int) < (l6.length : Int) := by omega
              go_wp2_with fail
              go_ret
              exact ⟨_, rfl, by rw [HE.out]; exact OwnI.nil _ _, b6.out⟩
            · have h4' : ¬ (400 : Int) < (l6.length : Int) := by omega
              go_wp2_with fail
              go_roundw
              case rel => exact ⟨k + 1, 1, by go_num, rfl, by omega, by rw [HZ1.out], by rw [HZ1.out]; simp only; omega, by rw [HZ1.out]; exact N6.out, b6.out⟩
              case measure => simp [intOf]; omega
          · have HZ1 : Hid (bst (l.take (k + 1)) = (lk ++ List.replicate ((x.toNat + 1) * q) 0, q * 2)) := by
              unfold Hid
              rw [bst_zeros hkl (by rw [← HX.out]; exact h0), HQ.out, HX.out, HLK.out]
            obtain ⟨xn, rfl⟩ : ∃ xn : Nat, x = xn := ⟨x.toNat, by omega⟩
            obtain ⟨mm, hmm⟩ : ∃ mm, mm = (xn + 1) * q := ⟨_, rfl⟩
            have hm8 : mm ≤ 802 := by
              have : xn = 0 ∨ xn = 1 := by omega
              rcases this with rfl | rfl <;> omega
            have hmul : ((xn : Int) + 1) * (q : Int) = (mm : Int) := by rw [hmm]; simp
            rw [Int.toNat_natCast, ← hmm] at HZ1
            clear hmm
            go_wp2_with (at_builtin; refine wpList_append_zeros _ rfl (.tmp 28) (.tmp 32) 97 2 rfl w.heap.size 2 i0 Tryz.underlying97 Tryz.underlying2 hi0 hz0 hz1 hz2 _ _ _ rfl G1.out mm rfl (by omega) (by omega) ?_)
            intro v' w6 hown' hgrow
            have hown6 := OwnI.zeros hown'
            have b6 := hideZ (app_row GB.out (by omega) (Nat.le_refl _) G1.out hgrow)
            obtain ⟨l6, hl6⟩ : ∃ l6, l6 = lk ++ List.replicate mm 0 := ⟨_, rfl⟩
            rw [← hl6] at hown6 HZ1
            have N6 := hideZ hown6
            obtain ⟨a6, cap6, rfl, _, _⟩ := hown6.ints
            clear hown' hgrow hown6 hl6
            by_cases h4 : 400 < l6.length
            · have HE : Hid (backR l = []) := backR_long (k := k + 1) (by have := HLN.out; omega) (by rw [HZ1.out]; exact h4)
              have h4' : (400 : Int) < (l6.length : Int) := by omega
              go_wp2_with fail
              go_ret
              exact ⟨_, rfl, by rw [HE.out]; exact OwnI.nil _ _, b6.out⟩
            · have h4' : ¬ (400 : Int) < (l6.length : Int) := by omega
              go_wp2_with fail
              go_roundw
              case rel => exact ⟨k + 1, q * 2, by go_num, by go_num, by omega, by rw [HZ1.out], by rw [HZ1.out]; simp only; omega, by rw [HZ1.out]; exact N6.out, b6.out⟩
              case measure => simp [intOf]; omega
        · have hkn : k = l.length := by have := HLN.out; omega
          have HT : Hid (l.take k = l) := by
            unfold Hid
            rw [hkn, List.take_length]
          have HE : Hid (backR l = lk) := by
            unfold Hid
            rw [HLK.out, HT.out, backR_yes HNR.out (by rw [← HT.out, ← HLK.out]; exact h400)]
          clear hkn
          go_wp2_with fail
          go_ret
          exact ⟨_, rfl, by rw [HE.out]; exact G1.out, GB.out⟩
end Go.Proofs.YtjdlgpnhkfdehaaGreatDoor.Ze


/- What impl's blockBack hands back. -/
namespace Go.Proofs.YtjdlgpnhkfdehaaGreatDoor.Up
open Go.Proofs.YtjdlgpnhkfdehaaGreatDoor.Pk
open Go.RowKit
open Go.Proofs.YtjdlgpnhkfdehaaGreatDoor.Hf (up)
open Go.Proofs.YtjdlgpnhkfdehaaGreatDoor.Bi (openR getR open_impl)
open Go.Proofs.YtjdlgpnhkfdehaaGreatDoor.So (bwtA unR unR_case unbwt_impl tOut)
open Go.Proofs.YtjdlgpnhkfdehaaGreatDoor.Fr (fbackR frontBack_impl)
open Go.Proofs.YtjdlgpnhkfdehaaGreatDoor.Ze (backR zerosBack_impl backR_len)
open Go.Proofs.YtjdlgpnhkfdehaaGreatDoor.In (Ints)
theorem ints_keep {w w' : World} {a : Option Addr} {l : List Int} (h : Ints w w.heap.size a l) (hb : Below w.heap.size w w') : Ints w' w'.heap.size a l := (h.below hb).mono hb.size
theorem lt_blk {w : World} {g : Nat} {x : Obj} (h : w.heap[g]? = some x) : g < w.heap.size := (Array.getElem?_eq_some_iff.1 h).1
theorem blk_keep {w w' : World} {g : Nat} {x : Obj} (h : w.heap[g]? = some x) (hb : Below w.heap.size w w') : w'.heap[g]? = some x := (hb.block g (lt_blk h)).trans h
theorem low_keep {w0 w w' : World} (h : Below w0.heap.size w0 w) (hb : Below w.heap.size w w') : Below w0.heap.size w0 w' := h.trans (hb.mono h.size)
def Glob (w : World) (ev : Value) : Prop := 0 < w.heap.size ∧ w.cell? ⟨0, 0, none⟩ = some ev
theorem glob_keep {w w' : World} {ev : Value} (h : Glob w ev) (hb : Below w.heap.size w w') : Glob w' ev := ⟨Nat.lt_of_lt_of_le h.1 hb.size, (hb.cell (p := ⟨0, 0, none⟩) h.1).trans h.2⟩
theorem glob_alloc {w : World} {ev : Value} {o : Obj} (h : Glob w ev) : (w.alloc o).cell? ⟨0, 0, none⟩ = some ev := (glob_keep h ((Below.refl _ _).alloc (Nat.le_refl _) o)).2
theorem four {W : World} {g : Nat} {x y z u : Value} {t : TypeId} (h : W.heap[g]? = some (.cells #[x, y, z, u] t (0, 0))) : W.cell? ⟨g, 0, none⟩ = some x ∧ W.cell? ⟨g, 1, none⟩ = some y ∧ W.cell? ⟨g, 2, none⟩ = some z ∧ W.cell? ⟨g, 3, none⟩ = some u :=
  ⟨cell_of_row W g 0 _ _ _ h, cell_of_row W g 1 _ _ _ h, cell_of_row W g 2 _ _ _ h, cell_of_row W g 3 _ _ _ h⟩
theorem openR_size (p : ByteArray) (m : Int) (hp : p.size ≤ 8000) : (openR p m).size ≤ 64000 := by
  by_cases h : 8000 < p.size ∨ m < 0 ∨ 8 * (p.size : Int) < m
  · rw [Bi.openR_no _ _ h]
    decide
  · obtain ⟨k, rfl⟩ := Int.eq_ofNat_of_zero_le (show 0 ≤ m by omega)
    rw [Bi.openR_yes _ _ (by omega) (by omega)]
    refine Nat.le_trans (Nat.le_of_eq (Sh.strF_size _ _)) ?_
    omega
theorem fback_len (l : List Int) : (fbackR l).length ≤ 400 := by
  cases h : Ze.numsR l 255 with
  | false => rw [Fr.fbackR_no h]; simp
  | true =>
    rw [Fr.fbackR_yes h]
    have h1 := Fr.kst_full l (Ze.upTo_yes (Ze.numsR_yes h).2) l.length (Nat.le_refl _)
    rw [List.take_length] at h1
    have := (Ze.numsR_yes h).1
    omega
theorem size_list (l : List UInt8) : (⟨l.toArray⟩ : ByteArray).size = l.length := by
  show l.toArray.size = _
  simp
theorem unR_size {t b : ByteArray} {a c : Int} (ht : t.size ≤ 400) (h : unR t a = .agg #[.string b, .int .i64 0, .int .i64 c]) : b.size ≤ 400 := by
  unfold unR tOut at h
  split at h
  · simp at h
    rw [← h.1]
    decide
  · split at h
    · simp at h
      rw [← h.1]
      decide
    · split at h
      · simp at h
        rw [← h.1, So.backT_size]
        exact ht
      · simp at h
        rw [← h.1]
        decide
set_option maxRecDepth 100000 in
set_option maxHeartbeats 4000000 in
theorem back_any (x0 x1 x2 x3 : Int) (l : List Int) (a : Option Addr) (cap n : Nat) (p : ByteArray) (ev : Value) (w : World) (hl : Ints w w.heap.size a l) (hn : n = l.length) (h4 : n ≤ 400) (hp : p.size ≤ 8000) (h0 : 0 < w.heap.size) (hg : w.cell? ⟨0, 0, none⟩ = some ev) :
    Calls Tryz.prog 169 #[.agg #[.int .i64 x0, .int .i64 x1, .int .i64 x2, .int .i64 x3], .slice a n cap, .string p] w fun e w' => (∃ r v, e = .returned (.tuple #[.string r, v]) ∧ (v = .nilIface ∨ v = ev) ∧ r.size ≤ 8000 ∧ ∀ s b, Good s b → l = up (lenS b) → x1 = ((bwtA b : Nat) : Int) → x2 = ((symS b).length : Int) → p = bitsS b → r = b ∧ v = .nilIface) ∧ Below w.heap.size w w' := by
  have HL := hideP hl
  have HN := hideP hn
  have HG : Hid (Glob w ev) := ⟨h0, hg⟩
  have BW := hideP (Below.refl w.heap.size w)
  clear hl hn hg
  go_enter Tryz.func169, Tryz.ntmps169
  go_wp2_with fail
  have hb1 : Below w.heap.size w (w.alloc (.cells #[.int .i64 x0, .int .i64 x1, .int .i64 x2, .int .i64 x3] 120)) := (Below.refl _ _).alloc (Nat.le_refl _) _
  have X : Hid ((w.alloc (.cells #[.int .i64 x0, .int .i64 x1, .int .i64 x2, .int .i64 x3] 120)).heap[w.heap.size]? = some (.cells #[.int .i64 x0, .int .i64 x1, .int .i64 x2, .int .i64 x3] 120 (0, 0))) := heap_alloc_new w _
  generalize hww : w.alloc (.cells #[.int .i64 x0, .int .i64 x1, .int .i64 x2, .int .i64 x3] 120) = w1 at hb1 X ⊢
  clear hww
  have HL_ := hideP (ints_keep HL.out hb1)
  have BW_ := hideP (low_keep BW.out hb1)
  have HG_ := hideP (glob_keep HG.out hb1)
  clear HL BW HG
  have HL := HL_
  clear HL_
  have BW := BW_
  clear BW_
  have HG := HG_
  clear HG_
  clear hb1
  generalize w.heap.size = gx at X ⊢
  refine (open_impl p _ w1 (by omega)).mono ?_
  rintro e w2 ⟨rfl, hb2⟩
  have HL_ := hideP (ints_keep HL.out hb2)
  have BW_ := hideP (low_keep BW.out hb2)
  have HG_ := hideP (glob_keep HG.out hb2)
  have X_ := hideP (blk_keep X.out hb2)
  clear HL BW HG X
  have HL := HL_
  clear HL_
  have BW := BW_
  clear BW_
  have HG := HG_
  clear HG_
  have X := X_
  clear X_
  clear hb2
  obtain ⟨bits, hbits⟩ : ∃ x, x = openR p (8 * (p.size : Int)) := ⟨_, rfl⟩
  rw [← hbits]
  have HBT := hideP hbits
  clear hbits
  have hsz : bits.size ≤ 64000 := by rw [HBT.out]; exact openR_size p _ hp
  obtain ⟨cx0, cx1, cx2, cx3⟩ := four X.out
  have HGI := hideP (fun (W : World) (h : Ints W W.heap.size a l) => Bi.get_impl l bits x2 a cap W h (by have := HN.out; omega) (by omega))
  obtain ⟨xl, xa, xc, hx⟩ : ∃ x y z, getR l bits x2 = (x, y, z) := ⟨_, _, _, rfl⟩
  have HX := hideP hx
  rw [hx, ← HN.out] at HGI
  clear hx
  go_wp2_with fail
  refine (HGI.out w2 HL.out).mono ?_
  rintro e w3 ⟨v, rfl, ho, hb3⟩
  clear cx0 cx1 cx2 cx3
  have HL_ := hideP (ints_keep HL.out hb3)
  have BW_ := hideP (low_keep BW.out hb3)
  have HG_ := hideP (glob_keep HG.out hb3)
  have X_ := hideP (blk_keep X.out hb3)
  clear HL BW HG X
  have HL := HL_
  clear HL_
  have BW := BW_
  clear BW_
  have HG := HG_
  clear HG_
  have X := X_
  clear X_
  clear hb3
  obtain ⟨ay, cy, hv, hi⟩ := In.OwnIn.ints ho
  obtain ⟨ny, hny⟩ : ∃ x, x = xl.length := ⟨_, rfl⟩
  rw [← hny] at hv
  subst hv
  have NY := hideP hny
  have IY := hideP hi
  clear hny hi ho HGI
  have ey : ny ≤ 400 := by
    have := Bi.getR_length l bits x2
    rw [HX.out] at this
    rw [NY.out]
    exact this
  have HEND : Hid (∀ (r : ByteArray) (v : Value), (∀ s b, Good s b → getR (up (lenS b)) (openR (bitsS b) (8 * ((bitsS b).size : Int))) ((symS b).length : Int) = (xl, xa, xc) → x1 = ((bwtA b : Nat) : Int) → r = b ∧ v = .nilIface) → ∀ s b, Good s b → l = up (lenS b) → x1 = ((bwtA b : Nat) : Int) → x2 = ((symS b).length : Int) → p = bitsS b → r = b ∧ v = .nilIface) := fun r v h s b hg h1 h2 h3 h5 => by
    refine h s b hg ?_ h2
    rw [← HX.out, HBT.out, h1, h3, h5]
  by_cases hc : xc = 0
  · subst hc
    go_wp2_with fail
    have hb4 : Below w3.heap.size w3 (w3.alloc (.cells #[.slice ay ny cy, .int .i64 xa, .int .i64 0] 139)) := (Below.refl _ _).alloc (Nat.le_refl _) _
    generalize hww : w3.alloc (.cells #[.slice ay ny cy, .int .i64 xa, .int .i64 0] 139) = w4 at hb4 ⊢
    clear hww
    have HL_ := hideP (ints_keep HL.out hb4)
    have BW_ := hideP (low_keep BW.out hb4)
    have HG_ := hideP (glob_keep HG.out hb4)
    have X_ := hideP (blk_keep X.out hb4)
    have IY_ := hideP (ints_keep IY.out hb4)
    clear HL BW HG X IY
    have HL := HL_
    clear HL_
    have BW := BW_
    clear BW_
    have HG := HG_
    clear HG_
    have X := X_
    clear X_
    have IY := IY_
    clear IY_
    clear hb4
    have HZI := hideP (fun (W : World) (h : Ints W W.heap.size ay xl) => zerosBack_impl xl ay cy W.heap.size W h (Nat.le_refl _) (by have := NY.out; omega))
    rw [← NY.out] at HZI
    refine (HZI.out w4 IY.out).mono ?_
    rintro e w5 ⟨v5, rfl, ho5, hb5⟩
    have HL_ := hideP (ints_keep HL.out hb5)
    have BW_ := hideP (low_keep BW.out hb5)
    have HG_ := hideP (glob_keep HG.out hb5)
    have X_ := hideP (blk_keep X.out hb5)
    have IY_ := hideP (ints_keep IY.out hb5)
    clear HL BW HG X IY
    have HL := HL_
    clear HL_
    have BW := BW_
    clear BW_
    have HG := HG_
    clear HG_
    have X := X_
    clear X_
    have IY := IY_
    clear IY_
    clear hb5
    obtain ⟨az, cz, hv, _, hi⟩ := ho5.ints
    obtain ⟨nz, hnz⟩ : ∃ x, x = (backR xl).length := ⟨_, rfl⟩
    rw [← hnz] at hv
    subst hv
    have NZ := hideP hnz
    have IZ := hideP hi
    clear hnz hi ho5
    have ez : nz ≤ 400 := by rw [NZ.out]; exact backR_len _
    have HFI := hideP (fun (W : World) (h : Ints W W.heap.size az (backR xl)) => frontBack_impl (backR xl) az cz W.heap.size W h (Nat.le_refl _) (by have := NZ.out; omega))
    rw [← NZ.out] at HFI
    go_wp2_with fail
    refine (HFI.out w5 IZ.out).mono ?_
    rintro e w6 ⟨rfl, hb6⟩
    have HL_ := hideP (ints_keep HL.out hb6)
    have BW_ := hideP (low_keep BW.out hb6)
    have HG_ := hideP (glob_keep HG.out hb6)
    have X_ := hideP (blk_keep X.out hb6)
    have IY_ := hideP (ints_keep IY.out hb6)
    clear HL BW HG X IY
    have HL := HL_
    clear HL_
    have BW := BW_
    clear BW_
    have HG := HG_
    clear HG_
    have X := X_
    clear X_
    have IY := IY_
    clear IY_
    clear hb6
    have hfs : (fbackR (backR xl)).length ≤ 400 := fback_len _
    obtain ⟨tx, htx⟩ : ∃ x : ByteArray, x = ⟨(fbackR (backR xl)).toArray⟩ := ⟨_, rfl⟩
    have hts : tx.size ≤ 400 := by rw [htx, size_list]; exact hfs
    rw [← htx]
    have HTX := hideP htx
    clear htx hfs
    obtain ⟨cx0, cx1, cx2, cx3⟩ := four X.out
    go_wp2_with fail
    refine (unbwt_impl tx x1 w6 (by omega)).mono ?_
    rintro e w7 ⟨rfl, hb7⟩
    clear cx0 cx1 cx2 cx3
    have HL_ := hideP (ints_keep HL.out hb7)
    have BW_ := hideP (low_keep BW.out hb7)
    have HG_ := hideP (glob_keep HG.out hb7)
    have X_ := hideP (blk_keep X.out hb7)
    have IY_ := hideP (ints_keep IY.out hb7)
    clear HL BW HG X IY
    have HL := HL_
    clear HL_
    have BW := BW_
    clear BW_
    have HG := HG_
    clear HG_
    have X := X_
    clear X_
    have IY := IY_
    clear IY_
    clear hb7
    obtain ⟨yb, yc, hy⟩ := unR_case tx x1
    have HY := hideP hy
    have HYS : Hid (yb.size ≤ 400) := unR_size (by omega) hy
    rw [hy]
    clear hy
    have HTT : Hid (∀ s b, Good s b → getR (up (lenS b)) (openR (bitsS b) (8 * ((bitsS b).size : Int))) ((symS b).length : Int) = (xl, xa, 0) → x1 = ((bwtA b : Nat) : Int) → yb = b ∧ yc = 0) := fun s b hg h1 h2 => by
      rw [bits_back hg] at h1
      have e1 : symS b = xl := congrArg Prod.fst h1
      have h3 := block_back hg.1
      rw [e1, ← HTX.out, ← h2, HY.out] at h3
      unfold tOut at h3
      simp at h3
      exact h3
    by_cases hyc : yc = 0
    · subst hyc
      go_wp2_with fail
      go_ret2
      refine ⟨⟨yb, .nilIface, rfl, .inl rfl, by have := HYS.out; omega, HEND.out _ _ fun s b h1 h2 h3 => ⟨(HTT.out s b h1 h2 h3).1, rfl⟩⟩, ?_⟩
      exact low_keep BW.out ((Below.refl _ _).alloc (Nat.le_refl _) _)
    · have hyc' : (yc != 0) = true := by simp; exact hyc
      have gcell := fun o => glob_alloc (w := w7) (o := o) HG.out
      go_wp2_with fail
      go_quiet (fail)
      go_wp2_with fail
      go_ret2
      refine ⟨⟨⟨#[]⟩, ev, rfl, .inr rfl, by decide, HEND.out _ _ fun s b h1 h2 h3 => absurd (HTT.out s b h1 h2 h3).2 hyc⟩, ?_⟩
      exact below_drewN (low_keep BW.out ((Below.refl _ _).alloc (Nat.le_refl _) _)) _
  · have hc' : (xc != 0) = true := by simp; exact hc
    have gcell := fun o => glob_alloc (w := w3) (o := o) HG.out
    go_wp2_with fail
    go_quiet (fail)
    go_wp2_with fail
    go_ret2
    refine ⟨⟨⟨#[]⟩, ev, rfl, .inr rfl, by decide, HEND.out _ _ fun s b h1 h2 _ => ?_⟩, ?_⟩
    · rw [bits_back h1] at h2
      exact absurd (congrArg (fun q => q.2.2) h2).symm hc
    · exact below_drewN (low_keep BW.out ((Below.refl _ _).alloc (Nat.le_refl _) _)) _
end Go.Proofs.YtjdlgpnhkfdehaaGreatDoor.Up


/- What a row's list of variables gives a walk, where the error's variable is among them. -/
namespace Go.Proofs.YtjdlgpnhkfdehaaGreatDoor.Up
open Go.RowKit
theorem gNoBlock : Tryz.prog.globalNamed "loop.example/g00550/impl.errNoBlock" = some 0 := by kernel_rfl
theorem tNoBlock : (Tryz.prog.globals[0]?).map (·.type) = some 72 := by kernel_rfl
theorem cellsErrS : Tryz.prog.cellsOf 305 = 1 := by kernel_rfl
theorem cellsStr : Tryz.prog.cellsOf 9 = 1 := by kernel_rfl
theorem starErr : "*" ++ "errors.errorString" = "*errors.errorString" := by decide
theorem rowErr (u : TypeId) (h : Tryz.prog.typeName? 3 u = some "*errors.errorString") : u = 285 :=
  typeName_ptr_named (nm := "errors.errorString") (by rw [starErr]; kernel_rfl) (by kernel_rfl) (by decide) u (by rw [starErr]; exact h)
theorem trodVars_length {H : Type} {enc : TypeId × Value → H} {P : Program} {w : World} {sp : Nat → Bool} : ∀ {ns : List String} {gs : List (DataW H)} {ps : List MemPlace}, DataW.TrodVars enc P w sp ns gs ps → gs.length = ns.length
  | [], [], _, _ => rfl
  | [], _ :: _, _, h => h.elim
  | _ :: _, [], _, h => h.elim
  | n :: ns, d :: ds, ps, h => by
    obtain ⟨g, t, cs, fuel, p, q, h1, h2, h3, h4, hs, e⟩ := h
    show ds.length + 1 = ns.length + 1
    rw [trodVars_length hs]
theorem list1 {α : Type} {l : List α} (h : l.length = 1) : ∃ a, l = [a] := by
  match l, h with
  | [a], _ => exact ⟨a, rfl⟩
set_option maxRecDepth 100000 in
theorem glob_of_met {W : World} (h : laidMet Tryz.prog [("loop.example/g00550/impl.errNoBlock", Rows.laid_loop_example_g00550_impl_errNoBlock)] W) : ∃ a : Addr, Glob W (.iface 285 (.pointer (some a))) := by
  obtain ⟨ps, ⟨g0, t0, cs0, f0, p0, q0, hg0, ht0, hv0, hd0, hq0, e0⟩, hnd, hrows⟩ := h
  obtain rfl := Option.some.inj (gNoBlock.symm.trans hg0)
  obtain rfl := Option.some.inj (tNoBlock.symm.trans ht0)
  have hq' : q0 = [] := hq0
  subst hq'
  subst e0
  obtain ⟨l0⟩ := cs0
  have ok0 : ∀ u v, l0 = [.iface u v] → Value.okWide Tryz.prog W .any 0 u v := fun u v e => by
    subst e
    exact (hrows 0 0 (by simp [MemPlace.row])).2 u v (by simpa using World.var?_cell hg0 hv0 0)
  obtain ⟨a0, s0, rfl, hc0, hs0, hz0, rfl⟩ := errorString_of_trod Tryz.underlying72 rowErr Tryz.underlying285 Tryz.underlying305 rfl rfl Tryz.underlying9 cellsErrS cellsStr hd0 ok0
  have hc : W.cell? ⟨0, 0, none⟩ = some (.iface 285 (.pointer (some a0))) := by simpa using World.var?_cell gNoBlock hv0 0
  refine ⟨a0, ?_, hc⟩
  rcases Nat.lt_or_ge 0 W.heap.size with h | h
  · exact h
  · simp [World.cell?, Array.getElem?_eq_none h] at hc
set_option maxRecDepth 100000 in
theorem glob_of_laid {W : World} (h : laidMetH Tryz.prog [("loop.example/g00550/impl.errNoBlock", Rows.laid_loop_example_g00550_impl_errNoBlock)] W) : ∃ a : Addr, Glob W (.iface 285 (.pointer (some a))) := by
  rw [MakeChecks.laidMetH_plain _ _ _ (by kernel_rfl)] at h
  exact glob_of_met h
end Go.Proofs.YtjdlgpnhkfdehaaGreatDoor.Up


/- The walks of the two functions that open a sealed text: each answers Se.unsealV of its text, and writes nothing that was there. -/
namespace Go.Proofs.YtjdlgpnhkfdehaaGreatDoor.Se
open Go.RowKit
open Go.Proofs.YtjdlgpnhkfdehaaGreatDoor.Nu (bv arr_string ret_strJ hideJ)
def outV (t : ByteArray) (at_ code : Int) : Value := .agg #[.string t, .int .i64 at_, .int .i64 code]
def unsealV (s : ByteArray) : Value :=
  if 8000 < s.size then outV ⟨#[]⟩ 0 2 else if s.size < 4 then outV ⟨#[]⟩ 0 4
  else if sealV (s.extract 0 (s.size - 4)) = s then outV (s.extract 0 (s.size - 4)) 0 0 else outV ⟨#[]⟩ 0 5
theorem bcell {W w1 : World} (hb : Below W.heap.size W w1) : (∀ b o, b < W.heap.size → w1.cell? ⟨b, o, none⟩ = W.cell? ⟨b, o, none⟩) ∧ (∀ b o, b < W.heap.size → w1.frozen? ⟨b, o, none⟩ = W.frozen? ⟨b, o, none⟩) :=
  ⟨fun b o h => hb.cell (p := ⟨b, o, none⟩) h, fun b o h => hb.frozen (p := ⟨b, o, none⟩) h⟩
theorem below3 {w wa wb : World} {o : Obj} (h1 : Below (w.alloc o).heap.size (w.alloc o) wa) (h2 : Below (w.alloc o).heap.size wa wb) : Below w.heap.size w wb :=
  ((Below.refl w.heap.size w).alloc (Nat.le_refl _) o).trans ((h1.trans h2).mono (by simp))
theorem below2d {w wa : World} {o : Obj} (h1 : Below (w.alloc o).drew.heap.size (w.alloc o).drew wa) : Below w.heap.size w wa :=
  ((Below.refl w.heap.size w).alloc (Nat.le_refl _) o).drew.trans (h1.mono (by simp))
theorem list_eq_iff (a b : ByteArray) : (a.toList == b.toList) = decide (a = b) := by
  by_cases h : a = b
  · rw [h]; simp
  · rw [decide_eq_false h, beq_eq_false_iff_ne]
    intro e
    apply h
    rw [ByteArray.toList_eq, ByteArray.toList_eq] at e
    have e2 : a.data = b.data := by rw [← Array.toArray_toList (xs := a.data), e, Array.toArray_toList]
    cases a; cases b; simpa using e2
theorem unsealV_yes (s t : ByteArray) (h1 : ¬ 8000 < s.size) (h2 : ¬ s.size < 4) (ht : t = s.extract 0 (s.size - 4)) (h : sealV t = s) : unsealV s = outV t 0 0 := by
  unfold unsealV
  rw [if_neg h1, if_neg h2, ← ht, if_pos h]
theorem unsealV_no (s t : ByteArray) (h1 : ¬ 8000 < s.size) (h2 : ¬ s.size < 4) (ht : t = s.extract 0 (s.size - 4)) (h : ¬ sealV t = s) : unsealV s = outV ⟨#[]⟩ 0 5 := by
  unfold unsealV
  rw [if_neg h1, if_neg h2, ← ht, if_neg h]
set_option maxRecDepth 100000 in
set_option maxHeartbeats 1000000 in
theorem unseal_impl (s : ByteArray) (w : World) (hs : s.size ≤ maxLen) :
    Calls Tryz.prog 63 #[.string s] w fun e w' => e = .returned (unsealV s) ∧ Below w.heap.size w w' := by
  unfold maxLen at hs
  by_cases h1 : 8000 < s.size
  · have HV := hideJ (show unsealV s = outV ⟨#[]⟩ 0 2 by unfold unsealV; rw [if_pos h1])
    go_enter Tryz.func63, Tryz.ntmps63
    go_wp2
    refine bodyPost_ret (v := outV ⟨#[]⟩ 0 2) (by simp [results, outV, Tryz.results63, go_sem]) rfl ⟨by rw [HV.out], ?_⟩
    exact (Below.refl _ _).alloc (Nat.le_refl _) _
  · by_cases h2 : s.size < 4
    · have HV := hideJ (show unsealV s = outV ⟨#[]⟩ 0 4 by unfold unsealV; rw [if_neg h1, if_pos h2])
      go_enter Tryz.func63, Tryz.ntmps63
      go_wp2
      refine bodyPost_ret (v := outV ⟨#[]⟩ 0 4) (by simp [results, outV, Tryz.results63, go_sem]) rfl ⟨by rw [HV.out], ?_⟩
      exact (Below.refl _ _).alloc (Nat.le_refl _) _
    · obtain ⟨t, ht⟩ : ∃ t, t = s.extract 0 (s.size - 4) := ⟨_, rfl⟩
      have hts : t.size ≤ 7996 := by rw [ht]; simp; omega
      have HT := hideJ ht
      by_cases hq : sealV t = s
      · have HV := hideJ (unsealV_yes s t h1 h2 ht hq)
        have hB : ((sealV t).toList == s.toList) = true := by rw [list_eq_iff]; exact decide_eq_true hq
        clear ht hq
        go_enter Tryz.func63, Tryz.ntmps63
        go_wp2_with fail
        rw [show ((s.size : Int) - 4) = ((s.size - 4 : Nat) : Int) from by omega]
        refine (Nu.cut_any s 0 (s.size - 4) _ (by omega) (by omega) (by omega)).mono ?_
        rw [← HT.out]
        rintro e wa ⟨rfl, hb1⟩
        obtain ⟨hc1, hf1⟩ := bcell hb1
        have hz1 : w.heap.size + 1 ≤ wa.heap.size := by have := hb1.size; simpa using this
        go_wp2_with fail
        refine (seal_impl t _ (by unfold maxLen; omega)).mono ?_
        rintro e wb ⟨rfl, hb2⟩
        obtain ⟨hc2, hf2⟩ := bcell hb2
        have hz2 : wa.heap.size ≤ wb.heap.size := hb2.size
        have hlt : w.heap.size < wa.heap.size := by omega
        go_wp2
        refine bodyPost_ret (v := outV t 0 0) (by simp [results, outV, Tryz.results63, go_sem, hc2, hc1, hlt]) rfl ⟨by rw [HV.out], ?_⟩
        exact ((below3 hb1 (hb2.mono (by simpa using hz1))).setCell (Nat.le_refl _) _ |>.setCell (Nat.le_refl _) _).setCell (Nat.le_refl _) _
      · have HV := hideJ (unsealV_no s t h1 h2 ht hq)
        have hB : ((sealV t).toList == s.toList) = false := by rw [list_eq_iff]; exact decide_eq_false hq
        clear ht hq
        go_enter Tryz.func63, Tryz.ntmps63
        go_wp2_with fail
        rw [show ((s.size : Int) - 4) = ((s.size - 4 : Nat) : Int) from by omega]
        refine (Nu.cut_any s 0 (s.size - 4) _ (by omega) (by omega) (by omega)).mono ?_
        rw [← HT.out]
        rintro e wa ⟨rfl, hb1⟩
        obtain ⟨hc1, hf1⟩ := bcell hb1
        have hz1 : w.heap.size + 1 ≤ wa.heap.size := by have := hb1.size; simpa using this
        go_wp2_with fail
        refine (seal_impl t _ (by unfold maxLen; omega)).mono ?_
        rintro e wb ⟨rfl, hb2⟩
        obtain ⟨hc2, hf2⟩ := bcell hb2
        have hz2 : wa.heap.size ≤ wb.heap.size := hb2.size
        have hlt : w.heap.size < wa.heap.size := by omega
        go_wp2
        refine bodyPost_ret (v := outV ⟨#[]⟩ 0 5) (by simp [results, outV, Tryz.results63, go_sem, hc2, hc1, hlt]) rfl ⟨by rw [HV.out], ?_⟩
        exact ((below3 hb1 (hb2.mono (by simpa using hz1))).setCell (Nat.le_refl _) _ |>.setCell (Nat.le_refl _) _).setCell (Nat.le_refl _) _
end Go.Proofs.YtjdlgpnhkfdehaaGreatDoor.Se

