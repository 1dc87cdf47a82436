/- Texts put together: StrEq, Mark, Held, StrIn, CodesWalks. -/
import Derived.Test.YtjdlgpnhkfdehaaGreatDoorLo13
import Derived.BigRegion
import Derived.BigQuiet
import Derived.Deep.QuietTactic
import Derived.Test.YtjdlgpnhkfdehaaGreatDoorLo14
import Derived.Deep.RegionWith
import Derived.Test.YtjdlgpnhkfdehaaGreatDoorLo15
import Derived.Test.YtjdlgpnhkfdehaaGreatDoorLo28
import Derived.Test.YtjdlgpnhkfdehaaGreatDoorLo39
/- The laws' own look whether two rows of texts are alike. -/
namespace Go.Proofs.YtjdlgpnhkfdehaaGreatDoor.St
open Go.RowKit
end Go.Proofs.YtjdlgpnhkfdehaaGreatDoor.St


/- The laws' marks: the text of a mark, marks written into a row of texts, marks found again. -/
namespace Go.Proofs.YtjdlgpnhkfdehaaGreatDoor.St
open Go.RowKit
def dg (k : Nat) (o : ByteArray) : ByteArray := if _h : k = 0 then o else dg (k / 10) (⟨#[UInt8.ofNat (48 + k % 10)]⟩ ++ o)
termination_by k
decreasing_by omega
def markT (k : Nat) : ByteArray := ⟨#[109]⟩ ++ dg k ⟨#[]⟩
def marks (k n : Nat) : List ByteArray := (List.range n).map fun j => markT (k + j)
def mmid (l : List ByteArray) (k i : Nat) : List ByteArray := marks k i ++ l.drop i
end Go.Proofs.YtjdlgpnhkfdehaaGreatDoor.St


/- The laws' marks found again; an empty row too. -/
namespace Go.Proofs.YtjdlgpnhkfdehaaGreatDoor.St
open Go.RowKit
end Go.Proofs.YtjdlgpnhkfdehaaGreatDoor.St


/- Rows of texts between two marks of memory: what the laws' helpers do with them. -/
namespace Go.Proofs.YtjdlgpnhkfdehaaGreatDoor.St
open Go.RowKit
def OwnIn (w : World) (lo hi : Nat) (v : Value) (l : List ByteArray) : Prop :=
  (v = .slice none 0 0 ∧ l = []) ∨ ∃ g cap, v = .slice (some ⟨g, 0, none⟩) l.length cap ∧ lo ≤ g ∧ g < hi ∧ IsO w g 9 l
theorem OwnIn.below {w w' : World} {lo hi B : Nat} {v : Value} {l : List ByteArray} (h : OwnIn w lo hi v l) (b : Below B w w') (hB : hi ≤ B) : OwnIn w' lo hi v l := by
  rcases h with h | ⟨g, cap, hv, hg, hh, ho⟩
  · exact .inl h
  · exact .inr ⟨g, cap, hv, hg, hh, ho.below b (by omega)⟩
theorem OwnIn.strs {w : World} {lo hi : Nat} {v : Value} {l : List ByteArray} (h : OwnIn w lo hi v l) : ∃ a cap, v = .slice a l.length cap ∧ Strs w hi a l := by
  rcases h with ⟨rfl, rfl⟩ | ⟨g, cap, rfl, _, hh, ho⟩
  · exact ⟨none, 0, rfl, .inl rfl⟩
  · exact ⟨_, cap, rfl, ho.strs hh⟩
def Marked (w : World) (lo hi : Nat) (v : Value) (n : Nat) : Prop := OwnIn w lo hi v (marks 1 n)
end Go.Proofs.YtjdlgpnhkfdehaaGreatDoor.St


/- The walks of both CodesOf. -/
namespace Go.Proofs.YtjdlgpnhkfdehaaGreatDoor.Bi
open Go.RowKit
open Go.Proofs.YtjdlgpnhkfdehaaGreatDoor.In (Ints)
open Go.Proofs.YtjdlgpnhkfdehaaGreatDoor.St (IsS made_strs OwnIn IsO)
open Go.Proofs.YtjdlgpnhkfdehaaGreatDoor.St.Tryz (infoS9)
theorem below2 {w w1 w2 : World} (h : Below w.heap.size w w1) (h2 : Below w1.heap.size w1 w2) : Below w.heap.size w w2 := h.trans (h2.mono h.size)
set_option maxRecDepth 100000 in
set_option maxHeartbeats 4000000 in
theorem codes_spec (l : List Int) (a : Option Addr) (cap B : Nat) (w : World) (hi : Ints w B a l) (hB : B ≤ w.heap.size) (hr : right l = true) :
    Calls Tryz.prog 221 #[.slice a l.length cap] w fun e w' => e = .returned (.slice (some ⟨w.heap.size, 0, none⟩) l.length l.length) ∧ IsS w' w.heap.size 9 (codesV l) ∧ Below w.heap.size w w' := by
  obtain ⟨i0, hi0, hz0, hz1, hz2⟩ := info_parts infoS9
  have HS := hideB (hi.mono hB)
  have HCS := hideB (right_yes hr).2
  have hn := (within_yes (right_yes hr).1).1
  clear hi hr
  obtain ⟨n, hln⟩ : ∃ n, n = l.length := ⟨_, rfl⟩
  have HLN := hideB hln
  rw [← hln] at hn ⊢
  clear hln
  go_enter Tryz.func221, Tryz.ntmps221
  go_wp2_with (at_make; refine wpList_make_full _ rfl (.tmp 8) (.tmp 8) 30 rfl w.heap.size 9 i0 (.string ⟨#[]⟩) 1 Tryz.underlying30 hi0 hz0 hz1 .i64 .i64 _ _ n rfl rfl (by simp) (by simp) (by rw [hz2]; omega) (by unfold maxLen; omega) (Nat.le_refl _) ?_; intro w1 hown1 hgrow1; have HR := hideB (made_strs hown1); have HB := hideB ((Below.refl w.heap.size w).grown hgrow1 (Nat.le_refl _) (by simp)); clear hown1 hgrow1)
  go_loopw [5, 4] (fun i m wr => ∃ v : Nat, i = .int .i64 ((v : Int) + 1) ∧ m = .int .i64 (outN l v : Nat) ∧ v ≤ 12 ∧ IsS wr w.heap.size 9 (outO l v) ∧ Below w.heap.size w wr) (fun i _ _ => 13 - (intOf i).toNat)
  case atStart => exact ⟨0, rfl, rfl, by omega, by simp only [outO]; rw [← HLN.out]; exact HR.out, HB.out⟩
  case round =>
    obtain ⟨v, rfl, rfl, hv, h1, hbel⟩ := hrel
    have G1 := hideB h1
    have GB := hideB hbel
    clear h1 hbel
    have ho := out_small HCS.out hv
    have HOL := hideB (outO_length l v)
    by_cases hv12 : v < 12
    · have HN0 : Hid (innN l (v + 1) (2 * outN l v) 0 = 2 * outN l v) := innN_zero l (v + 1) (2 * outN l v)
      have HNA := hideB (innN_all l v)
      have HNL := hideB (innN_le l (v + 1) (2 * outN l v))
      have HNF := hideB (fun (k : Nat) (hk : k < l.length) (e : l[k] = ((v + 1 : Nat) : Int)) => inn_fits HCS.out hv12 hk e)
      have HNY := hideB (fun (k : Nat) (hk : k < l.length) (e : l[k] = ((v + 1 : Nat) : Int)) => innN_yes (n0 := 2 * outN l v) hk e)
      have HNN := hideB (fun (k : Nat) (hk : k < l.length) (e : ¬ l[k] = ((v + 1 : Nat) : Int)) => innN_no (n0 := 2 * outN l v) hk e)
      have HOY := hideB (fun (k : Nat) (hk : k < l.length) (e : l[k] = ((v + 1 : Nat) : Int)) => innO_yes (n0 := 2 * outN l v) (o := outO l v) hk e)
      have HON := hideB (fun (k : Nat) (hk : k < l.length) (e : ¬ l[k] = ((v + 1 : Nat) : Int)) => innO_no (n0 := 2 * outN l v) (o := outO l v) hk e)
      have HOO : Hid (innO l (v + 1) (2 * outN l v) (outO l v) l.length = outO l (v + 1)) := rfl
      have HIL := hideB (innO_length l (v + 1) (2 * outN l v) (outO l v))
      have hpw : 2 ^ (v + 1) ≤ 4096 := by
        have := Nat.pow_le_pow_right (n := 2) (by decide) (show v + 1 ≤ 12 by omega)
        omega
      have HPW : Hid (∀ x : Nat, x < 2 ^ (v + 1) → x < 4096) := fun x hx => by omega
      clear hpw
      generalize outN l v = no at ho HN0 HNA HNL HNF HNY HNN HOY HON HOO HIL
      have hv13 : (v : Int) + 1 ≤ 12 := by omega
      go_wp2_with fail
      go_loopw [6, 4] (fun i m wr2 => ∃ k q : Nat, i = .int .i64 k ∧ m = .int .i64 q ∧ q = innN l (v + 1) (2 * no) k ∧ k ≤ n ∧ IsS wr2 w.heap.size 9 (innO l (v + 1) (2 * no) (outO l v) k) ∧ Below w.heap.size w wr2) (fun i _ _ => n - (intOf i).toNat)
      case atStart => exact ⟨0, 2 * no, rfl, by go_num, HN0.out.symm, by omega, G1.out, GB.out⟩
      case round =>
        obtain ⟨k, q, rfl, rfl, hq, hk, h2, hbel2⟩ := hrel
        have G2 := hideB h2
        have GB2 := hideB hbel2
        have HQ := hideB hq
        clear h2 hbel2 hq
        by_cases hlt : k < n
        · have hkl : k < l.length := by rw [← HLN.out]; exact hlt
          obtain ⟨b, off, rfl, hb, hc⟩ := (HS.out.below GB2.out).some (by omega)
          have ci := hc k hkl
          have hqb : q ≤ 2 * no + 257 := by
            have := HNL.out k
            rw [← HQ.out, ← HLN.out] at this
            omega
          obtain ⟨x, hx⟩ : ∃ x, x = l[k] := ⟨_, rfl⟩
          have HX := hideB hx
          rw [← hx] at ci
          clear hc hx
          by_cases e : x = (v : Int) + 1
          · have hb1 : (x == (v : Int) + 1) = true := beq_iff_eq.2 e
            have HXE : Hid (l[k] = ((v + 1 : Nat) : Int)) := by
              unfold Hid
              rw [← HX.out, e]
              rfl
            have HF : Hid (q < 2 ^ (v + 1)) := by
              unfold Hid
              rw [HQ.out]
              exact HNF.out k hkl HXE.out
            have hq4 := HPW.out q HF.out
            have HNK : Hid (q + 1 = innN l (v + 1) (2 * no) (k + 1)) := by
              unfold Hid
              rw [HNY.out k hkl HXE.out, HQ.out]
            have HOK : Hid (innO l (v + 1) (2 * no) (outO l v) (k + 1) = (innO l (v + 1) (2 * no) (outO l v) k).set k (bitsV q (v + 1))) := by
              unfold Hid
              rw [HOY.out k hkl HXE.out, HQ.out]
            have HBI := hideB (fun W => bits_spec q (v + 1) W (by omega) (by omega) (by omega))
            clear e
            go_wp2_with fail
            refine (HBI.out _).mono ?_
            rintro e w2 ⟨rfl, hb2⟩
            have G3 := hideB (G2.out.below hb2 G2.out.lt)
            have B3 := hideB (below2 GB2.out hb2)
            have cf := G3.out.frozen k
            obtain ⟨v0, ce⟩ : ∃ v0, w2.cell? ⟨w.heap.size, k, none⟩ = some (.string v0) := ⟨_, G3.out.cell (j := k) (by rw [HIL.out, HOL.out]; exact hkl)⟩
            clear hb2
            go_wp2_with fail
            go_roundw
            case rel => exact ⟨k + 1, q + 1, by go_num, by go_num, HNK.out, by omega, by rw [HOK.out]; exact G3.out.set k _, B3.out.setCell (Nat.le_refl _) _⟩
            case measure => simp [intOf]; omega
          · have hb1 : (x == (v : Int) + 1) = false := beq_eq_false_iff_ne.2 e
            have HXE : Hid (¬ l[k] = ((v + 1 : Nat) : Int)) := by
              unfold Hid
              rw [← HX.out]
              exact e
            have HNK : Hid (q = innN l (v + 1) (2 * no) (k + 1)) := by
              unfold Hid
              rw [HNN.out k hkl HXE.out, HQ.out]
            have HOK : Hid (innO l (v + 1) (2 * no) (outO l v) (k + 1) = innO l (v + 1) (2 * no) (outO l v) k) := HON.out k hkl HXE.out
            clear e
            go_wp2_with fail
            go_roundw
            case rel => exact ⟨k + 1, q, by go_num, rfl, HNK.out, by omega, by rw [HOK.out]; exact G2.out, GB2.out⟩
            case measure => simp [intOf]; omega
        · have hkn : k = l.length := by have := HLN.out; omega
          have HQE : Hid (q = outN l (v + 1)) := by
            unfold Hid
            rw [HQ.out, hkn]
            exact HNA.out
          have HOE : Hid (innO l (v + 1) (2 * no) (outO l v) k = outO l (v + 1)) := by
            unfold Hid
            rw [hkn]
            exact HOO.out
          have hqb : q ≤ 4096 := by
            rw [HQE.out]
            exact out_small HCS.out (by omega)
          clear hkn
          go_wp2_with fail
          go_roundw
          case rel => exact ⟨v + 1, by go_num, by rw [← HQE.out], by omega, by rw [← HOE.out]; exact G2.out, GB2.out⟩
          case measure => simp [intOf]; omega
    · obtain rfl : v = 12 := by omega
      go_wp2_with fail
      go_ret
      exact ⟨rfl, G1.out, GB.out⟩
set_option maxRecDepth 100000 in
set_option maxHeartbeats 4000000 in
theorem codes_yes (l : List Int) (a : Option Addr) (cap B : Nat) (w : World) (hi : Ints w B a l) (hB : B ≤ w.heap.size) (hr : right l = true) :
    Calls Tryz.prog 164 #[.slice a l.length cap] w fun e w' => e = .returned (.slice (some ⟨w.heap.size, 0, none⟩) l.length l.length) ∧ IsS w' w.heap.size 9 (codesV l) ∧ Below w.heap.size w w' := by
  obtain ⟨i0, hi0, hz0, hz1, hz2⟩ := info_parts infoS9
  have HS := hideB (hi.mono hB)
  have HRI := hideB (right_impl l a cap B w hi (by have := (within_yes (right_yes hr).1).1; omega))
  rw [hr] at HRI
  have HCS := hideB (right_yes hr).2
  have hn := (within_yes (right_yes hr).1).1
  clear hi hr
  obtain ⟨n, hln⟩ : ∃ n, n = l.length := ⟨_, rfl⟩
  have HLN := hideB hln
  rw [← hln] at hn HRI ⊢
  clear hln
  go_enter Tryz.func164, Tryz.ntmps164
  go_wp2_with fail
  refine HRI.out.mono ?_
  rintro e w' ⟨rfl, hw⟩
  subst w'
  go_wp2_with (at_make; refine wpList_make_full _ rfl (.tmp 12) (.tmp 12) 30 rfl w.heap.size 9 i0 (.string ⟨#[]⟩) 1 Tryz.underlying30 hi0 hz0 hz1 .i64 .i64 _ _ n rfl rfl (by simp) (by simp) (by rw [hz2]; omega) (by unfold maxLen; omega) (Nat.le_refl _) ?_; intro w1 hown1 hgrow1; have HR := hideB (made_strs hown1); have HB := hideB ((Below.refl w.heap.size w).grown hgrow1 (Nat.le_refl _) (by simp)); clear hown1 hgrow1)
  go_loopw [5, 4] (fun i m wr => ∃ v : Nat, i = .int .i64 ((v : Int) + 1) ∧ m = .int .i64 (outN l v : Nat) ∧ v ≤ 12 ∧ IsS wr w.heap.size 9 (outO l v) ∧ Below w.heap.size w wr) (fun i _ _ => 13 - (intOf i).toNat)
  case atStart => exact ⟨0, rfl, rfl, by omega, by simp only [outO]; rw [← HLN.out]; exact HR.out, HB.out⟩
  case round =>
    obtain ⟨v, rfl, rfl, hv, h1, hbel⟩ := hrel
    have G1 := hideB h1
    have GB := hideB hbel
    clear h1 hbel
    have ho := out_small HCS.out hv
    have HOL := hideB (outO_length l v)
    by_cases hv12 : v < 12
    · have HN0 : Hid (innN l (v + 1) (2 * outN l v) 0 = 2 * outN l v) := innN_zero l (v + 1) (2 * outN l v)
      have HNA := hideB (innN_all l v)
      have HNL := hideB (innN_le l (v + 1) (2 * outN l v))
      have HNF := hideB (fun (k : Nat) (hk : k < l.length) (e : l[k] = ((v + 1 : Nat) : Int)) => inn_fits HCS.out hv12 hk e)
      have HNY := hideB (fun (k : Nat) (hk : k < l.length) (e : l[k] = ((v + 1 : Nat) : Int)) => innN_yes (n0 := 2 * outN l v) hk e)
      have HNN := hideB (fun (k : Nat) (hk : k < l.length) (e : ¬ l[k] = ((v + 1 : Nat) : Int)) => innN_no (n0 := 2 * outN l v) hk e)
      have HOY := hideB (fun (k : Nat) (hk : k < l.length) (e : l[k] = ((v + 1 : Nat) : Int)) => innO_yes (n0 := 2 * outN l v) (o := outO l v) hk e)
      have HON := hideB (fun (k : Nat) (hk : k < l.length) (e : ¬ l[k] = ((v + 1 : Nat) : Int)) => innO_no (n0 := 2 * outN l v) (o := outO l v) hk e)
      have HOO : Hid (innO l (v + 1) (2 * outN l v) (outO l v) l.length = outO l (v + 1)) := rfl
      have HIL := hideB (innO_length l (v + 1) (2 * outN l v) (outO l v))
      have hpw : 2 ^ (v + 1) ≤ 4096 := by
        have := Nat.pow_le_pow_right (n := 2) (by decide) (show v + 1 ≤ 12 by omega)
        omega
      have HPW : Hid (∀ x : Nat, x < 2 ^ (v + 1) → x < 4096) := fun x hx => by omega
      clear hpw
      generalize outN l v = no at ho HN0 HNA HNL HNF HNY HNN HOY HON HOO HIL
      have hv13 : (v : Int) + 1 ≤ 12 := by omega
      go_wp2_with fail
      go_loopw [22, 4] (fun i m wr2 => ∃ k q : Nat, i = .int .i64 k ∧ m = .int .i64 q ∧ q = innN l (v + 1) (2 * no) k ∧ k ≤ n ∧ IsS wr2 w.heap.size 9 (innO l (v + 1) (2 * no) (outO l v) k) ∧ Below w.heap.size w wr2) (fun i _ _ => n - (intOf i).toNat)
      case atStart => exact ⟨0, 2 * no, rfl, by go_num, HN0.out.symm, by omega, G1.out, GB.out⟩
      case round =>
        obtain ⟨k, q, rfl, rfl, hq, hk, h2, hbel2⟩ := hrel
        have G2 := hideB h2
        have GB2 := hideB hbel2
        have HQ := hideB hq
        clear h2 hbel2 hq
        by_cases hlt : k < n
        · have hkl : k < l.length := by rw [← HLN.out]; exact hlt
          obtain ⟨b, off, rfl, hb, hc⟩ := (HS.out.below GB2.out).some (by omega)
          have ci := hc k hkl
          have hqb : q ≤ 2 * no + 257 := by
            have := HNL.out k
            rw [← HQ.out, ← HLN.out] at this
            omega
          obtain ⟨x, hx⟩ : ∃ x, x = l[k] := ⟨_, rfl⟩
          have HX := hideB hx
          rw [← hx] at ci
          clear hc hx
          by_cases e : x = (v : Int) + 1
          · have hb1 : (x == (v : Int) + 1) = true := beq_iff_eq.2 e
            have HXE : Hid (l[k] = ((v + 1 : Nat) : Int)) := by
              unfold Hid
              rw [← HX.out, e]
              rfl
            have HF : Hid (q < 2 ^ (v + 1)) := by
              unfold Hid
              rw [HQ.out]
              exact HNF.out k hkl HXE.out
            have hq4 := HPW.out q HF.out
            have HNK : Hid (q + 1 = innN l (v + 1) (2 * no) (k + 1)) := by
              unfold Hid
              rw [HNY.out k hkl HXE.out, HQ.out]
            have HOK : Hid (innO l (v + 1) (2 * no) (outO l v) (k + 1) = (innO l (v + 1) (2 * no) (outO l v) k).set k (bitsV q (v + 1))) := by
              unfold Hid
              rw [HOY.out k hkl HXE.out, HQ.out]
            have HBI := hideB (fun W => bitsOf_yes q (v + 1) W (by omega) (by omega) HF.out)
            clear e
            go_wp2_with fail
            refine (HBI.out _).mono ?_
            rintro e w2 ⟨rfl, hb2⟩
            have G3 := hideB (G2.out.below hb2 G2.out.lt)
            have B3 := hideB (below2 GB2.out hb2)
            have cf := G3.out.frozen k
            obtain ⟨v0, ce⟩ : ∃ v0, w2.cell? ⟨w.heap.size, k, none⟩ = some (.string v0) := ⟨_, G3.out.cell (j := k) (by rw [HIL.out, HOL.out]; exact hkl)⟩
            clear hb2
            go_wp2_with fail
            go_roundw
            case rel => exact ⟨k + 1, q + 1, by go_num, by go_num, HNK.out, by omega, by rw [HOK.out]; exact G3.out.set k _, B3.out.setCell (Nat.le_refl _) _⟩
            case measure => simp [intOf]; omega
          · have hb1 : (x == (v : Int) + 1) = false := beq_eq_false_iff_ne.2 e
            have HXE : Hid (¬ l[k] = ((v + 1 : Nat) : Int)) := by
              unfold Hid
              rw [← HX.out]
              exact e
            have HNK : Hid (q = innN l (v + 1) (2 * no) (k + 1)) := by
              unfold Hid
              rw [HNN.out k hkl HXE.out, HQ.out]
            have HOK : Hid (innO l (v + 1) (2 * no) (outO l v) (k + 1) = innO l (v + 1) (2 * no) (outO l v) k) := HON.out k hkl HXE.out
            clear e
            go_wp2_with fail
            go_roundw
            case rel => exact ⟨k + 1, q, by go_num, rfl, HNK.out, by omega, by rw [HOK.out]; exact G2.out, GB2.out⟩
            case measure => simp [intOf]; omega
        · have hkn : k = l.length := by have := HLN.out; omega
          have HQE : Hid (q = outN l (v + 1)) := by
            unfold Hid
            rw [HQ.out, hkn]
            exact HNA.out
          have HOE : Hid (innO l (v + 1) (2 * no) (outO l v) k = outO l (v + 1)) := by
            unfold Hid
            rw [hkn]
            exact HOO.out
          have hqb : q ≤ 4096 := by
            rw [HQE.out]
            exact out_small HCS.out (by omega)
          clear hkn
          go_wp2_with fail
          go_roundw
          case rel => exact ⟨v + 1, by go_num, by rw [← HQE.out], by omega, by rw [← HOE.out]; exact G2.out, GB2.out⟩
          case measure => simp [intOf]; omega
    · obtain rfl : v = 12 := by omega
      go_wp2_with fail
      go_ret
      exact ⟨rfl, G1.out, GB.out⟩
end Go.Proofs.YtjdlgpnhkfdehaaGreatDoor.Bi

