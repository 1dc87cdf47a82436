/- Texts put together: StrEq, Mark, Held, StrIn, CodesWalks, CodesTop, PutWalks. -/
import Derived.Test.YthbpenanelbbcaaGreatDoorBz7
import Derived.BigRegion
import Derived.BigQuiet
import Derived.Deep.QuietTactic
import Derived.Test.YthbpenanelbbcaaGreatDoorBz8
import Derived.Deep.RegionWith
import Derived.Test.YthbpenanelbbcaaGreatDoorBz10
import Derived.Test.YthbpenanelbbcaaGreatDoorBz20
import Derived.Test.YthbpenanelbbcaaGreatDoorBz30
import Derived.Test.YthbpenanelbbcaaGreatDoorBz0
/- The laws' own look whether two rows of texts are alike. -/
namespace Go.Proofs.YthbpenanelbbcaaGreatDoor.St
open Go.RowKit
end Go.Proofs.YthbpenanelbbcaaGreatDoor.St


/- The laws' marks: the text of a mark, marks written into a row of texts, marks found again. -/
namespace Go.Proofs.YthbpenanelbbcaaGreatDoor.St
open Go.RowKit
def dg (k : Nat) (o : ByteArray) : ByteArray := if _h : k = 0 then o else dg (k / 10) (⟨#[UInt8.ofNat (48 + k % 10)]⟩ ++ o)
termination_by k
decreasing_by omega
def markT (k : Nat) : ByteArray := ⟨#[109]⟩ ++ dg k ⟨#[]⟩
theorem one_str (W : World) (y : Nat) (h : y < 256) : (convert 22 9 (.slice (some ⟨W.heap.size, 0, none⟩) 1 1)).run Tryz.prog (W.alloc (.cells #[.int .u8 (y : Int)] 5)) = .ok (.string ⟨#[UInt8.ofNat y]⟩) (W.alloc (.cells #[.int .u8 (y : Int)] 5)) := by
 refine run_convert_bytes_back (P := Tryz.prog) (W.alloc (.cells #[.int .u8 (y : Int)] 5)) 22 9 5 ⟨W.heap.size, 0, none⟩ 1 [UInt8.ofNat y] Tryz.underlying22 Tryz.underlying5 Tryz.underlying9 ?_
 intro j hj
 match j, hj with
 | 0, _ =>
  simp [Addr.add]
  omega
def marks (k n : Nat) : List ByteArray := (List.range n).map fun j => markT (k + j)
def mmid (l : List ByteArray) (k i : Nat) : List ByteArray := marks k i ++ l.drop i
end Go.Proofs.YthbpenanelbbcaaGreatDoor.St


/- The laws' marks found again; an empty row too. -/
namespace Go.Proofs.YthbpenanelbbcaaGreatDoor.St
open Go.RowKit
end Go.Proofs.YthbpenanelbbcaaGreatDoor.St


/- Rows of texts between two marks of memory: what the laws' helpers do with them. -/
namespace Go.Proofs.YthbpenanelbbcaaGreatDoor.St
open Go.RowKit
def OwnIn (w : World) (lo hi : Nat) (v : Value) (l : List ByteArray) : Prop :=
 (v = .slice none 0 0 ∧ l = []) ∨ ∃ g cap, v = .slice (some ⟨g, 0, none⟩) l.length cap ∧ lo ≤ g ∧ g < hi ∧ IsO w g 9 l
theorem OwnS.inn {w : World} {base : Nat} {v : Value} {l : List ByteArray} (h : OwnS w base v l) : OwnIn w base w.heap.size v l := by
 rcases h.split with h | ⟨g, cap, hv, hg, _, ho⟩
 ·exact .inl h
 ·exact .inr ⟨g, cap, hv, hg, ho.lt, ho⟩
theorem IsS.inn {w : World} {g : Nat} {l : List ByteArray} (h : IsS w g 9 l) (cap : Nat) : OwnIn w g (g + 1) (.slice (some ⟨g, 0, none⟩) l.length cap) l :=
 .inr ⟨g, cap, rfl, Nat.le_refl _, Nat.lt_succ_self _, h.own⟩
theorem OwnIn.below {w w' : World} {lo hi B : Nat} {v : Value} {l : List ByteArray} (h : OwnIn w lo hi v l) (b : Below B w w') (hB : hi ≤ B) : OwnIn w' lo hi v l := by
 rcases h with h | ⟨g, cap, hv, hg, hh, ho⟩
 ·exact .inl h
 ·exact .inr ⟨g, cap, hv, hg, hh, ho.below b (by omega)⟩
theorem OwnIn.aft {w w' : World} {lo hi g : Nat} {v : Value} {l : List ByteArray} (h : OwnIn w lo hi v l) (ha : Aft g w w') (hg : g < lo ∨ hi ≤ g) (hh : hi ≤ w.heap.size) : OwnIn w' lo hi v l := by
 rcases h with h | ⟨g', cap, hv, hg', hh', ho⟩
 ·exact .inl h
 ·exact .inr ⟨g', cap, hv, hg', hh', ho.of_heap (ha.2.2.2.2 g' (by omega) (by omega))⟩
theorem OwnIn.strs {w : World} {lo hi : Nat} {v : Value} {l : List ByteArray} (h : OwnIn w lo hi v l) : ∃ a cap, v = .slice a l.length cap ∧ Strs w hi a l := by
 rcases h with ⟨rfl, rfl⟩ | ⟨g, cap, rfl, _, hh, ho⟩
 ·exact ⟨none, 0, rfl, .inl rfl⟩
 ·exact ⟨_, cap, rfl, ho.strs hh⟩
def Marked (w : World) (lo hi : Nat) (v : Value) (n : Nat) : Prop := OwnIn w lo hi v (marks 1 n)
end Go.Proofs.YthbpenanelbbcaaGreatDoor.St


/- The walks of both CodesOf. -/
namespace Go.Proofs.YthbpenanelbbcaaGreatDoor.Bi
open Go.RowKit
open Go.Proofs.YthbpenanelbbcaaGreatDoor.In (Ints)
open Go.Proofs.YthbpenanelbbcaaGreatDoor.St (IsS made_strs OwnIn IsO)
open Go.Proofs.YthbpenanelbbcaaGreatDoor.St.Tryz (infoS9)
theorem below2 {w w1 w2 : World} (h : Below w.heap.size w w1) (h2 : Below w1.heap.size w1 w2) : Below w.heap.size w w2 := h.trans (h2.mono h.size)
set_option maxRecDepth 100000 in
set_option maxHeartbeats 4000000 in
theorem codes_spec (l : List Int) (a : Option Addr) (cap B : Nat) (w : World) (hi : Ints w B a l) (hB : B ≤ w.heap.size) (hr : right l = true) :
  Calls Tryz.prog 130 #[.slice a l.length cap] w fun e w' => e = .returned (.slice (some ⟨w.heap.size, 0, none⟩) l.length l.length) ∧ IsS w' w.heap.size 9 (codesV l) ∧ Below w.heap.size w w' := by
 obtain ⟨i0, hi0, hz0, hz1, hz2⟩ := info_parts infoS9
 have HS := hideB (hi.mono hB)
 have HCS := hideB (right_yes hr).2
 have hn := (within_yes (right_yes hr).1).1
 clear hi hr
 obtain ⟨n, hln⟩ : ∃ n, n = l.length := ⟨_, rfl⟩
 have HLN := hideB hln
 rw [← hln] at hn ⊢
 clear hln
 go_enter Tryz.func130, Tryz.ntmps130
 go_wp2_with (at_make; refine wpList_make_full _ rfl (.tmp 8) (.tmp 8) 30 rfl w.heap.size 9 i0 (.string ⟨#[]⟩) 1 Tryz.underlying30 hi0 hz0 hz1 .i64 .i64 _ _ n rfl rfl (by simp) (by simp) (by rw [hz2]; omega) (by unfold maxLen; omega) (Nat.le_refl _) ?_; intro w1 hown1 hgrow1; have HR := hideB (made_strs hown1); have HB := hideB ((Below.refl w.heap.size w).grown hgrow1 (Nat.le_refl _) (by simp)); clear hown1 hgrow1)
 go_loopw [5, 4] (fun i m wr => ∃ v : Nat, i = .int .i64 ((v : Int) + 1) ∧ m = .int .i64 (outN l v : Nat) ∧ v ≤ 12 ∧ IsS wr w.heap.size 9 (outO l v) ∧ Below w.heap.size w wr) (fun i _ _ => 13 - (intOf i).toNat)
 case atStart => exact ⟨0, rfl, rfl, by omega, by simp only [outO]; rw [← HLN.out]; exact HR.out, HB.out⟩
 case round =>
  obtain ⟨v, rfl, rfl, hv, h1, hbel⟩ := hrel
  have G1 := hideB h1
  have GB := hideB hbel
  clear h1 hbel
  have ho := out_small HCS.out hv
  have HOL := hideB (outO_length l v)
  by_cases hv12 : v < 12
  ·have HN0 : Hid (innN l (v + 1) (2 * outN l v) 0 = 2 * outN l v) := innN_zero l (v + 1) (2 * outN l v)
   have HNA := hideB (innN_all l v)
   have HNL := hideB (innN_le l (v + 1) (2 * outN l v))
   have HNF := hideB (fun (k : Nat) (hk : k < l.length) (e : l[k] = ((v + 1 : Nat) : Int)) => inn_fits HCS.out hv12 hk e)
   have HNY := hideB (fun (k : Nat) (hk : k < l.length) (e : l[k] = ((v + 1 : Nat) : Int)) => innN_yes (n0 := 2 * outN l v) hk e)
   have HNN := hideB (fun (k : Nat) (hk : k < l.length) (e : ¬ l[k] = ((v + 1 : Nat) : Int)) => innN_no (n0 := 2 * outN l v) hk e)
   have HOY := hideB (fun (k : Nat) (hk : k < l.length) (e : l[k] = ((v + 1 : Nat) : Int)) => innO_yes (n0 := 2 * outN l v) (o := outO l v) hk e)
   have HON := hideB (fun (k : Nat) (hk : k < l.length) (e : ¬ l[k] = ((v + 1 : Nat) : Int)) => innO_no (n0 := 2 * outN l v) (o := outO l v) hk e)
   have HOO : Hid (innO l (v + 1) (2 * outN l v) (outO l v) l.length = outO l (v + 1)) := rfl
   have HIL := hideB (innO_length l (v + 1) (2 * outN l v) (outO l v))
   have hpw : 2 ^ (v + 1) ≤ 4096 := by
    have := Nat.pow_le_pow_right (n := 2) (by decide) (show v + 1 ≤ 12 by omega)
    omega
   have HPW : Hid (∀ x : Nat, x < 2 ^ (v + 1) → x < 4096) := fun x hx => by omega
   clear hpw
   generalize outN l v = no at ho HN0 HNA HNL HNF HNY HNN HOY HON HOO HIL
   have hv13 : (v : Int) + 1 ≤ 12 := by omega
   go_wp2_with fail
   go_loopw [6, 4] (fun i m wr2 => ∃ k q : Nat, i = .int .i64 k ∧ m = .int .i64 q ∧ q = innN l (v + 1) (2 * no) k ∧ k ≤ n ∧ IsS wr2 w.heap.size 9 (innO l (v + 1) (2 * no) (outO l v) k) ∧ Below w.heap.size w wr2) (fun i _ _ => n - (intOf i).toNat)
   case atStart => exact ⟨0, 2 * no, rfl, by go_num, HN0.out.symm, by omega, G1.out, GB.out⟩
   case round =>
    obtain ⟨k, q, rfl, rfl, hq, hk, h2, hbel2⟩ := hrel
    have G2 := hideB h2
    have GB2 := hideB hbel2
    have HQ := hideB hq
    clear h2 hbel2 hq
    by_cases hlt : k < n
    ·have hkl : k < l.length := by rw [← HLN.out]; exact hlt
     obtain ⟨b, off, rfl, hb, hc⟩ := (HS.out.below GB2.out).some (by omega)
     have ci := hc k hkl
     have hqb : q ≤ 2 * no + 257 := by
      have := HNL.out k
      rw [← HQ.out, ← HLN.out] at this
      omega
     obtain ⟨x, hx⟩ : ∃ x, x = l[k] := ⟨_, rfl⟩
     have HX := hideB hx
     rw [← hx] at ci
     clear hc hx
     by_cases e : x = (v : Int) + 1
     ·have hb1 : (x == (v : Int) + 1) = true := beq_iff_eq.2 e
      have HXE : Hid (l[k] = ((v + 1 : Nat) : Int)) := by
       unfold Hid
       rw [← HX.out, e]
       rfl
      have HF : Hid (q < 2 ^ (v + 1)) := by
       unfold Hid
       rw [HQ.out]
       exact HNF.out k hkl HXE.out
      have hq4 := HPW.out q HF.out
      have HNK : Hid (q + 1 = innN l (v + 1) (2 * no) (k + 1)) := by
       unfold Hid
       rw [HNY.out k hkl HXE.out, HQ.out]
      have HOK : Hid (innO l (v + 1) (2 * no) (outO l v) (k + 1) = (innO l (v + 1) (2 * no) (outO l v) k).set k (bitsV q (v + 1))) := by
       unfold Hid
       rw [HOY.out k hkl HXE.out, HQ.out]
      have HBI := hideB (fun W => bits_spec q (v + 1) W (by omega) (by omega) (by omega))
      clear e
      go_wp2_with fail
      refine (HBI.out _).mono ?_
      rintro e w2 ⟨rfl, hb2⟩
      have G3 := hideB (G2.out.below hb2 G2.out.lt)
      have B3 := hideB (below2 GB2.out hb2)
      have cf := G3.out.frozen k
      obtain ⟨v0, ce⟩ : ∃ v0, w2.cell? ⟨w.heap.size, k, none⟩ = some (.string v0) := ⟨_, G3.out.cell (j := k) (by rw [HIL.out, HOL.out]; exact hkl)⟩
      clear hb2
      go_wp2_with fail
      go_roundw
      case rel => exact ⟨k + 1, q + 1, by go_num, by go_num, HNK.out, by omega, by rw [HOK.out]; exact G3.out.set k _, B3.out.setCell (Nat.le_refl _) _⟩
      case measure => simp [intOf]; omega
     ·have hb1 : (x == (v : Int) + 1) = false := beq_eq_false_iff_ne.2 e
      have HXE : Hid (¬ l[k] = ((v + 1 : Nat) : Int)) := by
       unfold Hid
       rw [← HX.out]
       exact e
      have HNK : Hid (q = innN l (v + 1) (2 * no) (k + 1)) := by
       unfold Hid
       rw [HNN.out k hkl HXE.out, HQ.out]
      have HOK : Hid (innO l (v + 1) (2 * no) (outO l v) (k + 1) = innO l (v + 1) (2 * no) (outO l v) k) := HON.out k hkl HXE.out
      clear e
      go_wp2_with fail
      go_roundw
      case rel => exact ⟨k + 1, q, by go_num, rfl, HNK.out, by omega, by rw [HOK.out]; exact G2.out, GB2.out⟩
      case measure => simp [intOf]; omega
    ·have hkn : k = l.length := by have := HLN.out; omega
     have HQE : Hid (q = outN l (v + 1)) := by
      unfold Hid
      rw [HQ.out, hkn]
      exact HNA.out
     have HOE : Hid (innO l (v + 1) (2 * no) (outO l v) k = outO l (v + 1)) := by
      unfold Hid
      rw [hkn]
      exact HOO.out
     have hqb : q ≤ 4096 := by
      rw [HQE.out]
      exact out_small HCS.out (by omega)
     clear hkn
     go_wp2_with fail
     go_roundw
     case rel => exact ⟨v + 1, by go_num, by rw [← HQE.out], by omega, by rw [← HOE.out]; exact G2.out, GB2.out⟩
     case measure => simp [intOf]; omega
  ·obtain rfl : v = 12 := by omega
   go_wp2_with fail
   go_ret
   exact ⟨rfl, G1.out, GB.out⟩
set_option maxRecDepth 100000 in
set_option maxHeartbeats 4000000 in
theorem codes_yes (l : List Int) (a : Option Addr) (cap B : Nat) (w : World) (hi : Ints w B a l) (hB : B ≤ w.heap.size) (hr : right l = true) :
  Calls Tryz.prog 83 #[.slice a l.length cap] w fun e w' => e = .returned (.slice (some ⟨w.heap.size, 0, none⟩) l.length l.length) ∧ IsS w' w.heap.size 9 (codesV l) ∧ Below w.heap.size w w' := by
 obtain ⟨i0, hi0, hz0, hz1, hz2⟩ := info_parts infoS9
 have HS := hideB (hi.mono hB)
 have HRI := hideB (right_impl l a cap B w hi (by have := (within_yes (right_yes hr).1).1; omega))
 rw [hr] at HRI
 have HCS := hideB (right_yes hr).2
 have hn := (within_yes (right_yes hr).1).1
 clear hi hr
 obtain ⟨n, hln⟩ : ∃ n, n = l.length := ⟨_, rfl⟩
 have HLN := hideB hln
 rw [← hln] at hn HRI ⊢
 clear hln
 go_enter Tryz.func83, Tryz.ntmps83
 go_wp2_with fail
 refine HRI.out.mono ?_
 rintro e w' ⟨rfl, hw⟩
 subst w'
 go_wp2_with (at_make; refine wpList_make_full _ rfl (.tmp 12) (.tmp 12) 30 rfl w.heap.size 9 i0 (.string ⟨#[]⟩) 1 Tryz.underlying30 hi0 hz0 hz1 .i64 .i64 _ _ n rfl rfl (by simp) (by simp) (by rw [hz2]; omega) (by unfold maxLen; omega) (Nat.le_refl _) ?_; intro w1 hown1 hgrow1; have HR := hideB (made_strs hown1); have HB := hideB ((Below.refl w.heap.size w).grown hgrow1 (Nat.le_refl _) (by simp)); clear hown1 hgrow1)
 go_loopw [5, 4] (fun i m wr => ∃ v : Nat, i = .int .i64 ((v : Int) + 1) ∧ m = .int .i64 (outN l v : Nat) ∧ v ≤ 12 ∧ IsS wr w.heap.size 9 (outO l v) ∧ Below w.heap.size w wr) (fun i _ _ => 13 - (intOf i).toNat)
 case atStart => exact ⟨0, rfl, rfl, by omega, by simp only [outO]; rw [← HLN.out]; exact HR.out, HB.out⟩
 case round =>
  obtain ⟨v, rfl, rfl, hv, h1, hbel⟩ := hrel
  have G1 := hideB h1
  have GB := hideB hbel
  clear h1 hbel
  have ho := out_small HCS.out hv
  have HOL := hideB (outO_length l v)
  by_cases hv12 : v < 12
  ·have HN0 : Hid (innN l (v + 1) (2 * outN l v) 0 = 2 * outN l v) := innN_zero l (v + 1) (2 * outN l v)
   have HNA := hideB (innN_all l v)
   have HNL := hideB (innN_le l (v + 1) (2 * outN l v))
   have HNF := hideB (fun (k : Nat) (hk : k < l.length) (e : l[k] = ((v + 1 : Nat) : Int)) => inn_fits HCS.out hv12 hk e)
   have HNY := hideB (fun (k : Nat) (hk : k < l.length) (e : l[k] = ((v + 1 : Nat) : Int)) => innN_yes (n0 := 2 * outN l v) hk e)
   have HNN := hideB (fun (k : Nat) (hk : k < l.length) (e : ¬ l[k] = ((v + 1 : Nat) : Int)) => innN_no (n0 := 2 * outN l v) hk e)
   have HOY := hideB (fun (k : Nat) (hk : k < l.length) (e : l[k] = ((v + 1 : Nat) : Int)) => innO_yes (n0 := 2 * outN l v) (o := outO l v) hk e)
   have HON := hideB (fun (k : Nat) (hk : k < l.length) (e : ¬ l[k] = ((v + 1 : Nat) : Int)) => innO_no (n0 := 2 * outN l v) (o := outO l v) hk e)
   have HOO : Hid (innO l (v + 1) (2 * outN l v) (outO l v) l.length = outO l (v + 1)) := rfl
   have HIL := hideB (innO_length l (v + 1) (2 * outN l v) (outO l v))
   have hpw : 2 ^ (v + 1) ≤ 4096 := by
    have := Nat.pow_le_pow_right (n := 2) (by decide) (show v + 1 ≤ 12 by omega)
    omega
   have HPW : Hid (∀ x : Nat, x < 2 ^ (v + 1) → x < 4096) := fun x hx => by omega
   clear hpw
   generalize outN l v = no at ho HN0 HNA HNL HNF HNY HNN HOY HON HOO HIL
   have hv13 : (v : Int) + 1 ≤ 12 := by omega
   go_wp2_with fail
   go_loopw [22, 4] (fun i m wr2 => ∃ k q : Nat, i = .int .i64 k ∧ m = .int .i64 q ∧ q = innN l (v + 1) (2 * no) k ∧ k ≤ n ∧ IsS wr2 w.heap.size 9 (innO l (v + 1) (2 * no) (outO l v) k) ∧ Below w.heap.size w wr2) (fun i _ _ => n - (intOf i).toNat)
   case atStart => exact ⟨0, 2 * no, rfl, by go_num, HN0.out.symm, by omega, G1.out, GB.out⟩
   case round =>
    obtain ⟨k, q, rfl, rfl, hq, hk, h2, hbel2⟩ := hrel
    have G2 := hideB h2
    have GB2 := hideB hbel2
    have HQ := hideB hq
    clear h2 hbel2 hq
    by_cases hlt : k < n
    ·have hkl : k < l.length := by rw [← HLN.out]; exact hlt
     obtain ⟨b, off, rfl, hb, hc⟩ := (HS.out.below GB2.out).some (by omega)
     have ci := hc k hkl
     have hqb : q ≤ 2 * no + 257 := by
      have := HNL.out k
      rw [← HQ.out, ← HLN.out] at this
      omega
     obtain ⟨x, hx⟩ : ∃ x, x = l[k] := ⟨_, rfl⟩
     have HX := hideB hx
     rw [← hx] at ci
     clear hc hx
     by_cases e : x = (v : Int) + 1
     ·have hb1 : (x == (v : Int) + 1) = true := beq_iff_eq.2 e
      have HXE : Hid (l[k] = ((v + 1 : Nat) : Int)) := by
       unfold Hid
       rw [← HX.out, e]
       rfl
      have HF : Hid (q < 2 ^ (v + 1)) := by
       unfold Hid
       rw [HQ.out]
       exact HNF.out k hkl HXE.out
      have hq4 := HPW.out q HF.out
      have HNK : Hid (q + 1 = innN l (v + 1) (2 * no) (k + 1)) := by
       unfold Hid
       rw [HNY.out k hkl HXE.out, HQ.out]
      have HOK : Hid (innO l (v + 1) (2 * no) (outO l v) (k + 1) = (innO l (v + 1) (2 * no) (outO l v) k).set k (bitsV q (v + 1))) := by
       unfold Hid
       rw [HOY.out k hkl HXE.out, HQ.out]
      have HBI := hideB (fun W => bitsOf_yes q (v + 1) W (by omega) (by omega) HF.out)
      clear e
      go_wp2_with fail
      refine (HBI.out _).mono ?_
      rintro e w2 ⟨rfl, hb2⟩
      have G3 := hideB (G2.out.below hb2 G2.out.lt)
      have B3 := hideB (below2 GB2.out hb2)
      have cf := G3.out.frozen k
      obtain ⟨v0, ce⟩ : ∃ v0, w2.cell? ⟨w.heap.size, k, none⟩ = some (.string v0) := ⟨_, G3.out.cell (j := k) (by rw [HIL.out, HOL.out]; exact hkl)⟩
      clear hb2
      go_wp2_with fail
      go_roundw
      case rel => exact ⟨k + 1, q + 1, by go_num, by go_num, HNK.out, by omega, by rw [HOK.out]; exact G3.out.set k _, B3.out.setCell (Nat.le_refl _) _⟩
      case measure => simp [intOf]; omega
     ·have hb1 : (x == (v : Int) + 1) = false := beq_eq_false_iff_ne.2 e
      have HXE : Hid (¬ l[k] = ((v + 1 : Nat) : Int)) := by
       unfold Hid
       rw [← HX.out]
       exact e
      have HNK : Hid (q = innN l (v + 1) (2 * no) (k + 1)) := by
       unfold Hid
       rw [HNN.out k hkl HXE.out, HQ.out]
      have HOK : Hid (innO l (v + 1) (2 * no) (outO l v) (k + 1) = innO l (v + 1) (2 * no) (outO l v) k) := HON.out k hkl HXE.out
      clear e
      go_wp2_with fail
      go_roundw
      case rel => exact ⟨k + 1, q, by go_num, rfl, HNK.out, by omega, by rw [HOK.out]; exact G2.out, GB2.out⟩
      case measure => simp [intOf]; omega
    ·have hkn : k = l.length := by have := HLN.out; omega
     have HQE : Hid (q = outN l (v + 1)) := by
      unfold Hid
      rw [HQ.out, hkn]
      exact HNA.out
     have HOE : Hid (innO l (v + 1) (2 * no) (outO l v) k = outO l (v + 1)) := by
      unfold Hid
      rw [hkn]
      exact HOO.out
     have hqb : q ≤ 4096 := by
      rw [HQE.out]
      exact out_small HCS.out (by omega)
     clear hkn
     go_wp2_with fail
     go_roundw
     case rel => exact ⟨v + 1, by go_num, by rw [← HQE.out], by omega, by rw [← HOE.out]; exact G2.out, GB2.out⟩
     case measure => simp [intOf]; omega
  ·obtain rfl : v = 12 := by omega
   go_wp2_with fail
   go_ret
   exact ⟨rfl, G1.out, GB.out⟩
end Go.Proofs.YthbpenanelbbcaaGreatDoor.Bi


/- What both CodesOf answer. -/
namespace Go.Proofs.YthbpenanelbbcaaGreatDoor.Bi
open Go.RowKit
open Go.Proofs.YthbpenanelbbcaaGreatDoor.In (Ints)
open Go.Proofs.YthbpenanelbbcaaGreatDoor.St (IsS OwnIn IsO)
end Go.Proofs.YthbpenanelbbcaaGreatDoor.Bi


/- The walks of both CodePut. -/
namespace Go.Proofs.YthbpenanelbbcaaGreatDoor.Bi
open Go.RowKit
open Go.Proofs.YthbpenanelbbcaaGreatDoor.In (Ints)
open Go.Proofs.YthbpenanelbbcaaGreatDoor.St (IsS)
open Go.Proofs.YthbpenanelbbcaaGreatDoor.Nu (ret_strJ own_string bv)
theorem getD_get {l : List Int} {i : Nat} (hi : i < l.length) : l.getD i 0 = l[i] := by rw [List.getD_eq_getElem?_getD, List.getElem?_eq_getElem hi]; rfl
theorem nonempty (s : ByteArray) (h : 1 ≤ s.size) : s.toList.isEmpty = false := by
 rw [ByteArray.toList_eq]
 cases hd : s.data.toList with
 | nil => exfalso; have := congrArg List.length hd; rw [Array.length_toList] at this; exact absurd (show s.size = 0 from this) (by omega)
 | cons _ _ => rfl
theorem okS_nat {l : List Int} {i : Nat} (h : i < l.length) (h0 : 0 < l.getD i 0) : okS l (i : Int) := ⟨by omega, by omega, by simpa using h0⟩
set_option maxRecDepth 100000 in
set_option maxHeartbeats 4000000 in
theorem put_yes (l s : List Int) (a a' : Option Addr) (cap cap' : Nat) (w : World) (hl : Ints w w.heap.size a l) (hs : Ints w w.heap.size a' s) (hm : ¬ 400 < s.length) (hw : whole l = true) :
    Calls Tryz.prog 48 #[.slice a l.length cap, .slice a' s.length cap'] w fun e w' => e = .returned (.string (putR l s)) ∧ Below w.heap.size w w' := by
  have HW := hideB (whole_impl l a cap w.heap.size w hl (by have := whole_len hw; omega))
  rw [hw] at HW
  have HC := hideB (codes_yes l a cap w.heap.size w hl (Nat.le_refl _) (whole_right hw))
  have HS := hideB hs
  have HK := hideB (whole_ok hw)
  have HWW := hideB hw
  have hn := whole_len hw
  have HCL := hideB (codesV_length l)
  have HYES := hideB (fun (h : ∀ x ∈ s, okS l x) => putR_yes hm hw h)
  have HBAD := hideB (fun (j : Nat) (hj : j < s.length) (h : ¬ okS l s[j]) => putR_bad hj h)
  clear hl hs hw
  obtain ⟨n, hln⟩ : ∃ n, n = l.length := ⟨_, rfl⟩
  obtain ⟨m, hms⟩ : ∃ m, m = s.length := ⟨_, rfl⟩
  obtain ⟨r, hr⟩ : ∃ r, r = putR l s := ⟨_, rfl⟩
  have HLN := hideB hln
  have HMS := hideB hms
  rw [← hr] at HYES HBAD ⊢
  rw [← hln] at hn HW HC HCL ⊢
  rw [← hms] at hm ⊢
  clear hln hms hr
  have hd4 : decide ((400 : Int) < m) = false := decide_eq_false (by omega)
  go_enter Tryz.func48, Tryz.ntmps48
  go_wp2_with fail
  refine HW.out.mono ?_
  rintro e w' ⟨rfl, hw⟩
  subst w'
  go_wp2_with fail
  refine HC.out.mono ?_
  rintro e w1 ⟨rfl, hi1, hb1⟩
  have X1 := hideB hi1
  have B1 := hideB hb1
  have z1 : w.heap.size < w1.heap.size := hi1.lt
  clear hi1 hb1
  go_wp2_with fail
  go_loopw [21] (fun i wr => ∃ k : Nat, i = .int .i64 k ∧ k ≤ m ∧ (∀ j (hj : j < s.length), j < k → okS l s[j]) ∧ Lib.IsBuilder 54 5 w1.heap.size w1.heap.size (Lib.byteCells (putL l (s.take k))) wr ∧ Below w1.heap.size w1 wr ∧ w1.heap.size ≤ wr.heap.size) (fun i _ => m - (intOf i).toNat)
  case atStart => exact ⟨0, rfl, Nat.zero_le _, fun j hj h0 => absurd h0 (Nat.not_lt_zero j), Lib.fresh_isBuilder _ _ w1, (Below.refl _ _).alloc (Nat.le_refl _) _, by simp⟩
  case round =>
    obtain ⟨k, rfl, hk, hall, hbu, hbel, hbz⟩ := hrel
    have HA := hideB hall
    have HBU := hideB hbu
    have GB := hideB hbel
    clear hall hbu hbel
    by_cases hlt : k < m
    · have hkl : k < s.length := by rw [← HMS.out]; exact hlt
      obtain ⟨b, off, rfl, hb, hc⟩ := (HS.out.below (B1.out.trans (GB.out.mono (Nat.le_of_lt z1)))).some (by omega)
      have ci := hc k hkl
      have HM := hideB (putL_more (l := l) hkl)
      have HB1 := hideB (HBAD.out k hkl)
      obtain ⟨x, hx⟩ : ∃ x, x = s[k] := ⟨_, rfl⟩
      have HX := hideB hx
      rw [← hx] at ci HM HB1
      clear hc hx
      by_cases h0 : x < 0
      · have HE := hideB (HB1.out (fun h => by have := h.1; omega))
        go_wp2_with fail
        go_ret
        exact ⟨ret_strJ HE.out.symm, B1.out.trans (GB.out.mono (Nat.le_of_lt z1))⟩
      · have hd0 : decide (x < 0) = false := decide_eq_false h0
        obtain ⟨i, rfl⟩ : ∃ i : Nat, x = i := ⟨x.toNat, by omega⟩
        by_cases h1 : n ≤ i
        · have HE := hideB (HB1.out (fun h => by have := h.2.1; have := HLN.out; omega))
          have hge : (n : Int) ≤ i := by omega
          go_wp2_with fail
          go_ret
          exact ⟨ret_strJ HE.out.symm, B1.out.trans (GB.out.mono (Nat.le_of_lt z1))⟩
        · have hd1 : decide ((n : Int) ≤ i) = false := decide_eq_false (by omega)
          have hil : i < l.length := by rw [← HLN.out]; omega
          have hin : i < n := by omega
          have hiv : i < (codesV l).length := by rw [HCL.out]; omega
          have cc := (X1.out.below GB.out z1).cell hiv
          rw [codes_get l HK.out i hiv] at cc
          have HCO := hideB (codeOf_none l i)
          have HOK := hideB (okS_nat hil)
          have hcl := codeOf_le l HK.out i
          obtain ⟨c, hcc⟩ : ∃ c, c = codeOf l i := ⟨_, rfl⟩
          have HCC := hideB hcc
          rw [← hcc] at cc HCO hcl
          clear hcc
          by_cases hp : 0 < l.getD i 0
          · have hne : c.toList.isEmpty = false := nonempty c (by rw [HCC.out, codeOf_size]; omega)
            have HOK2 := hideB (HOK.out hp)
            have HLE : Hid ((Lib.byteCells (putL l (s.take k))).length + c.size ≤ 140737488355328) := by
              unfold Hid
              have h1 := putL_le l HK.out (s.take k)
              rw [List.length_take] at h1
              rw [Lib.byteCells_length]
              omega
            have HNX : Hid (Lib.byteCells (putL l (s.take k)) ++ Lib.strCells c = Lib.byteCells (putL l (s.take (k + 1)))) := by
              unfold Hid
              rw [HM.out, Lib.byteCells_append, Lib.strCells_eq, HCC.out]
              rfl
            have HWR := hideB (Sb.write_any w1.heap.size w1.heap.size _ c wr HBU.out HLE.out hbz)
            clear hp hcl
            go_wp2_with fail
            refine HWR.out.mono ?_
            rintro e w2 ⟨rfl, hbt, hb2⟩
            rw [HNX.out] at hbt
            have HBT := hideB hbt
            have B2 := hideB (GB.out.trans hb2)
            have z2 := hb2.size
            clear hbt hb2
            go_wp2_with fail
            go_roundw
            case rel =>
              refine ⟨k + 1, by go_num, by omega, fun j hj hjk => ?_, Or.inr HBT.out, B2.out, by omega⟩
              by_cases e : j = k
              · subst e
                rw [← HX.out]
                exact HOK2.out
              · exact HA.out j hj (by omega)
            case measure => simp [intOf]; omega
          · have hce := HCO.out hp
            have HE := hideB (HB1.out (fun h => hp (by simpa using h.2.2)))
            subst hce
            clear hp hcl
            go_wp2_with fail
            go_ret
            exact ⟨ret_strJ HE.out.symm, B1.out.trans (GB.out.mono (Nat.le_of_lt z1))⟩
    · have HE : Hid (r = ⟨(putL l (s.take k)).toArray⟩) := by
        unfold Hid
        rw [List.take_of_length_le (by have := HMS.out; omega)]
        exact HYES.out (fun x hx => by
          obtain ⟨j, hj, rfl⟩ := List.getElem_of_mem hx
          exact HA.out j hj (by have := HMS.out; omega))
      have HST := hideB (Sb.string_any w1.heap.size w1.heap.size _ wr HBU.out hbz)
      go_wp2_with fail
      refine HST.out.mono ?_
      rintro e w2 ⟨rfl, hb2⟩
      have B2 := hideB (GB.out.trans hb2)
      clear hb2
      go_wp2_with fail
      go_ret
      exact ⟨ret_strJ HE.out.symm, B1.out.trans (B2.out.mono (Nat.le_of_lt z1))⟩
set_option maxHeartbeats 1000000 in
theorem put_impl (l s : List Int) (a a' : Option Addr) (cap cap' : Nat) (w : World) (hl : Ints w w.heap.size a l) (hs : Ints w w.heap.size a' s) (hn : l.length ≤ 1048576) (hm : s.length ≤ 1048576) :
  Calls Tryz.prog 48 #[.slice a l.length cap, .slice a' s.length cap'] w fun e w' => e = .returned (.string (putR l s)) ∧ Below w.heap.size w w' := by
 by_cases h4 : 400 < s.length
 ·have HE := hideB (putR_no (l := l) (Or.inl h4))
  generalize putR l s = r at HE ⊢
  clear hl hs
  generalize s.length = m at h4 hm ⊢
  generalize l.length = n at hn ⊢
  go_enter Tryz.func48, Tryz.ntmps48
  go_wp2_with fail
  go_ret
  exact ⟨ret_strJ HE.out.symm, Below.refl _ _⟩
 ·cases hw : whole l with
  | true => exact put_yes l s a a' cap cap' w hl hs h4 hw
  | false =>
   have HE := hideB (putR_no (s := s) (Or.inr hw))
   have HW := hideB (whole_impl l a cap w.heap.size w hl hn)
   rw [hw] at HW
   have hd4 : decide ((400 : Int) < s.length) = false := decide_eq_false (by omega)
   generalize putR l s = r at HE ⊢
   clear hl hs hw
   generalize s.length = m at h4 hm hd4 ⊢
   generalize l.length = n at hn HW ⊢
   go_enter Tryz.func48, Tryz.ntmps48
   go_wp2_with fail
   refine HW.out.mono ?_
   rintro e w' ⟨rfl, hw⟩
   subst w'
   go_wp2_with fail
   go_ret
   exact ⟨ret_strJ HE.out.symm, Below.refl _ _⟩
end Go.Proofs.YthbpenanelbbcaaGreatDoor.Bi

