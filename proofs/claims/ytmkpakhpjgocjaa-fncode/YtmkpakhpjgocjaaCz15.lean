/- Texts put together: StrIn, CodesWalks, CodesTop. -/
import Derived.Test.YtmkpakhpjgocjaaStrOwn
import Derived.Test.YtmkpakhpjgocjaaCz14
import Derived.Test.YtmkpakhpjgocjaaCz11
import Derived.Test.YtmkpakhpjgocjaaCz13
/- Rows of texts between two marks of memory: what the laws' helpers do with them. -/
namespace Go.Proofs.Ytmkpakhpjgocjaa.St
open Go.RowKit

/-- a row of texts in a block from lo on and below hi, or nil -/
def OwnIn (w : World) (lo hi : Nat) (v : Value) (l : List ByteArray) : Prop :=
  (v = .slice none 0 0 ∧ l = []) ∨ ∃ g cap, v = .slice (some ⟨g, 0, none⟩) l.length cap ∧ lo ≤ g ∧ g < hi ∧ IsO w g 9 l
theorem OwnS.inn {w : World} {base : Nat} {v : Value} {l : List ByteArray} (h : OwnS w base v l) : OwnIn w base w.heap.size v l := by
  rcases h.split with h | ⟨g, cap, hv, hg, _, ho⟩
  · exact .inl h
  · exact .inr ⟨g, cap, hv, hg, ho.lt, ho⟩
theorem IsS.inn {w : World} {g : Nat} {l : List ByteArray} (h : IsS w g 9 l) (cap : Nat) : OwnIn w g (g + 1) (.slice (some ⟨g, 0, none⟩) l.length cap) l :=
  .inr ⟨g, cap, rfl, Nat.le_refl _, Nat.lt_succ_self _, h.own⟩
theorem OwnIn.below {w w' : World} {lo hi B : Nat} {v : Value} {l : List ByteArray} (h : OwnIn w lo hi v l) (b : Below B w w') (hB : hi ≤ B) : OwnIn w' lo hi v l := by
  rcases h with h | ⟨g, cap, hv, hg, hh, ho⟩
  · exact .inl h
  · exact .inr ⟨g, cap, hv, hg, hh, ho.below b (by omega)⟩
theorem OwnIn.aft {w w' : World} {lo hi g : Nat} {v : Value} {l : List ByteArray} (h : OwnIn w lo hi v l) (ha : Aft g w w') (hg : g < lo ∨ hi ≤ g) (hh : hi ≤ w.heap.size) : OwnIn w' lo hi v l := by
  rcases h with h | ⟨g', cap, hv, hg', hh', ho⟩
  · exact .inl h
  · exact .inr ⟨g', cap, hv, hg', hh', ho.of_heap (ha.2.2.2.2 g' (by omega) (by omega))⟩
theorem OwnIn.strs {w : World} {lo hi : Nat} {v : Value} {l : List ByteArray} (h : OwnIn w lo hi v l) : ∃ a cap, v = .slice a l.length cap ∧ Strs w hi a l := by
  rcases h with ⟨rfl, rfl⟩ | ⟨g, cap, rfl, _, hh, ho⟩
  · exact ⟨none, 0, rfl, .inl rfl⟩
  · exact ⟨_, cap, rfl, ho.strs hh⟩

theorem eq_in {w : World} {lo hi lo' hi' : Nat} {u v : Value} {l : List ByteArray} (hu : OwnIn w lo hi u l) (hv : OwnIn w lo' hi' v l) (hn : l.length ≤ 1048576) :
    Calls Try.prog 61 #[u, v] w fun e w' => e = .returned (.bool true) ∧ Below w.heap.size w w' := by
  obtain ⟨a, cap, rfl, ha⟩ := hu.strs
  obtain ⟨b, cap', rfl, hb⟩ := hv.strs
  exact eq_any a b cap cap' l w (max hi hi') (ha.mono (Nat.le_max_left _ _)) (hb.mono (Nat.le_max_right _ _)) hn

/-- the marks stand in a row of so many texts -/
def Marked (w : World) (lo hi : Nat) (v : Value) (n : Nat) : Prop := OwnIn w lo hi v (marks 1 n)
theorem mark_in {w : World} {lo hi : Nat} {v : Value} {l : List ByteArray} (h : OwnIn w lo hi v l) (hn : l.length ≤ 1048576) :
    Calls Try.prog 62 #[v, .int .i64 1] w fun e w' => e = .returned (.int .i64 (1 + l.length)) ∧ OwnIn w' lo hi v (marks 1 l.length) ∧ ∃ g, (g = lo ∨ (lo ≤ g ∧ g < hi)) ∧ Aft g w w' := by
  rcases h with ⟨rfl, rfl⟩ | ⟨g, cap, rfl, hg, hh, ho⟩
  · refine (mark_none none 0 w).mono ?_
    rintro e w' ⟨rfl, rfl⟩
    exact ⟨rfl, .inl ⟨rfl, rfl⟩, lo, .inl rfl, Aft.refl _ _⟩
  · refine (mark_any g 9 cap l w ho hn).mono ?_
    rintro e w' ⟨rfl, hi', ha⟩
    exact ⟨rfl, .inr ⟨g, cap, by rw [marks_length], hg, hh, hi'⟩, g, .inr ⟨hg, hh⟩, ha⟩
theorem held_in {w : World} {lo hi n : Nat} {v : Value} (h : OwnIn w lo hi v (marks 1 n)) (hn : n ≤ 1048576) :
    Calls Try.prog 63 #[v, .int .i64 1] w fun e w' => e = .returned (.int .i64 (1 + n)) ∧ Below w.heap.size w w' := by
  rcases h with ⟨rfl, h0⟩ | ⟨g, cap, rfl, hg, hh, ho⟩
  · have : n = 0 := by rw [← marks_length 1 n, h0]; rfl
    subst this
    refine (held_none none 0 w).mono ?_
    rintro e w' ⟨rfl, rfl⟩
    exact ⟨rfl, Below.refl _ _⟩
  · rw [marks_length]
    exact held_any g 9 cap n w ho hn
end Go.Proofs.Ytmkpakhpjgocjaa.St

/- The walks of both CodesOf. -/
namespace Go.Proofs.Ytmkpakhpjgocjaa.Bi
open Go.RowKit
open Go.Proofs.Ytmkpakhpjgocjaa.In (Ints)
open Go.Proofs.Ytmkpakhpjgocjaa.St (IsS made_strs OwnIn IsO)
open Go.Proofs.Ytmkpakhpjgocjaa.St.Try (infoS9)

theorem below2 {w w1 w2 : World} (h : Below w.heap.size w w1) (h2 : Below w1.heap.size w1 w2) : Below w.heap.size w w2 := h.trans (h2.mono h.size)

set_option maxRecDepth 100000 in
set_option maxHeartbeats 4000000 in
theorem codes_spec (l : List Int) (a : Option Addr) (cap B : Nat) (w : World) (hi : Ints w B a l) (hB : B ≤ w.heap.size) (hr : right l = true) :
    Calls Try.prog 92 #[.slice a l.length cap] w fun e w' => e = .returned (.slice (some ⟨w.heap.size, 0, none⟩) l.length l.length) ∧ IsS w' w.heap.size 9 (codesV l) ∧ Below w.heap.size w w' := by
  obtain ⟨i0, hi0, hz0, hz1, hz2⟩ := info_parts infoS9
  have HS := hideB (hi.mono hB)
  have HCS := hideB (right_yes hr).2
  have hn := (within_yes (right_yes hr).1).1
  clear hi hr
  obtain ⟨n, hln⟩ : ∃ n, n = l.length := ⟨_, rfl⟩
  have HLN := hideB hln
  rw [← hln] at hn ⊢
  clear hln
  go_enter Try.func92, Try.ntmps92
  go_wp2_with (at_make; refine wpList_make_full _ rfl (.tmp 8) (.tmp 8) 43 rfl w.heap.size 9 i0 (.string ⟨#[]⟩) 1 Try.underlying43 hi0 hz0 hz1 .i64 .i64 _ _ n rfl rfl (by simp) (by simp) (by rw [hz2]; omega) (by unfold maxLen; omega) (Nat.le_refl _) ?_; intro w1 hown1 hgrow1; have HR := hideB (made_strs hown1); have HB := hideB ((Below.refl w.heap.size w).grown hgrow1 (Nat.le_refl _) (by simp)); clear hown1 hgrow1)
  go_loopw [5, 4] (fun i m wr => ∃ v : Nat, i = .int .i64 ((v : Int) + 1) ∧ m = .int .i64 (outN l v : Nat) ∧ v ≤ 12 ∧ IsS wr w.heap.size 9 (outO l v) ∧ Below w.heap.size w wr) (fun i _ _ => 13 - (intOf i).toNat)
  case atStart => exact ⟨0, rfl, rfl, by omega, by simp only [outO]; rw [← HLN.out]; exact HR.out, HB.out⟩
  case round =>
    obtain ⟨v, rfl, rfl, hv, h1, hbel⟩ := hrel
    have G1 := hideB h1
    have GB := hideB hbel
    clear h1 hbel
    have ho := out_small HCS.out hv
    have HOL := hideB (outO_length l v)
    by_cases hv12 : v < 12
    · have HN0 : Hid (innN l (v + 1) (2 * outN l v) 0 = 2 * outN l v) := innN_zero l (v + 1) (2 * outN l v)
      have HNA := hideB (innN_all l v)
      have HNL := hideB (innN_le l (v + 1) (2 * outN l v))
      have HNF := hideB (fun (k : Nat) (hk : k < l.length) (e : l[k] = ((v + 1 : Nat) : Int)) => inn_fits HCS.out hv12 hk e)
      have HNY := hideB (fun (k : Nat) (hk : k < l.length) (e : l[k] = ((v + 1 : Nat) : Int)) => innN_yes (n0 := 2 * outN l v) hk e)
      have HNN := hideB (fun (k : Nat) (hk : k < l.length) (e : ¬ l[k] = ((v + 1 : Nat) : Int)) => innN_no (n0 := 2 * outN l v) hk e)
      have HOY := hideB (fun (k : Nat) (hk : k < l.length) (e : l[k] = ((v + 1 : Nat) : Int)) => innO_yes (n0 := 2 * outN l v) (o := outO l v) hk e)
      have HON := hideB (fun (k : Nat) (hk : k < l.length) (e : ¬ l[k] = ((v + 1 : Nat) : Int)) => innO_no (n0 := 2 * outN l v) (o := outO l v) hk e)
      have HOO : Hid (innO l (v + 1) (2 * outN l v) (outO l v) l.length = outO l (v + 1)) := rfl
      have HIL := hideB (innO_length l (v + 1) (2 * outN l v) (outO l v))
      have hpw : 2 ^ (v + 1) ≤ 4096 := by
        have := Nat.pow_le_pow_right (n := 2) (by decide) (show v + 1 ≤ 12 by omega)
        omega
      have HPW : Hid (∀ x : Nat, x < 2 ^ (v + 1) → x < 4096) := fun x hx => by omega
      clear hpw
      generalize outN l v = no at ho HN0 HNA HNL HNF HNY HNN HOY HON HOO HIL
      have hv13 : (v : Int) + 1 ≤ 12 := by omega
      go_wp2_with fail
      go_loopw [6, 4] (fun i m wr2 => ∃ k q : Nat, i = .int .i64 k ∧ m = .int .i64 q ∧ q = innN l (v + 1) (2 * no) k ∧ k ≤ n ∧ IsS wr2 w.heap.size 9 (innO l (v + 1) (2 * no) (outO l v) k) ∧ Below w.heap.size w wr2) (fun i _ _ => n - (intOf i).toNat)
      case atStart => exact ⟨0, 2 * no, rfl, by go_num, HN0.out.symm, by omega, G1.out, GB.out⟩
      case round =>
        obtain ⟨k, q, rfl, rfl, hq, hk, h2, hbel2⟩ := hrel
        have G2 := hideB h2
        have GB2 := hideB hbel2
        have HQ := hideB hq
        clear h2 hbel2 hq
        by_cases hlt : k < n
        · have hkl : k < l.length := by rw [← HLN.out]; exact hlt
          obtain ⟨b, off, rfl, hb, hc⟩ := (HS.out.below GB2.out).some (by omega)
          have ci := hc k hkl
          have hqb : q ≤ 2 * no + 257 := by
            have := HNL.out k
            rw [← HQ.out, ← HLN.out] at this
            omega
          obtain ⟨x, hx⟩ : ∃ x, x = l[k] := ⟨_, rfl⟩
          have HX := hideB hx
          rw [← hx] at ci
          clear hc hx
          by_cases e : x = (v : Int) + 1
          · have hb1 : (x == (v : Int) + 1) = true := beq_iff_eq.2 e
            have HXE : Hid (l[k] = ((v + 1 : Nat) : Int)) := by
              unfold Hid
              rw [← HX.out, e]
              rfl
            have HF : Hid (q < 2 ^ (v + 1)) := by
              unfold Hid
              rw [HQ.out]
              exact HNF.out k hkl HXE.out
            have hq4 := HPW.out q HF.out
            have HNK : Hid (q + 1 = innN l (v + 1) (2 * no) (k + 1)) := by
              unfold Hid
              rw [HNY.out k hkl HXE.out, HQ.out]
            have HOK : Hid (innO l (v + 1) (2 * no) (outO l v) (k + 1) = (innO l (v + 1) (2 * no) (outO l v) k).set k (bitsV q (v + 1))) := by
              unfold Hid
              rw [HOY.out k hkl HXE.out, HQ.out]
            have HBI := hideB (fun W => bits_spec q (v + 1) W (by omega) (by omega) (by omega))
            clear e
            go_wp2_with fail
            refine (HBI.out _).mono ?_
            rintro e w2 ⟨rfl, hb2⟩
            have G3 := hideB (G2.out.below hb2 G2.out.lt)
            have B3 := hideB (below2 GB2.out hb2)
            have cf := G3.out.frozen k
            obtain ⟨v0, ce⟩ : ∃ v0, w2.cell? ⟨w.heap.size, k, none⟩ = some (.string v0) := ⟨_, G3.out.cell (j := k) (by rw [HIL.out, HOL.out]; exact hkl)⟩
            clear hb2
            go_wp2_with fail
            go_roundw
            case rel => exact ⟨k + 1, q + 1, by go_num, by go_num, HNK.out, by omega, by rw [HOK.out]; exact G3.out.set k _, B3.out.setCell (Nat.le_refl _) _⟩
            case measure => simp [intOf]; omega
          · have hb1 : (x == (v : Int) + 1) = false := beq_eq_false_iff_ne.2 e
            have HXE : Hid (¬ l[k] = ((v + 1 : Nat) : Int)) := by
              unfold Hid
              rw [← HX.out]
              exact e
            have HNK : Hid (q = innN l (v + 1) (2 * no) (k + 1)) := by
              unfold Hid
              rw [HNN.out k hkl HXE.out, HQ.out]
            have HOK : Hid (innO l (v + 1) (2 * no) (outO l v) (k + 1) = innO l (v + 1) (2 * no) (outO l v) k) := HON.out k hkl HXE.out
            clear e
            go_wp2_with fail
            go_roundw
            case rel => exact ⟨k + 1, q, by go_num, rfl, HNK.out, by omega, by rw [HOK.out]; exact G2.out, GB2.out⟩
            case measure => simp [intOf]; omega
        · have hkn : k = l.length := by have := HLN.out; omega
          have HQE : Hid (q = outN l (v + 1)) := by
            unfold Hid
            rw [HQ.out, hkn]
            exact HNA.out
          have HOE : Hid (innO l (v + 1) (2 * no) (outO l v) k = outO l (v + 1)) := by
            unfold Hid
            rw [hkn]
            exact HOO.out
          have hqb : q ≤ 4096 := by
            rw [HQE.out]
            exact out_small HCS.out (by omega)
          clear hkn
          go_wp2_with fail
          go_roundw
          case rel => exact ⟨v + 1, by go_num, by rw [← HQE.out], by omega, by rw [← HOE.out]; exact G2.out, GB2.out⟩
          case measure => simp [intOf]; omega
    · obtain rfl : v = 12 := by omega
      go_wp2_with fail
      go_ret
      exact ⟨rfl, G1.out, GB.out⟩

set_option maxRecDepth 100000 in
set_option maxHeartbeats 4000000 in
theorem codes_yes (l : List Int) (a : Option Addr) (cap B : Nat) (w : World) (hi : Ints w B a l) (hB : B ≤ w.heap.size) (hr : right l = true) :
    Calls Try.prog 25 #[.slice a l.length cap] w fun e w' => e = .returned (.slice (some ⟨w.heap.size, 0, none⟩) l.length l.length) ∧ IsS w' w.heap.size 9 (codesV l) ∧ Below w.heap.size w w' := by
  obtain ⟨i0, hi0, hz0, hz1, hz2⟩ := info_parts infoS9
  have HS := hideB (hi.mono hB)
  have HRI := hideB (right_impl l a cap B w hi (by have := (within_yes (right_yes hr).1).1; omega))
  rw [hr] at HRI
  have HCS := hideB (right_yes hr).2
  have hn := (within_yes (right_yes hr).1).1
  clear hi hr
  obtain ⟨n, hln⟩ : ∃ n, n = l.length := ⟨_, rfl⟩
  have HLN := hideB hln
  rw [← hln] at hn HRI ⊢
  clear hln
  go_enter Try.func25, Try.ntmps25
  go_wp2_with fail
  refine HRI.out.mono ?_
  rintro e w' ⟨rfl, hw⟩
  subst w'
  go_wp2_with (at_make; refine wpList_make_full _ rfl (.tmp 12) (.tmp 12) 43 rfl w.heap.size 9 i0 (.string ⟨#[]⟩) 1 Try.underlying43 hi0 hz0 hz1 .i64 .i64 _ _ n rfl rfl (by simp) (by simp) (by rw [hz2]; omega) (by unfold maxLen; omega) (Nat.le_refl _) ?_; intro w1 hown1 hgrow1; have HR := hideB (made_strs hown1); have HB := hideB ((Below.refl w.heap.size w).grown hgrow1 (Nat.le_refl _) (by simp)); clear hown1 hgrow1)
  go_loopw [5, 4] (fun i m wr => ∃ v : Nat, i = .int .i64 ((v : Int) + 1) ∧ m = .int .i64 (outN l v : Nat) ∧ v ≤ 12 ∧ IsS wr w.heap.size 9 (outO l v) ∧ Below w.heap.size w wr) (fun i _ _ => 13 - (intOf i).toNat)
  case atStart => exact ⟨0, rfl, rfl, by omega, by simp only [outO]; rw [← HLN.out]; exact HR.out, HB.out⟩
  case round =>
    obtain ⟨v, rfl, rfl, hv, h1, hbel⟩ := hrel
    have G1 := hideB h1
    have GB := hideB hbel
    clear h1 hbel
    have ho := out_small HCS.out hv
    have HOL := hideB (outO_length l v)
    by_cases hv12 : v < 12
    · have HN0 : Hid (innN l (v + 1) (2 * outN l v) 0 = 2 * outN l v) := innN_zero l (v + 1) (2 * outN l v)
      have HNA := hideB (innN_all l v)
      have HNL := hideB (innN_le l (v + 1) (2 * outN l v))
      have HNF := hideB (fun (k : Nat) (hk : k < l.length) (e : l[k] = ((v + 1 : Nat) : Int)) => inn_fits HCS.out hv12 hk e)
      have HNY := hideB (fun (k : Nat) (hk : k < l.length) (e : l[k] = ((v + 1 : Nat) : Int)) => innN_yes (n0 := 2 * outN l v) hk e)
      have HNN := hideB (fun (k : Nat) (hk : k < l.length) (e : ¬ l[k] = ((v + 1 : Nat) : Int)) => innN_no (n0 := 2 * outN l v) hk e)
      have HOY := hideB (fun (k : Nat) (hk : k < l.length) (e : l[k] = ((v + 1 : Nat) : Int)) => innO_yes (n0 := 2 * outN l v) (o := outO l v) hk e)
      have HON := hideB (fun (k : Nat) (hk : k < l.length) (e : ¬ l[k] = ((v + 1 : Nat) : Int)) => innO_no (n0 := 2 * outN l v) (o := outO l v) hk e)
      have HOO : Hid (innO l (v + 1) (2 * outN l v) (outO l v) l.length = outO l (v + 1)) := rfl
      have HIL := hideB (innO_length l (v + 1) (2 * outN l v) (outO l v))
      have hpw : 2 ^ (v + 1) ≤ 4096 := by
        have := Nat.pow_le_pow_right (n := 2) (by decide) (show v + 1 ≤ 12 by omega)
        omega
      have HPW : Hid (∀ x : Nat, x < 2 ^ (v + 1) → x < 4096) := fun x hx => by omega
      clear hpw
      generalize outN l v = no at ho HN0 HNA HNL HNF HNY HNN HOY HON HOO HIL
      have hv13 : (v : Int) + 1 ≤ 12 := by omega
      go_wp2_with fail
      go_loopw [22, 4] (fun i m wr2 => ∃ k q : Nat, i = .int .i64 k ∧ m = .int .i64 q ∧ q = innN l (v + 1) (2 * no) k ∧ k ≤ n ∧ IsS wr2 w.heap.size 9 (innO l (v + 1) (2 * no) (outO l v) k) ∧ Below w.heap.size w wr2) (fun i _ _ => n - (intOf i).toNat)
      case atStart => exact ⟨0, 2 * no, rfl, by go_num, HN0.out.symm, by omega, G1.out, GB.out⟩
      case round =>
        obtain ⟨k, q, rfl, rfl, hq, hk, h2, hbel2⟩ := hrel
        have G2 := hideB h2
        have GB2 := hideB hbel2
        have HQ := hideB hq
        clear h2 hbel2 hq
        by_cases hlt : k < n
        · have hkl : k < l.length := by rw [← HLN.out]; exact hlt
          obtain ⟨b, off, rfl, hb, hc⟩ := (HS.out.below GB2.out).some (by omega)
          have ci := hc k hkl
          have hqb : q ≤ 2 * no + 257 := by
            have := HNL.out k
            rw [← HQ.out, ← HLN.out] at this
            omega
          obtain ⟨x, hx⟩ : ∃ x, x = l[k] := ⟨_, rfl⟩
          have HX := hideB hx
          rw [← hx] at ci
          clear hc hx
          by_cases e : x = (v : Int) + 1
          · have hb1 : (x == (v : Int) + 1) = true := beq_iff_eq.2 e
            have HXE : Hid (l[k] = ((v + 1 : Nat) : Int)) := by
              unfold Hid
              rw [← HX.out, e]
              rfl
            have HF : Hid (q < 2 ^ (v + 1)) := by
              unfold Hid
              rw [HQ.out]
              exact HNF.out k hkl HXE.out
            have hq4 := HPW.out q HF.out
            have HNK : Hid (q + 1 = innN l (v + 1) (2 * no) (k + 1)) := by
              unfold Hid
              rw [HNY.out k hkl HXE.out, HQ.out]
            have HOK : Hid (innO l (v + 1) (2 * no) (outO l v) (k + 1) = (innO l (v + 1) (2 * no) (outO l v) k).set k (bitsV q (v + 1))) := by
              unfold Hid
              rw [HOY.out k hkl HXE.out, HQ.out]
            have HBI := hideB (fun W => bitsOf_yes q (v + 1) W (by omega) (by omega) HF.out)
            clear e
            go_wp2_with fail
            refine (HBI.out _).mono ?_
            rintro e w2 ⟨rfl, hb2⟩
            have G3 := hideB (G2.out.below hb2 G2.out.lt)
            have B3 := hideB (below2 GB2.out hb2)
            have cf := G3.out.frozen k
            obtain ⟨v0, ce⟩ : ∃ v0, w2.cell? ⟨w.heap.size, k, none⟩ = some (.string v0) := ⟨_, G3.out.cell (j := k) (by rw [HIL.out, HOL.out]; exact hkl)⟩
            clear hb2
            go_wp2_with fail
            go_roundw
            case rel => exact ⟨k + 1, q + 1, by go_num, by go_num, HNK.out, by omega, by rw [HOK.out]; exact G3.out.set k _, B3.out.setCell (Nat.le_refl _) _⟩
            case measure => simp [intOf]; omega
          · have hb1 : (x == (v : Int) + 1) = false := beq_eq_false_iff_ne.2 e
            have HXE : Hid (¬ l[k] = ((v + 1 : Nat) : Int)) := by
              unfold Hid
              rw [← HX.out]
              exact e
            have HNK : Hid (q = innN l (v + 1) (2 * no) (k + 1)) := by
              unfold Hid
              rw [HNN.out k hkl HXE.out, HQ.out]
            have HOK : Hid (innO l (v + 1) (2 * no) (outO l v) (k + 1) = innO l (v + 1) (2 * no) (outO l v) k) := HON.out k hkl HXE.out
            clear e
            go_wp2_with fail
            go_roundw
            case rel => exact ⟨k + 1, q, by go_num, rfl, HNK.out, by omega, by rw [HOK.out]; exact G2.out, GB2.out⟩
            case measure => simp [intOf]; omega
        · have hkn : k = l.length := by have := HLN.out; omega
          have HQE : Hid (q = outN l (v + 1)) := by
            unfold Hid
            rw [HQ.out, hkn]
            exact HNA.out
          have HOE : Hid (innO l (v + 1) (2 * no) (outO l v) k = outO l (v + 1)) := by
            unfold Hid
            rw [hkn]
            exact HOO.out
          have hqb : q ≤ 4096 := by
            rw [HQE.out]
            exact out_small HCS.out (by omega)
          clear hkn
          go_wp2_with fail
          go_roundw
          case rel => exact ⟨v + 1, by go_num, by rw [← HQE.out], by omega, by rw [← HOE.out]; exact G2.out, GB2.out⟩
          case measure => simp [intOf]; omega
    · obtain rfl : v = 12 := by omega
      go_wp2_with fail
      go_ret
      exact ⟨rfl, G1.out, GB.out⟩
end Go.Proofs.Ytmkpakhpjgocjaa.Bi

/- What both CodesOf answer. -/
namespace Go.Proofs.Ytmkpakhpjgocjaa.Bi
open Go.RowKit
open Go.Proofs.Ytmkpakhpjgocjaa.In (Ints)
open Go.Proofs.Ytmkpakhpjgocjaa.St (IsS OwnIn IsO)

theorem inn_mono {w : World} {lo hi lo' hi' : Nat} {v : Value} {l : List ByteArray} (h : OwnIn w lo hi v l) (h1 : lo' ≤ lo) (h2 : hi ≤ hi') : OwnIn w lo' hi' v l := by
  rcases h with h | ⟨g, cap, hv, hg, hh, ho⟩
  · exact .inl h
  · exact .inr ⟨g, cap, hv, by omega, by omega, ho⟩
/-- an empty list that was written out -/
theorem inn_empty (w : World) : OwnIn (w.alloc (.cells #[] 9)) w.heap.size (w.heap.size + 1) (.slice (some ⟨w.heap.size, 0, none⟩) 0 0) [] :=
  .inr ⟨w.heap.size, 0, rfl, Nat.le_refl _, Nat.lt_succ_self _, #[], heap_alloc_last w _, fun j hj => absurd hj (Nat.not_lt_zero j)⟩
theorem inn_codes {w w' : World} {l : List Int} (h : IsS w' w.heap.size 9 (codesV l)) : OwnIn w' w.heap.size w'.heap.size (.slice (some ⟨w.heap.size, 0, none⟩) l.length l.length) (codesV l) := by
  have := inn_mono (hi' := w'.heap.size) (h.inn l.length) (Nat.le_refl _) h.lt
  rw [codesV_length] at this
  exact this

set_option maxHeartbeats 1000000 in
theorem codesOf_impl (l : List Int) (a : Option Addr) (cap B : Nat) (w : World) (hi : Ints w B a l) (hB : B ≤ w.heap.size) (hn : l.length ≤ 1048576) :
    Calls Try.prog 25 #[.slice a l.length cap] w fun e w' => ∃ v, e = .returned v ∧ OwnIn w' w.heap.size w'.heap.size v (codesR l) ∧ Below w.heap.size w w' := by
  cases hr : right l with
  | true =>
    rw [codesR_yes hr]
    refine (codes_yes l a cap B w hi hB hr).mono ?_
    rintro e w' ⟨rfl, hs, hb⟩
    exact ⟨_, rfl, inn_codes hs, hb⟩
  | false =>
    rw [codesR_no hr]
    have HR := hideB (right_impl l a cap B w hi hn)
    rw [hr] at HR
    clear hi hr
    generalize l.length = n at HR hn ⊢
    go_enter Try.func25, Try.ntmps25
    go_wp2_with fail
    refine HR.out.mono ?_
    rintro e w' ⟨rfl, hw⟩
    subst w'
    go_wp2_with fail
    go_ret
    exact ⟨_, rfl, .inl ⟨rfl, rfl⟩, Below.refl _ _⟩

set_option maxHeartbeats 1000000 in
theorem codesOf_spec (l : List Int) (a : Option Addr) (cap B : Nat) (w : World) (hi : Ints w B a l) (hB : B ≤ w.heap.size) (hn : l.length ≤ 1048576) :
    Calls Try.prog 26 #[.slice a l.length cap] w fun e w' => ∃ v, e = .returned v ∧ OwnIn w' w.heap.size w'.heap.size v (codesR l) ∧ Below w.heap.size w w' := by
  by_cases h4 : 400 < l.length
  · rw [codesR_no (right_no (l := l) (Or.inl (within_long (by omega))))]
    clear hi
    generalize l.length = n at h4 hn ⊢
    go_enter Try.func26, Try.ntmps26
    go_wp2_with fail
    go_ret
    exact ⟨_, rfl, inn_mono (inn_empty w) (Nat.le_refl _) (by simp), (Below.refl _ _).alloc (Nat.le_refl _) _⟩
  · have HS := hideB (sum_spec l a cap B w hi (by omega))
    cases hr : right l with
    | true =>
      rw [codesR_yes hr]
      rw [sumR_yes hr] at HS
      have HC := hideB (codes_spec l a cap B w hi hB hr)
      have HV : Hid (∀ w' : World, IsS w' w.heap.size 9 (codesV l) → OwnIn w' w.heap.size w'.heap.size (.slice (some ⟨w.heap.size, 0, none⟩) l.length l.length) (codesV l)) := fun w' h => inn_codes h
      clear hi hr
      generalize codesV l = cv at HC HV ⊢
      generalize l.length = n at HS HC HV hn h4 ⊢
      generalize csum l = cs at HS
      generalize above l = ab at HS
      have hcs : ¬ (cs : Int) < 0 := by omega
      go_enter Try.func26, Try.ntmps26
      go_wp2_with fail
      refine HS.out.mono ?_
      rintro e w' ⟨rfl, hw⟩
      subst w'
      go_wp2_with fail
      refine HC.out.mono ?_
      rintro e w' ⟨rfl, hs, hb⟩
      have HI := hideB (HV.out _ hs)
      clear hs
      go_wp2_with fail
      go_ret
      exact ⟨_, rfl, HI.out, hb⟩
    | false =>
      rw [codesR_no hr]
      rw [sumR_no hr] at HS
      clear hi hr
      generalize l.length = n at HS hn h4 ⊢
      go_enter Try.func26, Try.ntmps26
      go_wp2_with fail
      refine HS.out.mono ?_
      rintro e w' ⟨rfl, hw⟩
      subst w'
      go_wp2_with fail
      go_ret
      exact ⟨_, rfl, inn_mono (inn_empty w) (Nat.le_refl _) (by simp), (Below.refl _ _).alloc (Nat.le_refl _) _⟩
end Go.Proofs.Ytmkpakhpjgocjaa.Bi
