/- Texts put together: Mark, Held, StrIn, CodesWalks. -/
import Derived.Test.YtmkpakhpjgocjaaGreatPz19
import Derived.Test.YtmkpakhpjgocjaaGreatStrO
import Derived.Deep.RegionWith
import Derived.BigRegion
import Derived.Test.YtmkpakhpjgocjaaGreatStrOwn
import Derived.Test.YtmkpakhpjgocjaaGreatPz9
/- The laws' marks: the text of a mark, marks written into a row of texts, marks found again. -/
namespace Go.Proofs.YtmkpakhpjgocjaaGreat.St
open Go.RowKit

/-- the digits of a number ahead of a text -/
def dg (k : Nat) (o : ByteArray) : ByteArray := if _h : k = 0 then o else dg (k / 10) (⟨#[UInt8.ofNat (48 + k % 10)]⟩ ++ o)
termination_by k
decreasing_by omega
theorem dg_zero (o : ByteArray) : dg 0 o = o := by rw [dg, dif_pos rfl]
theorem dg_more (k : Nat) (o : ByteArray) (h : k ≠ 0) : dg k o = dg (k / 10) (⟨#[UInt8.ofNat (48 + k % 10)]⟩ ++ o) := by rw [dg, dif_neg h]
def markT (k : Nat) : ByteArray := ⟨#[109]⟩ ++ dg k ⟨#[]⟩

theorem one_str (W : World) (y : Nat) (h : y < 256) : (convert 33 9 (.slice (some ⟨W.heap.size, 0, none⟩) 1 1)).run Tryz.prog (W.alloc (.cells #[.int .u8 (y : Int)] 5)) = .ok (.string ⟨#[UInt8.ofNat y]⟩) (W.alloc (.cells #[.int .u8 (y : Int)] 5)) := by
  refine run_convert_bytes_back (P := Tryz.prog) (W.alloc (.cells #[.int .u8 (y : Int)] 5)) 33 9 5 ⟨W.heap.size, 0, none⟩ 1 [UInt8.ofNat y] Tryz.underlying33 Tryz.underlying5 Tryz.underlying9 ?_
  intro j hj
  match j, hj with
  | 0, _ =>
    simp [Addr.add]
    omega

set_option maxRecDepth 100000 in
set_option maxHeartbeats 1000000 in
theorem markT_any (k : Nat) (w : World) (h0 : 0 < k) (hk : k ≤ 2097152) :
    Calls Tryz.prog 13 #[.int .i64 k] w fun e w' => e = .returned (.string (markT k)) ∧ Below w.heap.size w w' := by
  go_enter Tryz.func13, Tryz.ntmps13
  go_wp2_with fail
  go_loopw [0, 3] (fun kv ov wr => ∃ (j : Nat) (o : ByteArray), kv = .int .i64 j ∧ ov = .string o ∧ dg j o = dg k ⟨#[]⟩ ∧ o.size + j ≤ k ∧ Below w.heap.size w wr) (fun kv _ _ => (intOf kv).toNat)
  case atStart => exact ⟨k, ⟨#[]⟩, rfl, rfl, rfl, by simp [ByteArray.size], Below.refl _ _⟩
  case round =>
    obtain ⟨j, o, rfl, rfl, hd, hsz, hbel⟩ := hrel
    have HD := hideT hd
    have HB := hideT hbel
    have hsz' := hbel.size
    clear hd hbel
    by_cases hj : j = 0
    · subst hj
      have HE : Hid ((⟨#[109]⟩ : ByteArray) ++ o = markT k) := by
        unfold Hid markT
        rw [← HD.out, dg_zero]
      go_wp2_with fail
      go_ret
      exact ⟨Nu.ret_strJ HE.out, HB.out⟩
    · have g0 : 0 < (j : Int) := by omega
      have hy : 48 + j % 10 < 256 := by omega
      have e1 : IntKind.u8.wrap (48 + (j : Int) % 10) = ((48 + j % 10 : Nat) : Int) := by
        simp [IntKind.wrap, IntKind.bits, IntKind.signed]
        omega
      have hconv := one_str wr (48 + j % 10) hy
      rw [show ((48 + j % 10 : Nat) : Int) = 48 + (j : Int) % 10 by omega] at hconv
      have hm := dg_more j o hj
      generalize UInt8.ofNat (48 + j % 10) = y at hconv hm
      have HM := hideT hm
      have hs1 : (⟨#[y]⟩ : ByteArray).size = 1 := rfl
      clear hm
      go_wp2_with fail
      go_roundw
      case rel =>
        refine ⟨j / 10, _, by go_num, rfl, by rw [← HM.out]; exact HD.out, ?_, HB.out.alloc hsz' _⟩
        rw [ByteArray.size_append, hs1]
        omega
      case measure => simp [intOf]; omega

def marks (k n : Nat) : List ByteArray := (List.range n).map fun j => markT (k + j)
theorem marks_length (k n : Nat) : (marks k n).length = n := by simp [marks]
theorem marks_get (k n j : Nat) (h : j < (marks k n).length) : (marks k n)[j] = markT (k + j) := by simp [marks]
/-- a row of texts, the first i marked -/
def mmid (l : List ByteArray) (k i : Nat) : List ByteArray := marks k i ++ l.drop i
theorem mmid_length (l : List ByteArray) (k i : Nat) (h : i ≤ l.length) : (mmid l k i).length = l.length := by simp [mmid, marks_length]; omega
theorem mmid_zero (l : List ByteArray) (k : Nat) : mmid l k 0 = l := by simp [mmid, marks]
theorem mmid_all (l : List ByteArray) (k : Nat) : mmid l k l.length = marks k l.length := by simp [mmid]
theorem mmid_next (l : List ByteArray) (k i : Nat) (h : i < l.length) : (mmid l k i).set i (markT (k + i)) = mmid l k (i + 1) := by
  unfold mmid
  rw [List.set_append, if_neg (by rw [marks_length]; omega), marks_length, Nat.sub_self]
  have : marks k (i + 1) = marks k i ++ [markT (k + i)] := by simp [marks, List.range_succ]
  rw [this, List.append_assoc]
  congr 1
  rw [List.drop_eq_getElem_cons h]
  rfl

set_option maxRecDepth 100000 in
set_option maxHeartbeats 1000000 in
theorem mark_any (g t c : Nat) (l : List ByteArray) (w : World) (h : IsO w g t l) (hn : l.length ≤ 1048576) :
    Calls Tryz.prog 7 #[.slice (some ⟨g, 0, none⟩) l.length c, .int .i64 1] w fun e w' => e = .returned (.int .i64 (1 + l.length)) ∧ IsO w' g t (marks 1 l.length) ∧ Aft g w w' := by
  have HS := hideT h
  have hgl := h.lt
  clear h
  obtain ⟨n, hln⟩ : ∃ n, n = l.length := ⟨_, rfl⟩
  have HLN := hideT hln
  rw [← hln] at hn ⊢
  clear hln
  go_enter Tryz.func7, Tryz.ntmps7
  go_wp2_with fail
  go_loopw [5, 1] (fun i kv wr => ∃ k : Nat, i = .int .i64 k ∧ kv = .int .i64 (1 + k) ∧ k ≤ n ∧ IsO wr g t (mmid l 1 k) ∧ Aft g w wr) (fun i _ _ => n - (intOf i).toNat)
  case atStart => exact ⟨0, rfl, rfl, by omega, by rw [mmid_zero]; exact HS.out, Aft.refl _ _⟩
  case round =>
    obtain ⟨k, rfl, rfl, hk, h1, ha⟩ := hrel
    have G1 := hideT h1
    have GA := hideT ha
    by_cases hlt : k < n
    · have hkl : k < l.length := by rw [← HLN.out]; exact hlt
      have HM := hideT (mmid_next l 1 k hkl)
      have HL := hideT (mmid_length l 1 k (by omega))
      have HT := hideT (markT_any (1 + k) wr (by omega) (by omega))
      clear h1 ha
      go_wp2_with fail
      refine HT.out.mono ?_
      rintro e w1 ⟨rfl, hb1⟩
      have I1 := hideT (G1.out.below hb1 G1.out.lt)
      have A1 := hideT (GA.out.more hb1)
      have cf := I1.out.frozen k
      obtain ⟨v0, ce⟩ : ∃ v, w1.cell? ⟨g, k, none⟩ = some (.string v) := ⟨_, I1.out.cell (j := k) (by rw [HL.out]; exact hkl)⟩
      clear hb1
      go_wp2_with fail
      go_roundw
      case rel => exact ⟨k + 1, by go_num, by go_num, by omega, by rw [← HM.out]; exact I1.out.set k _, A1.out.set k _⟩
      case measure => simp [intOf]; omega
    · have HE : Hid (mmid l 1 k = marks 1 n) := by
        unfold Hid
        rw [show k = l.length by have := HLN.out; omega, HLN.out]
        exact mmid_all l 1
      obtain ⟨k', hk'⟩ : ∃ k' : Nat, k' = k := ⟨_, rfl⟩
      have HKN : Hid ((1 : Int) + k = 1 + n) := by
        unfold Hid
        omega
      clear h1 ha
      go_wp2_with fail
      go_ret
      exact ⟨by rw [← HKN.out]; rfl, by rw [← HE.out]; exact G1.out, GA.out⟩
end Go.Proofs.YtmkpakhpjgocjaaGreat.St

/- The laws' marks found again; an empty row too. -/
namespace Go.Proofs.YtmkpakhpjgocjaaGreat.St
open Go.RowKit

theorem mark_none (a : Option Addr) (c : Nat) (w : World) :
    Calls Tryz.prog 7 #[.slice a 0 c, .int .i64 1] w fun e w' => e = .returned (.int .i64 1) ∧ w' = w := by
  go_enter Tryz.func7, Tryz.ntmps7
  go_wp2_with fail
  go_loopw [5, 1] (fun i kv wr => i = .int .i64 0 ∧ kv = .int .i64 1 ∧ wr = w) (fun _ _ _ => 0)
  case atStart => exact ⟨rfl, rfl, rfl⟩
  case round =>
    obtain ⟨rfl, rfl, hw⟩ := hrel
    subst hw
    go_wp2_with fail
    go_ret
    exact ⟨rfl, rfl⟩
theorem held_none (a : Option Addr) (c : Nat) (w : World) :
    Calls Tryz.prog 8 #[.slice a 0 c, .int .i64 1] w fun e w' => e = .returned (.int .i64 1) ∧ w' = w := by
  go_enter Tryz.func8, Tryz.ntmps8
  go_wp2_with fail
  go_loopw [5, 1] (fun i kv wr => i = .int .i64 0 ∧ kv = .int .i64 1 ∧ wr = w) (fun _ _ _ => 0)
  case atStart => exact ⟨rfl, rfl, rfl⟩
  case round =>
    obtain ⟨rfl, rfl, hw⟩ := hrel
    subst hw
    go_wp2_with fail
    go_ret
    exact ⟨rfl, rfl⟩

set_option maxRecDepth 100000 in
set_option maxHeartbeats 2000000 in
theorem held_any (g t c n : Nat) (w : World) (h : IsO w g t (marks 1 n)) (hn : n ≤ 1048576) :
    Calls Tryz.prog 8 #[.slice (some ⟨g, 0, none⟩) n c, .int .i64 1] w fun e w' => e = .returned (.int .i64 (1 + n)) ∧ Below w.heap.size w w' := by
  have HS := hideT h
  have hgl := h.lt
  clear h
  go_enter Tryz.func8, Tryz.ntmps8
  go_wp2_with fail
  go_loopw [5, 1] (fun i kv wr => ∃ k : Nat, i = .int .i64 k ∧ kv = .int .i64 (1 + k) ∧ k ≤ n ∧ Below w.heap.size w wr) (fun i _ _ => n - (intOf i).toNat)
  case atStart => exact ⟨0, rfl, rfl, by omega, Below.refl _ _⟩
  case round =>
    obtain ⟨k, rfl, rfl, hk, hb⟩ := hrel
    have GB := hideT hb
    by_cases hlt : k < n
    · have hkl : k < (marks 1 n).length := by rw [marks_length]; exact hlt
      have ce := (HS.out.below hb hgl).cell hkl
      rw [marks_get] at ce
      have HT : Hid (∀ W : World, Calls Tryz.prog 13 #[.int .i64 (1 + (k : Int))] W fun e w' => e = .returned (.string (markT (1 + k))) ∧ Below W.heap.size W w') := fun W => by
        have := markT_any (1 + k) W (by omega) (by omega)
        rw [show ((1 + k : Nat) : Int) = 1 + (k : Int) by omega] at this
        exact this
      have HCB : Hid (∀ W : World, Below w.heap.size w W → W.cell? ⟨g, k, none⟩ = some (.string (markT (1 + k)))) := fun W hW => by
        have := (HS.out.below hW hgl).cell hkl
        rw [marks_get] at this
        exact this
      have hsz := hb.size
      clear hb
      generalize markT (1 + k) = mk at ce HT HCB
      go_wp2_with fail
      go_region_with (go_at_call 13; (with_reducible refine (HT.out _).mono ?_); rintro e w1 ⟨rfl, hb1⟩; have hb2 : Below w.heap.size w w1 := Below.trans GB.out ⟨hb1.os, hb1.tape, hb1.output, hb1.size, fun j hj => hb1.block j (Nat.lt_of_lt_of_le hj hsz)⟩; have ce2 := HCB.out w1 hb2; have HB2 := hideT hb2; clear hb1 hb2)
      all_goals (try go_wp2_with fail)
      all_goals
        go_roundw
        case rel => exact ⟨k + 1, by go_num, by go_num, by omega, HB2.out⟩
        case measure => simp [intOf]; omega
    · have HKN : Hid ((1 : Int) + k = 1 + n) := by
        unfold Hid
        omega
      clear hb
      go_wp2_with fail
      go_ret
      exact ⟨by rw [← HKN.out]; rfl, GB.out⟩
end Go.Proofs.YtmkpakhpjgocjaaGreat.St

/- Rows of texts between two marks of memory: what the laws' helpers do with them. -/
namespace Go.Proofs.YtmkpakhpjgocjaaGreat.St
open Go.RowKit

/-- a row of texts in a block from lo on and below hi, or nil -/
def OwnIn (w : World) (lo hi : Nat) (v : Value) (l : List ByteArray) : Prop :=
  (v = .slice none 0 0 ∧ l = []) ∨ ∃ g cap, v = .slice (some ⟨g, 0, none⟩) l.length cap ∧ lo ≤ g ∧ g < hi ∧ IsO w g 9 l
theorem OwnS.inn {w : World} {base : Nat} {v : Value} {l : List ByteArray} (h : OwnS w base v l) : OwnIn w base w.heap.size v l := by
  rcases h.split with h | ⟨g, cap, hv, hg, _, ho⟩
  · exact .inl h
  · exact .inr ⟨g, cap, hv, hg, ho.lt, ho⟩
theorem IsS.inn {w : World} {g : Nat} {l : List ByteArray} (h : IsS w g 9 l) (cap : Nat) : OwnIn w g (g + 1) (.slice (some ⟨g, 0, none⟩) l.length cap) l :=
  .inr ⟨g, cap, rfl, Nat.le_refl _, Nat.lt_succ_self _, h.own⟩
theorem OwnIn.below {w w' : World} {lo hi B : Nat} {v : Value} {l : List ByteArray} (h : OwnIn w lo hi v l) (b : Below B w w') (hB : hi ≤ B) : OwnIn w' lo hi v l := by
  rcases h with h | ⟨g, cap, hv, hg, hh, ho⟩
  · exact .inl h
  · exact .inr ⟨g, cap, hv, hg, hh, ho.below b (by omega)⟩
theorem OwnIn.aft {w w' : World} {lo hi g : Nat} {v : Value} {l : List ByteArray} (h : OwnIn w lo hi v l) (ha : Aft g w w') (hg : g < lo ∨ hi ≤ g) (hh : hi ≤ w.heap.size) : OwnIn w' lo hi v l := by
  rcases h with h | ⟨g', cap, hv, hg', hh', ho⟩
  · exact .inl h
  · exact .inr ⟨g', cap, hv, hg', hh', ho.of_heap (ha.2.2.2.2 g' (by omega) (by omega))⟩
theorem OwnIn.strs {w : World} {lo hi : Nat} {v : Value} {l : List ByteArray} (h : OwnIn w lo hi v l) : ∃ a cap, v = .slice a l.length cap ∧ Strs w hi a l := by
  rcases h with ⟨rfl, rfl⟩ | ⟨g, cap, rfl, _, hh, ho⟩
  · exact ⟨none, 0, rfl, .inl rfl⟩
  · exact ⟨_, cap, rfl, ho.strs hh⟩

theorem eq_in {w : World} {lo hi lo' hi' : Nat} {u v : Value} {l : List ByteArray} (hu : OwnIn w lo hi u l) (hv : OwnIn w lo' hi' v l) (hn : l.length ≤ 1048576) :
    Calls Tryz.prog 6 #[u, v] w fun e w' => e = .returned (.bool true) ∧ Below w.heap.size w w' := by
  obtain ⟨a, cap, rfl, ha⟩ := hu.strs
  obtain ⟨b, cap', rfl, hb⟩ := hv.strs
  exact eq_any a b cap cap' l w (max hi hi') (ha.mono (Nat.le_max_left _ _)) (hb.mono (Nat.le_max_right _ _)) hn

/-- the marks stand in a row of so many texts -/
def Marked (w : World) (lo hi : Nat) (v : Value) (n : Nat) : Prop := OwnIn w lo hi v (marks 1 n)
theorem mark_in {w : World} {lo hi : Nat} {v : Value} {l : List ByteArray} (h : OwnIn w lo hi v l) (hn : l.length ≤ 1048576) :
    Calls Tryz.prog 7 #[v, .int .i64 1] w fun e w' => e = .returned (.int .i64 (1 + l.length)) ∧ OwnIn w' lo hi v (marks 1 l.length) ∧ ∃ g, (g = lo ∨ (lo ≤ g ∧ g < hi)) ∧ Aft g w w' := by
  rcases h with ⟨rfl, rfl⟩ | ⟨g, cap, rfl, hg, hh, ho⟩
  · refine (mark_none none 0 w).mono ?_
    rintro e w' ⟨rfl, rfl⟩
    exact ⟨rfl, .inl ⟨rfl, rfl⟩, lo, .inl rfl, Aft.refl _ _⟩
  · refine (mark_any g 9 cap l w ho hn).mono ?_
    rintro e w' ⟨rfl, hi', ha⟩
    exact ⟨rfl, .inr ⟨g, cap, by rw [marks_length], hg, hh, hi'⟩, g, .inr ⟨hg, hh⟩, ha⟩
theorem held_in {w : World} {lo hi n : Nat} {v : Value} (h : OwnIn w lo hi v (marks 1 n)) (hn : n ≤ 1048576) :
    Calls Tryz.prog 8 #[v, .int .i64 1] w fun e w' => e = .returned (.int .i64 (1 + n)) ∧ Below w.heap.size w w' := by
  rcases h with ⟨rfl, h0⟩ | ⟨g, cap, rfl, hg, hh, ho⟩
  · have : n = 0 := by rw [← marks_length 1 n, h0]; rfl
    subst this
    refine (held_none none 0 w).mono ?_
    rintro e w' ⟨rfl, rfl⟩
    exact ⟨rfl, Below.refl _ _⟩
  · rw [marks_length]
    exact held_any g 9 cap n w ho hn
end Go.Proofs.YtmkpakhpjgocjaaGreat.St

/- The walks of both CodesOf. -/
namespace Go.Proofs.YtmkpakhpjgocjaaGreat.Bi
open Go.RowKit
open Go.Proofs.YtmkpakhpjgocjaaGreat.In (Ints)
open Go.Proofs.YtmkpakhpjgocjaaGreat.St (IsS made_strs OwnIn IsO)
open Go.Proofs.YtmkpakhpjgocjaaGreat.St.Tryz (infoS9)

theorem below2 {w w1 w2 : World} (h : Below w.heap.size w w1) (h2 : Below w1.heap.size w1 w2) : Below w.heap.size w w2 := h.trans (h2.mono h.size)

set_option maxRecDepth 100000 in
set_option maxHeartbeats 4000000 in
theorem codes_spec (l : List Int) (a : Option Addr) (cap B : Nat) (w : World) (hi : Ints w B a l) (hB : B ≤ w.heap.size) (hr : right l = true) :
    Calls Tryz.prog 69 #[.slice a l.length cap] w fun e w' => e = .returned (.slice (some ⟨w.heap.size, 0, none⟩) l.length l.length) ∧ IsS w' w.heap.size 9 (codesV l) ∧ Below w.heap.size w w' := by
  obtain ⟨i0, hi0, hz0, hz1, hz2⟩ := info_parts infoS9
  have HS := hideB (hi.mono hB)
  have HCS := hideB (right_yes hr).2
  have hn := (within_yes (right_yes hr).1).1
  clear hi hr
  obtain ⟨n, hln⟩ : ∃ n, n = l.length := ⟨_, rfl⟩
  have HLN := hideB hln
  rw [← hln] at hn ⊢
  clear hln
  go_enter Tryz.func69, Tryz.ntmps69
  go_wp2_with (at_make; refine wpList_make_full _ rfl (.tmp 8) (.tmp 8) 22 rfl w.heap.size 9 i0 (.string ⟨#[]⟩) 1 Tryz.underlying22 hi0 hz0 hz1 .i64 .i64 _ _ n rfl rfl (by simp) (by simp) (by rw [hz2]; omega) (by unfold maxLen; omega) (Nat.le_refl _) ?_; intro w1 hown1 hgrow1; have HR := hideB (made_strs hown1); have HB := hideB ((Below.refl w.heap.size w).grown hgrow1 (Nat.le_refl _) (by simp)); clear hown1 hgrow1)
  go_loopw [5, 4] (fun i m wr => ∃ v : Nat, i = .int .i64 ((v : Int) + 1) ∧ m = .int .i64 (outN l v : Nat) ∧ v ≤ 12 ∧ IsS wr w.heap.size 9 (outO l v) ∧ Below w.heap.size w wr) (fun i _ _ => 13 - (intOf i).toNat)
  case atStart => exact ⟨0, rfl, rfl, by omega, by simp only [outO]; rw [← HLN.out]; exact HR.out, HB.out⟩
  case round =>
    obtain ⟨v, rfl, rfl, hv, h1, hbel⟩ := hrel
    have G1 := hideB h1
    have GB := hideB hbel
    clear h1 hbel
    have ho := out_small HCS.out hv
    have HOL := hideB (outO_length l v)
    by_cases hv12 : v < 12
    · have HN0 : Hid (innN l (v + 1) (2 * outN l v) 0 = 2 * outN l v) := innN_zero l (v + 1) (2 * outN l v)
      have HNA := hideB (innN_all l v)
      have HNL := hideB (innN_le l (v + 1) (2 * outN l v))
      have HNF := hideB (fun (k : Nat) (hk : k < l.length) (e : l[k] = ((v + 1 : Nat) : Int)) => inn_fits HCS.out hv12 hk e)
      have HNY := hideB (fun (k : Nat) (hk : k < l.length) (e : l[k] = ((v + 1 : Nat) : Int)) => innN_yes (n0 := 2 * outN l v) hk e)
      have HNN := hideB (fun (k : Nat) (hk : k < l.length) (e : ¬ l[k] = ((v + 1 : Nat) : Int)) => innN_no (n0 := 2 * outN l v) hk e)
      have HOY := hideB (fun (k : Nat) (hk : k < l.length) (e : l[k] = ((v + 1 : Nat) : Int)) => innO_yes (n0 := 2 * outN l v) (o := outO l v) hk e)
      have HON := hideB (fun (k : Nat) (hk : k < l.length) (e : ¬ l[k] = ((v + 1 : Nat) : Int)) => innO_no (n0 := 2 * outN l v) (o := outO l v) hk e)
      have HOO : Hid (innO l (v + 1) (2 * outN l v) (outO l v) l.length = outO l (v + 1)) := rfl
      have HIL := hideB (innO_length l (v + 1) (2 * outN l v) (outO l v))
      have hpw : 2 ^ (v + 1) ≤ 4096 := by
        have := Nat.pow_le_pow_right (n := 2) (by decide) (show v + 1 ≤ 12 by omega)
        omega
      have HPW : Hid (∀ x : Nat, x < 2 ^ (v + 1) → x < 4096) := fun x hx => by omega
      clear hpw
      generalize outN l v = no at ho HN0 HNA HNL HNF HNY HNN HOY HON HOO HIL
      have hv13 : (v : Int) + 1 ≤ 12 := by omega
      go_wp2_with fail
      go_loopw [6, 4] (fun i m wr2 => ∃ k q : Nat, i = .int .i64 k ∧ m = .int .i64 q ∧ q = innN l (v + 1) (2 * no) k ∧ k ≤ n ∧ IsS wr2 w.heap.size 9 (innO l (v + 1) (2 * no) (outO l v) k) ∧ Below w.heap.size w wr2) (fun i _ _ => n - (intOf i).toNat)
      case atStart => exact ⟨0, 2 * no, rfl, by go_num, HN0.out.symm, by omega, G1.out, GB.out⟩
      case round =>
        obtain ⟨k, q, rfl, rfl, hq, hk, h2, hbel2⟩ := hrel
        have G2 := hideB h2
        have GB2 := hideB hbel2
        have HQ := hideB hq
        clear h2 hbel2 hq
        by_cases hlt : k < n
        · have hkl : k < l.length := by rw [← HLN.out]; exact hlt
          obtain ⟨b, off, rfl, hb, hc⟩ := (HS.out.below GB2.out).some (by omega)
          have ci := hc k hkl
          have hqb : q ≤ 2 * no + 257 := by
            have := HNL.out k
            rw [← HQ.out, ← HLN.out] at this
            omega
          obtain ⟨x, hx⟩ : ∃ x, x = l[k] := ⟨_, rfl⟩
          have HX := hideB hx
          rw [← hx] at ci
          clear hc hx
          by_cases e : x = (v : Int) + 1
          · have hb1 : (x == (v : Int) + 1) = true := beq_iff_eq.2 e
            have HXE : Hid (l[k] = ((v + 1 : Nat) : Int)) := by
              unfold Hid
              rw [← HX.out, e]
              rfl
            have HF : Hid (q < 2 ^ (v + 1)) := by
              unfold Hid
              rw [HQ.out]
              exact HNF.out k hkl HXE.out
            have hq4 := HPW.out q HF.out
            have HNK : Hid (q + 1 = innN l (v + 1) (2 * no) (k + 1)) := by
              unfold Hid
              rw [HNY.out k hkl HXE.out, HQ.out]
            have HOK : Hid (innO l (v + 1) (2 * no) (outO l v) (k + 1) = (innO l (v + 1) (2 * no) (outO l v) k).set k (bitsV q (v + 1))) := by
              unfold Hid
              rw [HOY.out k hkl HXE.out, HQ.out]
            have HBI := hideB (fun W => bits_spec q (v + 1) W (by omega) (by omega) (by omega))
            clear e
            go_wp2_with fail
            refine (HBI.out _).mono ?_
            rintro e w2 ⟨rfl, hb2⟩
            have G3 := hideB (G2.out.below hb2 G2.out.lt)
            have B3 := hideB (below2 GB2.out hb2)
            have cf := G3.out.frozen k
            obtain ⟨v0, ce⟩ : ∃ v0, w2.cell? ⟨w.heap.size, k, none⟩ = some (.string v0) := ⟨_, G3.out.cell (j := k) (by rw [HIL.out, HOL.out]; exact hkl)⟩
            clear hb2
            go_wp2_with fail
            go_roundw
            case rel => exact ⟨k + 1, q + 1, by go_num, by go_num, HNK.out, by omega, by rw [HOK.out]; exact G3.out.set k _, B3.out.setCell (Nat.le_refl _) _⟩
            case measure => simp [intOf]; omega
          · have hb1 : (x == (v : Int) + 1) = false := beq_eq_false_iff_ne.2 e
            have HXE : Hid (¬ l[k] = ((v + 1 : Nat) : Int)) := by
              unfold Hid
              rw [← HX.out]
              exact e
            have HNK : Hid (q = innN l (v + 1) (2 * no) (k + 1)) := by
              unfold Hid
              rw [HNN.out k hkl HXE.out, HQ.out]
            have HOK : Hid (innO l (v + 1) (2 * no) (outO l v) (k + 1) = innO l (v + 1) (2 * no) (outO l v) k) := HON.out k hkl HXE.out
            clear e
            go_wp2_with fail
            go_roundw
            case rel => exact ⟨k + 1, q, by go_num, rfl, HNK.out, by omega, by rw [HOK.out]; exact G2.out, GB2.out⟩
            case measure => simp [intOf]; omega
        · have hkn : k = l.length := by have := HLN.out; omega
          have HQE : Hid (q = outN l (v + 1)) := by
            unfold Hid
            rw [HQ.out, hkn]
            exact HNA.out
          have HOE : Hid (innO l (v + 1) (2 * no) (outO l v) k = outO l (v + 1)) := by
            unfold Hid
            rw [hkn]
            exact HOO.out
          have hqb : q ≤ 4096 := by
            rw [HQE.out]
            exact out_small HCS.out (by omega)
          clear hkn
          go_wp2_with fail
          go_roundw
          case rel => exact ⟨v + 1, by go_num, by rw [← HQE.out], by omega, by rw [← HOE.out]; exact G2.out, GB2.out⟩
          case measure => simp [intOf]; omega
    · obtain rfl : v = 12 := by omega
      go_wp2_with fail
      go_ret
      exact ⟨rfl, G1.out, GB.out⟩

set_option maxRecDepth 100000 in
set_option maxHeartbeats 4000000 in
theorem codes_yes (l : List Int) (a : Option Addr) (cap B : Nat) (w : World) (hi : Ints w B a l) (hB : B ≤ w.heap.size) (hr : right l = true) :
    Calls Tryz.prog 59 #[.slice a l.length cap] w fun e w' => e = .returned (.slice (some ⟨w.heap.size, 0, none⟩) l.length l.length) ∧ IsS w' w.heap.size 9 (codesV l) ∧ Below w.heap.size w w' := by
  obtain ⟨i0, hi0, hz0, hz1, hz2⟩ := info_parts infoS9
  have HS := hideB (hi.mono hB)
  have HRI := hideB (right_impl l a cap B w hi (by have := (within_yes (right_yes hr).1).1; omega))
  rw [hr] at HRI
  have HCS := hideB (right_yes hr).2
  have hn := (within_yes (right_yes hr).1).1
  clear hi hr
  obtain ⟨n, hln⟩ : ∃ n, n = l.length := ⟨_, rfl⟩
  have HLN := hideB hln
  rw [← hln] at hn HRI ⊢
  clear hln
  go_enter Tryz.func59, Tryz.ntmps59
  go_wp2_with fail
  refine HRI.out.mono ?_
  rintro e w' ⟨rfl, hw⟩
  subst w'
  go_wp2_with (at_make; refine wpList_make_full _ rfl (.tmp 12) (.tmp 12) 22 rfl w.heap.size 9 i0 (.string ⟨#[]⟩) 1 Tryz.underlying22 hi0 hz0 hz1 .i64 .i64 _ _ n rfl rfl (by simp) (by simp) (by rw [hz2]; omega) (by unfold maxLen; omega) (Nat.le_refl _) ?_; intro w1 hown1 hgrow1; have HR := hideB (made_strs hown1); have HB := hideB ((Below.refl w.heap.size w).grown hgrow1 (Nat.le_refl _) (by simp)); clear hown1 hgrow1)
  go_loopw [5, 4] (fun i m wr => ∃ v : Nat, i = .int .i64 ((v : Int) + 1) ∧ m = .int .i64 (outN l v : Nat) ∧ v ≤ 12 ∧ IsS wr w.heap.size 9 (outO l v) ∧ Below w.heap.size w wr) (fun i _ _ => 13 - (intOf i).toNat)
  case atStart => exact ⟨0, rfl, rfl, by omega, by simp only [outO]; rw [← HLN.out]; exact HR.out, HB.out⟩
  case round =>
    obtain ⟨v, rfl, rfl, hv, h1, hbel⟩ := hrel
    have G1 := hideB h1
    have GB := hideB hbel
    clear h1 hbel
    have ho := out_small HCS.out hv
    have HOL := hideB (outO_length l v)
    by_cases hv12 : v < 12
    · have HN0 : Hid (innN l (v + 1) (2 * outN l v) 0 = 2 * outN l v) := innN_zero l (v + 1) (2 * outN l v)
      have HNA := hideB (innN_all l v)
      have HNL := hideB (innN_le l (v + 1) (2 * outN l v))
      have HNF := hideB (fun (k : Nat) (hk : k < l.length) (e : l[k] = ((v + 1 : Nat) : Int)) => inn_fits HCS.out hv12 hk e)
      have HNY := hideB (fun (k : Nat) (hk : k < l.length) (e : l[k] = ((v + 1 : Nat) : Int)) => innN_yes (n0 := 2 * outN l v) hk e)
      have HNN := hideB (fun (k : Nat) (hk : k < l.length) (e : ¬ l[k] = ((v + 1 : Nat) : Int)) => innN_no (n0 := 2 * outN l v) hk e)
      have HOY := hideB (fun (k : Nat) (hk : k < l.length) (e : l[k] = ((v + 1 : Nat) : Int)) => innO_yes (n0 := 2 * outN l v) (o := outO l v) hk e)
      have HON := hideB (fun (k : Nat) (hk : k < l.length) (e : ¬ l[k] = ((v + 1 : Nat) : Int)) => innO_no (n0 := 2 * outN l v) (o := outO l v) hk e)
      have HOO : Hid (innO l (v + 1) (2 * outN l v) (outO l v) l.length = outO l (v + 1)) := rfl
      have HIL := hideB (innO_length l (v + 1) (2 * outN l v) (outO l v))
      have hpw : 2 ^ (v + 1) ≤ 4096 := by
        have := Nat.pow_le_pow_right (n := 2) (by decide) (show v + 1 ≤ 12 by omega)
        omega
      have HPW : Hid (∀ x : Nat, x < 2 ^ (v + 1) → x < 4096) := fun x hx => by omega
      clear hpw
      generalize outN l v = no at ho HN0 HNA HNL HNF HNY HNN HOY HON HOO HIL
      have hv13 : (v : Int) + 1 ≤ 12 := by omega
      go_wp2_with fail
      go_loopw [22, 4] (fun i m wr2 => ∃ k q : Nat, i = .int .i64 k ∧ m = .int .i64 q ∧ q = innN l (v + 1) (2 * no) k ∧ k ≤ n ∧ IsS wr2 w.heap.size 9 (innO l (v + 1) (2 * no) (outO l v) k) ∧ Below w.heap.size w wr2) (fun i _ _ => n - (intOf i).toNat)
      case atStart => exact ⟨0, 2 * no, rfl, by go_num, HN0.out.symm, by omega, G1.out, GB.out⟩
      case round =>
        obtain ⟨k, q, rfl, rfl, hq, hk, h2, hbel2⟩ := hrel
        have G2 := hideB h2
        have GB2 := hideB hbel2
        have HQ := hideB hq
        clear h2 hbel2 hq
        by_cases hlt : k < n
        · have hkl : k < l.length := by rw [← HLN.out]; exact hlt
          obtain ⟨b, off, rfl, hb, hc⟩ := (HS.out.below GB2.out).some (by omega)
          have ci := hc k hkl
          have hqb : q ≤ 2 * no + 257 := by
            have := HNL.out k
            rw [← HQ.out, ← HLN.out] at this
            omega
          obtain ⟨x, hx⟩ : ∃ x, x = l[k] := ⟨_, rfl⟩
          have HX := hideB hx
          rw [← hx] at ci
          clear hc hx
          by_cases e : x = (v : Int) + 1
          · have hb1 : (x == (v : Int) + 1) = true := beq_iff_eq.2 e
            have HXE : Hid (l[k] = ((v + 1 : Nat) : Int)) := by
              unfold Hid
              rw [← HX.out, e]
              rfl
            have HF : Hid (q < 2 ^ (v + 1)) := by
              unfold Hid
              rw [HQ.out]
              exact HNF.out k hkl HXE.out
            have hq4 := HPW.out q HF.out
            have HNK : Hid (q + 1 = innN l (v + 1) (2 * no) (k + 1)) := by
              unfold Hid
              rw [HNY.out k hkl HXE.out, HQ.out]
            have HOK : Hid (innO l (v + 1) (2 * no) (outO l v) (k + 1) = (innO l (v + 1) (2 * no) (outO l v) k).set k (bitsV q (v + 1))) := by
              unfold Hid
              rw [HOY.out k hkl HXE.out, HQ.out]
            have HBI := hideB (fun W => bitsOf_yes q (v + 1) W (by omega) (by omega) HF.out)
            clear e
            go_wp2_with fail
            refine (HBI.out _).mono ?_
            rintro e w2 ⟨rfl, hb2⟩
            have G3 := hideB (G2.out.below hb2 G2.out.lt)
            have B3 := hideB (below2 GB2.out hb2)
            have cf := G3.out.frozen k
            obtain ⟨v0, ce⟩ : ∃ v0, w2.cell? ⟨w.heap.size, k, none⟩ = some (.string v0) := ⟨_, G3.out.cell (j := k) (by rw [HIL.out, HOL.out]; exact hkl)⟩
            clear hb2
            go_wp2_with fail
            go_roundw
            case rel => exact ⟨k + 1, q + 1, by go_num, by go_num, HNK.out, by omega, by rw [HOK.out]; exact G3.out.set k _, B3.out.setCell (Nat.le_refl _) _⟩
            case measure => simp [intOf]; omega
          · have hb1 : (x == (v : Int) + 1) = false := beq_eq_false_iff_ne.2 e
            have HXE : Hid (¬ l[k] = ((v + 1 : Nat) : Int)) := by
              unfold Hid
              rw [← HX.out]
              exact e
            have HNK : Hid (q = innN l (v + 1) (2 * no) (k + 1)) := by
              unfold Hid
              rw [HNN.out k hkl HXE.out, HQ.out]
            have HOK : Hid (innO l (v + 1) (2 * no) (outO l v) (k + 1) = innO l (v + 1) (2 * no) (outO l v) k) := HON.out k hkl HXE.out
            clear e
            go_wp2_with fail
            go_roundw
            case rel => exact ⟨k + 1, q, by go_num, rfl, HNK.out, by omega, by rw [HOK.out]; exact G2.out, GB2.out⟩
            case measure => simp [intOf]; omega
        · have hkn : k = l.length := by have := HLN.out; omega
          have HQE : Hid (q = outN l (v + 1)) := by
            unfold Hid
            rw [HQ.out, hkn]
            exact HNA.out
          have HOE : Hid (innO l (v + 1) (2 * no) (outO l v) k = outO l (v + 1)) := by
            unfold Hid
            rw [hkn]
            exact HOO.out
          have hqb : q ≤ 4096 := by
            rw [HQE.out]
            exact out_small HCS.out (by omega)
          clear hkn
          go_wp2_with fail
          go_roundw
          case rel => exact ⟨v + 1, by go_num, by rw [← HQE.out], by omega, by rw [← HOE.out]; exact G2.out, GB2.out⟩
          case measure => simp [intOf]; omega
    · obtain rfl : v = 12 := by omega
      go_wp2_with fail
      go_ret
      exact ⟨rfl, G1.out, GB.out⟩
end Go.Proofs.YtmkpakhpjgocjaaGreat.Bi
