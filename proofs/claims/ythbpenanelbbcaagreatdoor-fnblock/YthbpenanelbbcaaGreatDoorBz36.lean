/- Texts put together: ZeroSpec, OrdImpl, ShaPlain, ShaPlain2, ShaMade, PlaceI, FrontRow. -/
import Derived.Test.YthbpenanelbbcaaGreatDoorBz35
import Derived.Test.YthbpenanelbbcaaGreatDoorBz22
import Derived.Laws.BitsAllLaws
import Derived.Test.YthbpenanelbbcaaGreatDoorBz14
import Derived.Test.YthbpenanelbbcaaGreatDoorBz34
import Derived.Test.YthbpenanelbbcaaGreatDoorBz27
import Derived.Test.YthbpenanelbbcaaGreatDoorBz13
import Derived.Test.YthbpenanelbbcaaGreatDoorBz8
import Derived.Test.YthbpenanelbbcaaGreatDoorChecked
import Derived.WalkSpells
import Derived.WalkLawsBesides
import Derived.BigRegion
import Derived.BigQuiet
import Derived.Deep.QuietTactic
import Derived.Laws.CopyOwn
/- What the specification's ZerosOf answers. -/
namespace Go.Proofs.YthbpenanelbbcaaGreatDoor.Ze
open Go.RowKit
open Go.Proofs.YthbpenanelbbcaaGreatDoor.Bi (ret_boolB is_yes is_no)
open Go.Proofs.YthbpenanelbbcaaGreatDoor.In (Ints OwnI IsO one_newI one_cellI app_one)
open Go.Proofs.YthbpenanelbbcaaGreatDoor.In.Tryz (infoI2)
set_option maxHeartbeats 1000000 in
theorem nums_spec (l : List Int) (m : Int) (a : Option Addr) (cap B : Nat) (w : World) (hi : Ints w B a l) (hn : l.length ≤ 1048576) :
    Calls Tryz.prog 103 #[.slice a l.length cap, .int .i64 m] w fun e w' => e = .returned (.bool (numsR l m)) ∧ w' = w := by
  have HS := hideZ hi
  clear hi
  obtain ⟨n, hln⟩ : ∃ n, n = l.length := ⟨_, rfl⟩
  have HLN := hideZ hln
  rw [← hln] at hn ⊢
  clear hln
  go_enter Tryz.func103, Tryz.ntmps103
  go_wp2_with fail
  go_loopw [5] (fun i wr => ∃ k : Nat, i = .int .i64 k ∧ k ≤ n ∧ (∀ j (hj : j < l.length), j < k → 0 ≤ l[j] ∧ l[j] ≤ m) ∧ wr = w) (fun i _ => n - (intOf i).toNat)
  case atStart => exact ⟨0, rfl, Nat.zero_le _, fun j hj h0 => absurd h0 (Nat.not_lt_zero j), rfl⟩
  case round =>
    obtain ⟨k, rfl, hk, hall, hw⟩ := hrel
    subst hw
    have HA := hideZ hall
    clear hall
    by_cases hlt : k < n
    · have hkl : k < l.length := by rw [← HLN.out]; exact hlt
      obtain ⟨b, off, rfl, hb, hc⟩ := HS.out.some (by omega)
      have ci := hc k hkl
      obtain ⟨x, hx⟩ : ∃ x, x = l[k] := ⟨_, rfl⟩
      have HX := hideZ hx
      rw [← hx] at ci
      clear hc hx
      by_cases h0 : x < 0 ∨ m < x
      · have HE : Hid (numsR l m = false) := by
          have := upTo_bad (m := m) hkl (by rw [← HX.out]; exact h0)
          unfold Hid numsR
          rw [this, Bool.and_false]
        have HI := hideZ (is_no x 0 m wr h0)
        clear h0
        go_wp2_with fail
        refine HI.out.mono ?_
        rintro e w' ⟨rfl, hw⟩
        subst w'
        go_wp2_with fail
        go_ret
        exact ⟨ret_boolB HE.out.symm, rfl⟩
      · have HI := hideZ (is_yes x 0 m wr (by omega) (by omega))
        have HX2 : Hid (0 ≤ x ∧ x ≤ m) := by
          unfold Hid
          omega
        clear h0
        go_wp2_with fail
        refine HI.out.mono ?_
        rintro e w' ⟨rfl, hw⟩
        subst w'
        go_wp2_with fail
        go_roundw
        case rel =>
          refine ⟨k + 1, by go_num, by omega, fun j hj hjk => ?_, trivial⟩
          by_cases e : j = k
          · subst e
            rw [← HX.out]
            exact HX2.out
          · exact HA.out j hj (by omega)
        case measure => simp [intOf]; omega
    · have HU : Hid (upTo l m = true) := upTo_of (fun x hx => by
        obtain ⟨j, hj, rfl⟩ := List.getElem_of_mem hx
        exact HA.out j hj (by have := HLN.out; omega))
      by_cases h4 : n ≤ 400
      · have HE : Hid (numsR l m = true) := by
          unfold Hid
          rw [numsR_of (by have := HLN.out; omega)]
          exact HU.out
        have h4' : (n : Int) ≤ 400 := by omega
        go_wp2_with fail
        go_ret
        exact ⟨ret_boolB HE.out.symm, rfl⟩
      · have HE : Hid (numsR l m = false) := numsR_long (by have := HLN.out; omega)
        have h4' : decide ((n : Int) ≤ 400) = false := decide_eq_false (by omega)
        go_wp2_with fail
        go_ret
        exact ⟨ret_boolB HE.out.symm, rfl⟩
set_option maxRecDepth 100000 in
set_option maxHeartbeats 1000000 in
theorem run_spec (r : Nat) (w : World) (hs : r ≤ 1048576) :
  Calls Tryz.prog 127 #[.int .i64 r] w fun e w' => ∃ v, e = .returned v ∧ OwnI w' w.heap.size v (zrun r) ∧ v ≠ .slice none 0 0 ∧ Below w.heap.size w w' := by
 obtain ⟨i0, hi0, hz0, hz1, hz2⟩ := info_parts infoI2
 have HW := hideZ (OwnI.empty w)
 go_enter Tryz.func127, Tryz.ntmps127
 go_wp2_with fail
 go_loopw [3, 0] (fun u m wr => ∃ (l' : List Int) (r' : Nat), m = .int .i64 r' ∧ OwnI wr w.heap.size u l' ∧ u ≠ .slice none 0 0 ∧ l' ++ zrun r' = zrun r ∧ l'.length + r' ≤ 1048576 ∧ Below w.heap.size w wr) (fun _ m _ => (intOf m).toNat)
 case atStart => exact ⟨[], r, rfl, HW.out, by simp, rfl, by simpa using hs, (Below.refl _ _).alloc (Nat.le_refl _) _⟩
 case round =>
  obtain ⟨l', r', rfl, hown, hne, he, hs', hbel⟩ := hrel
  have G1 := hideZ hown
  have GB := hideZ hbel
  have HE := hideZ he
  have hz := hbel.size
  have HS := hideZ hs'
  have hs2 : r' ≤ 1048576 := by omega
  clear he hbel hs'
  obtain ⟨a', cap', rfl, _, _⟩ := hown.ints
  have HNE := hideZ hne
  clear hown hne
  by_cases h0 : 0 < r'
  ·by_cases h1 : r' % 2 = 1
   ·have hq : (r' : Int).tmod 2 = 1 := by rw [Int.tmod_eq_emod_of_nonneg (by omega)]; omega
    have hd : ((r' : Int) - 1).tdiv 2 = (((r' - 1) / 2 : Nat) : Int) := by rw [Int.tdiv_eq_ediv_of_nonneg (by omega)]; omega
    have HZ : Hid (l' ++ ([0] ++ zrun ((r' - 1) / 2)) = zrun r) := by
     unfold Hid
     rw [← HE.out, zrun_odd h1]
     rfl
    go_wp2_with (at_builtin; refine wpList_append_own _ rfl (.tmp 10) (.tmp 11) 59 rfl w.heap.size 2 i0 (.int .i64 0) 1 8 Tryz.underlying59 hi0 hz0 hz1 hz2 rfl (by decide) _ _ _ rfl (OwnI.alloc G1.out _) ⟨wr.heap.size, 0, none⟩ 1 1 [.int .i64 0] rfl rfl (one_newI _ _ _) (one_cellI _) (by unfold maxLen; have := HS.out; omega) (by have := HS.out; omega) (by simp; omega) ?_)
    intro v' w5 hown' hgrow hnn
    have N5 := hideZ (OwnI.snoc hown')
    have b5 := hideZ (app_one GB.out (by omega) (Nat.le_refl _) G1.out hgrow)
    have HN5 : Hid (v' ≠ .slice none 0 0) := hnn
    clear hown' hgrow hnn
    go_wp2_with fail
    go_roundw
    case rel => exact ⟨l' ++ [0], (r' - 1) / 2, by go_num, N5.out, HN5.out, by rw [List.append_assoc]; exact HZ.out, by have := HS.out; simp; omega, b5.out⟩
    case measure => simp [intOf]; omega
   ·have hq : (r' : Int).tmod 2 = 0 := by rw [Int.tmod_eq_emod_of_nonneg (by omega)]; omega
    have hd : ((r' : Int) - 2).tdiv 2 = (((r' - 2) / 2 : Nat) : Int) := by rw [Int.tdiv_eq_ediv_of_nonneg (by omega)]; omega
    have HZ : Hid (l' ++ ([1] ++ zrun ((r' - 2) / 2)) = zrun r) := by
     unfold Hid
     rw [← HE.out, zrun_even h0 h1]
     rfl
    go_wp2_with (at_builtin; refine wpList_append_own _ rfl (.tmp 16) (.tmp 17) 59 rfl w.heap.size 2 i0 (.int .i64 0) 1 8 Tryz.underlying59 hi0 hz0 hz1 hz2 rfl (by decide) _ _ _ rfl (OwnI.alloc G1.out _) ⟨wr.heap.size, 0, none⟩ 1 1 [.int .i64 1] rfl rfl (one_newI _ _ _) (one_cellI _) (by unfold maxLen; have := HS.out; omega) (by have := HS.out; omega) (by simp; omega) ?_)
    intro v' w5 hown' hgrow hnn
    have N5 := hideZ (OwnI.snoc hown')
    have b5 := hideZ (app_one GB.out (by omega) (Nat.le_refl _) G1.out hgrow)
    have HN5 : Hid (v' ≠ .slice none 0 0) := hnn
    clear hown' hgrow hnn
    go_wp2_with fail
    go_roundw
    case rel => exact ⟨l' ++ [1], (r' - 2) / 2, by go_num, N5.out, HN5.out, by rw [List.append_assoc]; exact HZ.out, by have := HS.out; simp; omega, b5.out⟩
    case measure => simp [intOf]; omega
  ·obtain rfl : r' = 0 := by omega
   have HZ : Hid (l' = zrun r) := by
    unfold Hid
    rw [← HE.out, zrun_zero, List.append_nil]
   go_wp2_with fail
   go_ret
   exact ⟨_, rfl, by rw [← HZ.out]; exact G1.out, HNE.out, GB.out⟩
theorem own_some {w : World} {base : Nat} {v : Value} {l : List Int} (h : OwnI w base v l) (hn : v ≠ .slice none 0 0) :
  ∃ g cap, v = .slice (some ⟨g, 0, none⟩) l.length cap ∧ base ≤ g ∧ g < w.heap.size ∧ IsO w g 2 l := by
 rcases h.split with ⟨rfl, _⟩ | ⟨g, cap, rfl, hg, _, ho⟩
 ·exact absurd rfl hn
 ·exact ⟨g, cap, rfl, hg, ho.lt, ho⟩
theorem own_news {w : World} {g : Nat} {l : List Int} (h : IsO w g 2 l) : ∀ (j : Nat) (u : Value), (l.map (Value.int .i64))[j]? = some u → w.cell? ((⟨g, 0, none⟩ : Addr).add j) = some u := by
 intro j u hj
 rw [List.getElem?_map] at hj
 cases hl : l[j]? with
 | none => rw [hl] at hj; cases hj
 | some x =>
  rw [hl] at hj
  obtain ⟨hlt, hx⟩ := List.getElem?_eq_some_iff.1 hl
  have hadd : (⟨g, 0, none⟩ : Addr).add j = ⟨g, j, none⟩ := by unfold Addr.add; split <;> simp_all
  rw [hadd, h.cell hlt, hx]
  exact hj
theorem own_cells (l : List Int) : ∀ u ∈ l.map (Value.int .i64), u.oneCell' = true := by
 intro u hu
 obtain ⟨x, _, rfl⟩ := List.mem_map.1 hu
 rfl
theorem OwnI.joined {w : World} {base : Nat} {v : Value} {l p : List Int} (h : w.ownsRow base 2 1 v (l.length + p.length) (l.map (Value.int .i64) ++ p.map (Value.int .i64))) : OwnI w base v (l ++ p) := by
 unfold OwnI
 rw [List.length_append, List.map_append]
 exact h
theorem app_row {B base : Nat} {e : TypeId} {w0 w w1 : World} {v : Value} {n size : Nat} {xs : List Value} (hbel : Below B w0 w) (hB : B ≤ w.heap.size) (hBb : B ≤ base)
  (hown : w.ownsRow base e size v n xs) (hgrow : w.grownBy w1 v.ownBlock) : Below B w0 w1 := by
 refine hbel.grown hgrow hB ?_
 intro k hk
 exact Nat.le_trans hBb (hown.lt k hk).1
end Go.Proofs.YthbpenanelbbcaaGreatDoor.Ze


/- What the program's OrderOf answers. -/
namespace Go.Proofs.YthbpenanelbbcaaGreatDoor.So
open Go.RowKit Go.Sort Go.Proofs
open Go.Proofs.YthbpenanelbbcaaGreatDoor.In (OwnI one_newI one_cellI)
open Go.Proofs.YthbpenanelbbcaaGreatDoor.In.Tryz (infoI2)
end Go.Proofs.YthbpenanelbbcaaGreatDoor.So


/- Plain mathematics of SHA-256, in the spellings of the model's own operations on numbers of 32 bits: turns, the spread of a chunk, the rounds. -/
namespace Go.Proofs.YthbpenanelbbcaaGreatDoor.Sh
def rot (x : Int) (k : Nat) : Int := bits BinOp.or IntKind.u32 (x / 2 ^ k) (x * 2 ^ (32 - k) % 4294967296)
def rotI (x K : Int) : Int := rot x K.toNat
end Go.Proofs.YthbpenanelbbcaaGreatDoor.Sh


/- Plain mathematics of SHA-256: the numbers of a chunk, their spread over the rounds. -/
namespace Go.Proofs.YthbpenanelbbcaaGreatDoor.Sh
def part (B : Nat → Nat) (i : Nat) : Nat → Nat
 | 0 => 0
 | j + 1 => part B i j * 256 + B (4 * i + j)
def word (B : Nat → Nat) (i : Nat) : Nat := part B i 4
def sm0 (x : Int) : Int := bits BinOp.xor IntKind.u32 (bits BinOp.xor IntKind.u32 (rotI x 7) (rotI x 18)) (x / 8)
def sm1 (x : Int) : Int := bits BinOp.xor IntKind.u32 (bits BinOp.xor IntKind.u32 (rotI x 17) (rotI x 19)) (x / 1024)
def wv (B : Nat → Nat) (i : Nat) : Int :=
 if i < 16 then (word B i : Nat)
 else (wv B (i - 16) + sm0 (wv B (i - 15)) + wv B (i - 7) + sm1 (wv B (i - 2))) % 4294967296
termination_by i
decreasing_by all_goals omega
end Go.Proofs.YthbpenanelbbcaaGreatDoor.Sh


/- A row of numbers that make has just made. -/
namespace Go.Proofs.YthbpenanelbbcaaGreatDoor.Sh
open Go.RowKit
theorem made_zerosK (k : IntKind) (n : Nat) : (madeCells (Value.int k 0).cells (n * 1)).toList = (rowF k n (fun _ => 0)).toList := by
 apply List.ext_getElem?
 intro i
 by_cases hi : i < n
 ·simp [madeCells, rowF, hi, Value.cells, Nat.mod_one]
 ·simp [madeCells, rowF, hi, Value.cells]
theorem made_rowK {k : IntKind} {w : World} {base e g n : Nat} (h : w.ownsRow base e 1 (.slice (some ⟨g, 0, none⟩) n n) n (madeCells (Value.int k 0).cells (n * 1)).toList) : IsB w g e k n (fun _ => 0) := by
 obtain ⟨_, h⟩ := h
 rcases h with ⟨h, _⟩ | ⟨g', cap, cur, hv, _, hb, _, _, hsz, htk⟩
 ·simp at h
 ·simp at hv
  obtain ⟨rfl, rfl⟩ := hv
  rw [made_zerosK, List.take_of_length_le (by simp [hsz])] at htk
  have : cur = rowF k n (fun _ => 0) := by simpa using htk
  rw [this] at hb
  exact hb
theorem own_cells {w : World} {base e n : Nat} {v : Value} {k : IntKind} {f : Nat → Int} (hn : 0 < n) (h : w.ownsRow base e 1 v n (rowF k n f).toList) :
  ∃ g c, v = .slice (some ⟨g, 0, none⟩) n c ∧ base ≤ g ∧ g < w.heap.size ∧ ∀ j, j < n → w.cell? ⟨g, j, none⟩ = some (.int k (f j)) := by
 obtain ⟨_, h⟩ := h
 rcases h with ⟨_, h⟩ | ⟨g, cap, cur, hv, hg, hb, hnc, _, hsz, htk⟩
 ·omega
 ·refine ⟨g, cap, hv, hg, (Array.getElem?_eq_some_iff.1 hb).1, fun j hj => ?_⟩
  rw [cell_of_row w g j cur e (0, 0) hb]
  have h1 : cur.toList[j]? = (cur.toList.take (n * 1))[j]? := by rw [List.getElem?_take_of_lt (by omega)]
  rw [← Array.getElem?_toList, h1, htk, Array.getElem?_toList]
  exact rowF_get k n f j hj
theorem byte_at (t : ByteArray) (j : Nat) (h : j < t.size) : ∃ y : UInt8, t[j] = y ∧ y.toNat = bt t j := ⟨t[j], rfl, bt_get t j h⟩
end Go.Proofs.YthbpenanelbbcaaGreatDoor.Sh


/- What the program's placesByByte answers. -/
namespace Go.Proofs.YthbpenanelbbcaaGreatDoor.So
open Go.RowKit Go.Sort Go.Proofs
open Go.Proofs.YthbpenanelbbcaaGreatDoor.Sh (bt bt_get bt_lt IsB)
set_option maxHeartbeats 1000000 in
theorem sortStable_I (T : ByteArray) (cc blk cap : Nat) (d : Array Nat) (w : World) (hH : HoldsK encI 1 w blk 0 d) (hblk : blk < w.heap.size) (hsz : d.size ≤ 1048576) (hcap : Cap w cc T) (hcb0 : cc ≠ blk) (hbd : ∀ i, dF d i < T.size) (hid : ∀ i, i < d.size → dF d i = i) :
  Calls Tryz.prog 159 #[.slice (some ⟨blk, 0, none⟩) d.size cap, .func (.func 160) #[] #[.pointer (some ⟨cc, 0, none⟩)]] w fun e w' =>
   e = .returned (.tuple #[]) ∧ ∃ n d' os, w' = sortWorldK encI 1 w blk 0 n d' os ∧ d'.size = d.size ∧ PermF 0 d.size (dF d) (dF d') ∧ Ris (clI T) 0 d.size (dF d') := by
 have HS := hideO (stable_I T cc blk cap d w hH hblk hsz hcap hcb0 hbd hid)
 clear hH hid hcap hbd
 generalize d.size = z at HS hsz ⊢
 go_enter Tryz.func159, Tryz.ntmps159
 go_wp2_with fail
 refine HS.out.mono ?_
 rintro e w' ⟨rfl, n, d', os, hw, hs, hp, hr⟩
 have HX : Hid (∃ n d' os, w' = sortWorldK encI 1 w blk 0 n d' os ∧ d'.size = z ∧ PermF 0 z (dF d) (dF d') ∧ Ris (clI T) 0 z (dF d')) := ⟨n, d', os, hw, hs, hp, hr⟩
 clear hw hs hp hr
 go_wp2_with fail
 refine bodyPost_end (v := .tuple #[]) (by simp [results, Tryz.results159, go_sem]) rfl ⟨rfl, HX.out⟩
theorem holds_isB {w : World} {g n : Nat} {f : Nat → Nat} {e : TypeId} (h : IsB w g e .i64 n (fun j => ((f j : Nat) : Int))) : HoldsK encI 1 w g 0 ((List.range n).map f).toArray := by
 intro j hj
 rw [size_flatK] at hj
 have hj' : j < n := by simpa using hj
 rw [get_flatK _ _ _ _ hj, Nat.zero_add]
 refine ⟨?_, h.frozen j⟩
 rw [h.cell hj']
 simp [encI, hj', Nat.mod_one]
def iotaF (k : Nat) : Nat → Nat := fun j => if j < k then j else 0
theorem iotaF_next (k j : Nat) : Sh.upd (fun j => ((iotaF k j : Nat) : Int)) k (k : Nat) j = ((iotaF (k + 1) j : Nat) : Int) := by
 unfold Sh.upd iotaF
 by_cases e : j = k
 ·subst e
  rw [if_pos rfl, if_pos (by omega)]
 ·rw [if_neg e]
  by_cases h : j < k
  ·have h' : j < k + 1 := by omega
   simp only [h, h', if_true]
  ·have h' : ¬ j < k + 1 := by omega
   simp only [h, h', if_false]
theorem Tryz.infoI3 : (Tryz.prog.info? 3).map (fun i => (i.zero, i.size, i.bytes)) = some (some (.int .i64 0), 1, 8) := by kernel_rfl
set_option maxHeartbeats 1000000 in
theorem insertion_0 (blk cap : Nat) (cv : Value) (w : World) :
  Calls Tryz.prog 165 #[.slice (some ⟨blk, 0, none⟩) 0 cap, .int .i64 0, .int .i64 0, cv] w fun e w' => e = .returned (.tuple #[]) ∧ w' = w := by
 go_enter Tryz.func165, Tryz.ntmps165
 go_wp2_with fail
 go_loopw [8] (fun i wr => i = .int .i64 1 ∧ wr = w) (fun _ _ => 0)
 case atStart => exact ⟨rfl, rfl⟩
 case round =>
  obtain ⟨rfl, rfl⟩ := hrel
  go_wp2_with fail
  refine bodyPost_end (v := .tuple #[]) (by simp [results, Tryz.results165, go_sem]) rfl ⟨rfl, rfl⟩
set_option maxHeartbeats 1000000 in
theorem stable_0 (blk cap : Nat) (cv : Value) (w : World) :
  Calls Tryz.prog 163 #[.slice (some ⟨blk, 0, none⟩) 0 cap, .int .i64 0, cv] w fun e w' => e = .returned (.tuple #[]) ∧ w' = w := by
 have HI := hideO (insertion_0 blk cap cv w)
 go_enter Tryz.func163, Tryz.ntmps163
 go_wp2_with fail
 go_loopw [7, 8] (fun u v wr => u = .int .i64 0 ∧ v = .int .i64 20 ∧ wr = w) (fun _ _ _ => 0)
 case atStart => exact ⟨rfl, rfl, rfl⟩
 case round =>
  obtain ⟨rfl, rfl, rfl⟩ := hrel
  go_wp2_with fail
  refine HI.out.mono ?_
  rintro e w' ⟨rfl, hw⟩
  subst w'
  go_wp2_with fail
  go_loopw [6] (fun u wr2 => u = .int .i64 20 ∧ wr2 = wr) (fun _ _ => 0)
  case atStart => exact ⟨rfl, rfl⟩
  case round =>
   obtain ⟨rfl, hw⟩ := hrel
   subst hw
   go_wp2_with fail
   refine bodyPost_end (v := .tuple #[]) (by simp [results, Tryz.results163, go_sem]) rfl ⟨rfl, rfl⟩
set_option maxHeartbeats 1000000 in
theorem sortStable_0 (blk cap : Nat) (cv : Value) (w : World) :
  Calls Tryz.prog 159 #[.slice (some ⟨blk, 0, none⟩) 0 cap, cv] w fun e w' => e = .returned (.tuple #[]) ∧ w' = w := by
 have HS := hideO (stable_0 blk cap cv w)
 go_enter Tryz.func159, Tryz.ntmps159
 go_wp2_with fail
 refine HS.out.mono ?_
 rintro e w' ⟨rfl, hw⟩
 subst w'
 go_wp2_with fail
 refine bodyPost_end (v := .tuple #[]) (by simp [results, Tryz.results159, go_sem]) rfl ⟨rfl, rfl⟩
theorem sort_all (t : ByteArray) (cc blk : Nat) (w : World) (hn : t.size ≤ 1048576) (hB : IsB w blk 3 .i64 t.size (fun j => ((iotaF t.size j : Nat) : Int))) (hcap : Cap w cc t) (hcb : cc < blk) :
  Calls Tryz.prog 159 #[.slice (some ⟨blk, 0, none⟩) t.size t.size, .func (.func 160) #[] #[.pointer (some ⟨cc, 0, none⟩)]] w fun e w' =>
   e = .returned (.tuple #[]) ∧ blk < w'.heap.size ∧ (∀ j, j < t.size → w'.cell? ⟨blk, j, none⟩ = some (.int .i64 (plF t j : Nat))) ∧ Below blk w w' := by
 by_cases h0 : t.size = 0
 ·rw [h0]
  refine (sortStable_0 blk 0 _ w).mono ?_
  rintro e w' ⟨rfl, rfl⟩
  exact ⟨rfl, hB.lt, fun j hj => absurd hj (Nat.not_lt_zero _), Below.refl _ _⟩
 ·have hH := holds_isB hB
  have hds : ((List.range t.size).map (iotaF t.size)).toArray.size = t.size := by simp
  have hdf : ∀ i, i < t.size → dF ((List.range t.size).map (iotaF t.size)).toArray i = i := fun i hi => by
   simp [dF, hi, iotaF]
  have hbd : ∀ i, dF ((List.range t.size).map (iotaF t.size)).toArray i < t.size := fun i => by
   by_cases hi : i < t.size
   ·rw [hdf i hi]; exact hi
   ·rw [dF_out _ _ (by rw [hds]; omega)]; omega
  have := sortStable_I t cc blk t.size _ w hH hB.lt (by rw [hds]; exact hn) hcap (by omega) hbd (fun i hi => hdf i (by rw [hds] at hi; exact hi))
  rw [hds] at this
  refine this.mono ?_
  rintro e w' ⟨rfl, n, d', os, rfl, hs, hp, hr⟩
  refine ⟨rfl, Nat.lt_of_lt_of_le hB.lt (world_size n d' os), fun j hj => ?_, world_below n d' os (Nat.le_refl _) (Nat.le_of_lt hB.lt)⟩
  have hH' := world_holds hH hB.lt n d' os (hs.trans hds.symm)
  have hc := (cells_I hH' (i := j) (by rw [hs]; exact hj)).1
  rw [hc]
  have hseg : (seg (dF d') 0 t.size).Perm (List.range t.size) := by
   have h1 := hp.1
   have e : seg (dF ((List.range t.size).map (iotaF t.size)).toArray) 0 t.size = List.range t.size := by
    unfold seg
    rw [Nat.sub_zero]
    apply List.ext_getElem
    ·simp
    ·intro i h1 h2
     have h3 : i < t.size := by simpa using h2
     simp only [List.getElem_map, List.getElem_range]
     rw [show (List.range' 0 t.size)[i]'(by simpa using h3) = i by simp]
     exact hdf i h3
   rw [e] at h1
   exact h1
  have := plF_seg hseg hr j hj
  rw [← this]
  rfl
set_option maxRecDepth 100000 in
set_option maxHeartbeats 1000000 in
theorem places_impl (t : ByteArray) (w : World) (hn : t.size ≤ 1048576) :
  Calls Tryz.prog 156 #[.string t] w fun e w' => ∃ g, e = .returned (.slice (some ⟨g, 0, none⟩) t.size t.size) ∧ w.heap.size ≤ g ∧ g < w'.heap.size ∧ (∀ j, j < t.size → w'.cell? ⟨g, j, none⟩ = some (.int .i64 (plF t j : Nat))) ∧ Below w.heap.size w w' := by
 obtain ⟨i0, hi0, hz0, hz1, hz2⟩ := info_parts Tryz.infoI3
 obtain ⟨w0, hw0⟩ : ∃ w0, w0 = w.alloc (.cells #[.string t] 9) := ⟨_, rfl⟩
 have z0 : w0.heap.size = w.heap.size + 1 := by rw [hw0]; simp
 have HC0 : Hid (Cap w0 w.heap.size t) := by unfold Hid Cap; rw [hw0, cell_of_row _ w.heap.size 0 _ _ (0, 0) (heap_alloc_last w _)]; rfl
 have HB0 : Hid (Below w.heap.size w w0) := by unfold Hid; rw [hw0]; exact (Below.refl _ _).alloc (Nat.le_refl _) _
 go_enter Tryz.func156, Tryz.ntmps156
 go_wp2_with (at_make; rw [← hw0]; refine wpList_make_full _ rfl (.tmp 6) (.tmp 6) 135 rfl w0.heap.size 3 i0 (.int .i64 0) 1 Tryz.underlying135 hi0 hz0 hz1 .i64 .i64 _ _ t.size rfl rfl (by simp) (by simp) (by rw [hz2]; omega) (by unfold maxLen; omega) (Nat.le_refl _) ?_; intro w1 hown1 hgrow1; have HT1 := hideO (Sh.made_rowK hown1); have hb1 := (Below.refl w0.heap.size w0).grown hgrow1 (Nat.le_refl _) (by simp); have HC1 : Hid (Cap w1 w.heap.size t) := HC0.out.block (hb1.block w.heap.size (by omega)); have HB1 := hideO (HB0.out.trans (hb1.mono (by omega))); have zz1 := HT1.out.lt; clear hown1 hgrow1 hb1)
 go_loopw [10] (fun i wr => ∃ k : Nat, i = .int .i64 k ∧ k ≤ t.size ∧ IsB wr (w.heap.size + 1) 3 .i64 t.size (fun j => ((iotaF k j : Nat) : Int)) ∧ Cap wr w.heap.size t ∧ Below w.heap.size w wr) (fun i _ => t.size - (intOf i).toNat)
 case atStart => exact ⟨0, rfl, Nat.zero_le _, by rw [← z0]; exact HT1.out.congr (fun j _ => by simp [iotaF]), HC1.out, HB1.out⟩
 case round =>
  obtain ⟨k, rfl, hk, hrow, hcap, hbel⟩ := hrel
  have T1 := hideO hrow
  have C1 := hideO hcap
  have GB := hideO hbel
  clear hbel hcap
  by_cases hlt : k < t.size
  ·have c2 := hrow.cell (j := k) hlt
   have f2 := hrow.frozen k
   have hkz : (k : Int) < (t.size : Int) := by omega
   have TS := hideO ((hrow.set k (k : Nat)).congr (fun j _ => iotaF_next k j))
   have CS : Hid (Cap (wr.setCell ⟨w.heap.size + 1, k, none⟩ (.int .i64 (k : Nat))) w.heap.size t) := C1.out.block (heap_setCell_other _ _ _ _ (by simp))
   have BS := hideO (GB.out.setCell (p := ⟨w.heap.size + 1, k, none⟩) (by simp) (.int .i64 (k : Nat)))
   clear hrow
   go_wp2_with fail
   go_roundw
   case rel => exact ⟨k + 1, by go_num, by omega, TS.out, CS.out, BS.out⟩
   case measure => simp [intOf]; omega
  ·obtain rfl : k = t.size := by omega
   have HS := hideO (sort_all t w.heap.size (w.heap.size + 1) wr hn T1.out C1.out (by omega))
   clear hrow
   go_wp2_with fail
   refine HS.out.mono ?_
   rintro e w2 ⟨rfl, hz, hc, hb⟩
   have HC := hideO hc
   have HB2 := hideO (GB.out.trans (hb.mono (by omega)))
   clear hc hb
   go_wp2_with fail
   go_ret
   exact ⟨_, rfl, by omega, hz, HC.out, HB2.out⟩
end Go.Proofs.YthbpenanelbbcaaGreatDoor.So


/- The row of all bytes in memory: how the program makes it, and brings a byte to its front. -/
namespace Go.Proofs.YthbpenanelbbcaaGreatDoor.Fr
open Go.RowKit
open Go.Proofs.YthbpenanelbbcaaGreatDoor.Sh (IsB rowF upd rowF_size rowF_get rowF_one rowF_congr results_row below_row row_size)
open Go.Proofs.YthbpenanelbbcaaGreatDoor.Ze (hideZ)
open Go.Proofs.YthbpenanelbbcaaGreatDoor.St (Aft)
theorem Tryz.zeroA97 : (Tryz.prog.info? 97).bind (·.zero) = some (.agg (rowF .u8 256 fun _ => 0)) := by kernel_rfl
theorem Tryz.sizeA97 : (Tryz.prog.info? 97).map (·.size) = some 256 := by kernel_rfl
theorem Tryz.sizeB5 : (Tryz.prog.info? 5).map (·.size) = some 1 := by kernel_rfl
theorem wpList_alloc_row {P : Program} {w : World} {ops : Array Oper} {rest : List Oper} {a : Act} {Q : Exit → Act → World → Prop} {d : Tmp} {ty tt : TypeId} {pos : String} {af : Array Edge}
  {k : IntKind} {n : Nat} (hz : (P.info? ty).bind (·.zero) = some (.agg (rowF k n fun _ => 0)))
  (h : ∀ w', IsB w' w.heap.size ty k n (fun _ => 0) → (∀ B, B ≤ w.heap.size → Below B w w') → w'.heap.size = w.heap.size + 1 → (∀ j, j < w.heap.size → w'.heap[j]? = w.heap[j]?) → wpList P ops Q rest (a.put (some d) (.pointer (some ⟨w.heap.size, 0, none⟩))) w') :
  wpList P ops Q (⟨some d, .alloc ty, tt, pos, af, none⟩ :: rest) a w := by
 refine wpList_plain rfl fun K hK => ?_
 obtain ⟨i, hi, hzi⟩ : ∃ i, P.info? ty = some i ∧ i.zero = some (.agg (rowF k n fun _ => 0)) := by
  cases hi : P.info? ty with
  | none => rw [hi] at hz; cases hz
  | some i => exact ⟨i, rfl, by rw [hi] at hz; exact hz⟩
 have hl : (Instr.alloc ty true (.tuple #[])).run P w = .ok (.pointer (some ⟨w.heap.size, 0, none⟩)) (w.alloc (.cells (rowF k n fun _ => 0) ty)) := by
  simp [Instr.alloc, zeroValue, typeInfo, hi, hzi, newVar, newRow, Value.cells]
 unfold Oper.wp
 simp [execOp, hl, Result.andThen]
 exact hK _ _ (h _ (IsB.new w ty k n _) (fun B hB => (Below.refl B w).alloc hB _) (by simp) (fun j hj => Below.heap_alloc w _ j hj))
def copyF (f : Nat → Int) (p : Nat) : Nat → Int := fun j => if j = 0 then f 0 else if j ≤ p then f (j - 1) else f j
theorem copy_front (f : Nat → Int) (p j : Nat) : upd (copyF f p) 0 (f p) j = front f p j := by
 unfold upd copyF front
 by_cases h : j = 0
 ·rw [if_pos h, if_pos h]
 ·rw [if_neg h, if_neg h, if_neg h]
theorem copy_row (f : Nat → Int) (p : Nat) (hp : p < 256) :
  ((rowF .u8 256 f).toList.take 1 ++ (List.range p).map (fun j => Value.int .u8 (f j)) ++ (rowF .u8 256 f).toList.drop (1 + ((List.range p).map (fun j => Value.int .u8 (f j))).length)).toArray = rowF .u8 256 (copyF f p) := by
 rw [List.append_assoc]
 apply Array.ext'
 apply List.ext_getElem?
 intro j
 simp only [rowF, List.length_map, List.length_range]
 by_cases h0 : j = 0
 ·subst h0
  rw [List.getElem?_append_left (by simp)]
  simp [copyF]
 ·rw [List.getElem?_append_right (by simp; omega)]
  simp only [List.length_take, List.length_map, List.length_range]
  rw [show j - min 1 256 = j - 1 by omega]
  by_cases h1 : j ≤ p
  ·rw [List.getElem?_append_left (by simp; omega)]
   have : j < 256 := by omega
   have h2 : j - 1 < p := by omega
   simp [copyF, h0, h1, h2, this]
  ·rw [List.getElem?_append_right (by simp; omega), List.getElem?_drop]
   simp only [List.length_map, List.length_range]
   rw [show 1 + p + (j - 1 - p) = j by omega]
   by_cases h2 : j < 256
   ·simp [copyF, h0, h1, h2]
   ·simp [h2]
theorem run_copy_up {P : Program} (w : World) (dT sT ty elem : TypeId) (hu : P.underlying dT = some (.slice elem)) (hsz : (P.info? elem).map (·.size) = some 1)
  (g p dCap sCap : Nat) (t : TypeId) (f : Nat → Int) (hp : p < 256) (hb : IsB w g t .u8 256 f) :
  ∃ w', (Builtin.copy_ #[dT, sT] ty #[.slice (some ⟨g, 1, none⟩) 255 dCap, .slice (some ⟨g, 0, none⟩) p sCap]).run P w = .ok (goInt p) w' ∧ IsB w' g t .u8 256 (copyF f p) ∧ Aft g w w' := by
 have hrun := run_copy_row (P := P) w dT sT ty elem g 1 255 dCap ⟨g, 0, none⟩ p sCap (rowF .u8 256 f) t ((List.range p).map (fun j => Value.int .u8 (f j))) hu hsz hb (by simp [Nat.min_def]; omega)
  (fun j v hv => by
   have hadd : (⟨g, 0, none⟩ : Addr).add j = ⟨g, j, none⟩ := by unfold Addr.add; split <;> simp_all
   rw [hadd]
   rw [List.getElem?_map] at hv
   by_cases hj : j < p
   ·rw [List.getElem?_range hj] at hv
    rw [hb.cell (by omega)]
    exact hv
   ·rw [List.getElem?_eq_none (by simpa using hj)] at hv
    cases hv)
  (by rw [rowF_size]; simp; omega) (fun v hv => by
   obtain ⟨j, _, rfl⟩ := List.mem_map.1 hv
   rfl)
 rw [copy_row f p hp, List.length_map, List.length_range] at hrun
 exact ⟨_, hrun, hb.row _, rfl, rfl, rfl, by simp [World.setRow], fun k hk hg => setRow_other w g k _ hg⟩
set_option maxRecDepth 100000 in
set_option maxHeartbeats 1000000 in
theorem bring_impl (g p : Nat) (t : TypeId) (f : Nat → Int) (w : World) (hb : IsB w g t .u8 256 f) (hp : p < 256) :
  Calls Tryz.prog 77 #[.pointer (some ⟨g, 0, none⟩), .int .i64 p] w fun e w' => e = .returned (.tuple #[]) ∧ IsB w' g t .u8 256 (front f p) ∧ Aft g w w' := by
 have c0 := hb.cell hp
 have HB := hideZ hb
 have HA := hideZ (Aft.refl g w)
 obtain ⟨x, hx⟩ : ∃ x, x = f p := ⟨_, rfl⟩
 have HX := hideZ hx
 rw [← hx] at c0
 clear hx hb
 go_enter Tryz.func77, Tryz.ntmps77
 go_wp2_with fail
 have hp1 : (p : Int) ≤ 256 := by omega
 have hp2 : ¬ (p : Int) < 0 := by omega
 have hp3 : ¬ (256 : Int) < (p : Int) := by omega
 obtain ⟨W4, hcp, hb4, ha4⟩ := run_copy_up (P := Tryz.prog) w.drew 22 22 3 5 Tryz.underlying22 Tryz.sizeB5 g p 255 256 t f hp (HB.out.of_heap rfl)
 have HB4 := hideZ hb4
 have HA4 : Hid (Aft g w W4) := ⟨ha4.1, ha4.2.1, ha4.2.2.1, ha4.2.2.2.1, ha4.2.2.2.2⟩
 clear hb4 ha4
 have c1 := HB4.out.cell (j := 0) (by omega)
 have f1 := HB4.out.frozen 0
 have HF := hideZ (HB4.out.set 0 x)
 go_region
 go_wp2_with fail
 refine bodyPost_end (v := .tuple #[]) (by simp [results, Tryz.results77, go_sem]) rfl ⟨rfl, HF.out.congr (fun j _ => ?_), HA4.out.set 0 _⟩
 rw [HX.out]
 exact copy_front f p j
def rise (k : Nat) : Nat → Int := fun j => if j < k then (j : Int) else 0
theorem rise_next (k j : Nat) : upd (rise k) k (k : Int) j = rise (k + 1) j := by
 unfold upd rise
 by_cases e : j = k
 ·subst e; rw [if_pos rfl, if_pos (by omega)]
 ·rw [if_neg e]
  by_cases h : j < k
  ·rw [if_pos h, if_pos (by omega)]
  ·rw [if_neg h, if_neg (by omega)]
theorem rise_all (j : Nat) (h : j < 256) : rise 256 j = row0 j := if_pos h
set_option maxRecDepth 100000 in
set_option maxHeartbeats 1000000 in
theorem rising_impl (w : World) :
  Calls Tryz.prog 76 #[] w fun e w' => e = .returned (.agg (rowF .u8 256 row0)) ∧ Below w.heap.size w w' := by
 go_enter Tryz.func76, Tryz.ntmps76
 go_wp2_with ((with_reducible refine wpList_alloc_row Tryz.zeroA97 ?_); intro w1 hb1 hbel1 hs1 ho1)
 rename_i w0 hb0 hbel0 hs0 ho0 K0 a0
 have HB1 := hideZ hb1
 have HB0 := hideZ (hb0.of_heap (ho1 w.heap.size (by omega)))
 have HBel := hideZ ((hbel0 w.heap.size (Nat.le_refl _)).trans (hbel1 w.heap.size (by omega)))
 rw [hs0] at HB1 hs1
 clear hb1 hbel1 ho1 hb0 hbel0 ho0
 go_loopw [3] (fun i wr => ∃ k : Nat, i = .int .i64 k ∧ k ≤ 256 ∧ IsB wr (w.heap.size + 1) 97 .u8 256 (rise k) ∧ IsB wr w.heap.size 97 .u8 256 (fun _ => 0) ∧ Below w.heap.size w wr) (fun i _ => 256 - (intOf i).toNat)
 case atStart => exact ⟨0, rfl, by omega, HB1.out.congr (fun j _ => by unfold rise; rw [if_neg (by omega)]), HB0.out, HBel.out⟩
 case round =>
  obtain ⟨k, rfl, hk, h1, h0, hbel⟩ := hrel
  have G1 := hideZ h1
  have G0 := hideZ h0
  have GB := hideZ hbel
  by_cases hlt : k < 256
  ·have ck := h1.cell (j := k) hlt
   have fk := h1.frozen k
   have hwr : ((k : Int)) % 256 = (k : Int) := by omega
   have HN := hideZ (h1.set k (k : Int))
   clear h1 h0 hbel
   go_wp2_with fail
   go_roundw
   case rel => exact ⟨k + 1, by go_num, by omega, HN.out.congr (fun j _ => rise_next k j), G0.out.set_other _ _ (by simp), GB.out.setCell (by simp) _⟩
   case measure => simp [intOf]; omega
  ·obtain rfl : k = 256 := by omega
   have G2 := hideZ (h1.congr (fun j hj => rise_all j hj))
   clear h1 h0 hbel
   go_wp2_with (first | ((with_reducible refine Sh.wpList_load_row G2.out Tryz.underlying97 Tryz.sizeA97 ?_ ?_); (· rfl)) | ((with_reducible refine Sh.wpList_store_row G0.out Tryz.sizeA97 row0 ?_ ?_ ?_); (· rfl); (· rfl)))
   exact bodyPost_ret (v := .agg (rowF .u8 256 row0)) (results_row rfl _ rfl (G0.out.row _) Tryz.underlying97 Tryz.sizeA97) rfl ⟨rfl, below_row GB.out (Nat.le_refl _) _⟩
end Go.Proofs.YthbpenanelbbcaaGreatDoor.Fr

