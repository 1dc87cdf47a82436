/- Texts put together: PkSpec, GetSpec, UnNum, GetNext, GetSpec2, GetTop3, UnbSpec. -/
import Derived.Test.YthbpenanelbbcaaGreatDoorBz44
import Derived.Test.YthbpenanelbbcaaGreatDoorBz43
import Derived.Test.YthbpenanelbbcaaGreatDoorBz39
import Derived.Lib.QuietBelow
import Derived.Test.YthbpenanelbbcaaGreatDoorBz28
import Derived.WalkKit
import Derived.WalkSpells
import Derived.WalkLawsBesides
import Derived.Test.YthbpenanelbbcaaGreatDoorBz17
import Derived.Test.YthbpenanelbbcaaGreatDoorBz38
import Derived.Deep.RegionWith
import Derived.BigRegion
import Derived.BigQuiet
import Derived.Deep.CutRange
import Derived.Deep.RegionHeld3
import Derived.Test.YthbpenanelbbcaaGreatDoorBz24
import Derived.Test.YthbpenanelbbcaaGreatDoorBz31
import Derived.Test.YthbpenanelbbcaaGreatDoorBz32
import Derived.Test.YthbpenanelbbcaaGreatDoorBz27
/- The walks of the specification's BlockPack. -/
namespace Go.Proofs.YthbpenanelbbcaaGreatDoor.Pk
open Go.RowKit
open Go.Proofs.YthbpenanelbbcaaGreatDoor.In (Ints IsI OwnI made_ints)
open Go.Proofs.YthbpenanelbbcaaGreatDoor.Hf (up up_length up_at up_set incs incs_next incs_length)
open Go.Proofs.YthbpenanelbbcaaGreatDoor.Bi (above putR packR putL)
open Go.Proofs.YthbpenanelbbcaaGreatDoor.So (bwtT bwtA l05Bwt_spec)
open Go.Proofs.YthbpenanelbbcaaGreatDoor.Fr (frontR frontOf_spec frontR_len)
open Go.Proofs.YthbpenanelbbcaaGreatDoor.Ze (zerosR zerosOf_spec)
open Go.Proofs.YthbpenanelbbcaaGreatDoor.Nu (putS)
open Go.Proofs.YthbpenanelbbcaaGreatDoor.Se (sealV seal_spec)
theorem bytes_ext {a b : ByteArray} (h : a.data.toList = b.data.toList) : a = b := ByteArray.ext (by rw [← Array.toArray_toList (xs := a.data), h, Array.toArray_toList])
def tabB (d : List Nat) : Nat → ByteArray
 | 0 => ⟨#[]⟩
 | k + 1 => if 0 < d.getD k 0 then tabB d k ++ putS (k : Int) ++ putS ((d.getD k 0 : Nat) : Int) else tabB d k
theorem numsL_append (l m : List Int) : numsL (l ++ m) = numsL l ++ numsL m := by
 unfold numsL
 rw [List.flatMap_append]
theorem tabB_list (d : List Nat) : ∀ k, (tabB d k).data.toList = numsL (rowT d k)
 | 0 => rfl
 | k + 1 => by
  have ih := tabB_list d k
  rw [tabB, rowT]
  split
  ·rw [numsL_append, ← ih]
   unfold numsL
   simp [ByteArray.data_append]
  ·exact ih
theorem tabB_size (d : List Nat) (k : Nat) : (tabB d k).size ≤ 20 * k := by
 have h1 : (tabB d k).size = (tabB d k).data.toList.length := by simp
 rw [h1, tabB_list]
 have h2 := numsL_le (rowT d k)
 have h3 := rowT_length d k
 omega
theorem short_eq (b : ByteArray) : ⟨#[1]⟩ ++ (putS (b.size : Int) ++ putS ((bwtA b : Nat) : Int) ++ putS ((symS b).length : Int) ++ putS ((above (up (lenS b)) : Nat) : Int)) ++ tabB (lenS b) 257 ++ bitsS b = shortV b := by
 refine bytes_ext ?_
 show _ = (shortL b).toArray.toList
 unfold shortL headS
 rw [← tabB_list]
 unfold numsL
 simp [ByteArray.data_append]
theorem plain_eq (b : ByteArray) : ⟨#[0]⟩ ++ b = plainV b := by
 refine bytes_ext ?_
 show _ = (0 :: b.data.toList).toArray.toList
 simp [ByteArray.data_append]
set_option maxRecDepth 100000 in
set_option maxHeartbeats 2000000 in
theorem long_spec (b : ByteArray) (w : World) (hb : b.size ≤ 48) :
  Calls Tryz.prog 60 #[.string b] w fun e w' => e = .returned (.string (shortV b)) ∧ Below w.heap.size w w' := by
 obtain ⟨i0, hi, hz0, hz1, hz2⟩ := info_parts In.Tryz.infoI2
 obtain ⟨hf1, hf2, _, _⟩ := lenS_facts b
 have HSM := hideP (symS_mem b)
 have hsl := symS_len b
 have hba := bwtA_le b hb
 have hab := Bi.above_le (up (lenS b))
 rw [up_length, hf1] at hab
 have C1 : Hid (∀ W, Calls Tryz.prog 90 #[.string b] W fun e w' => e = .returned (.tuple #[.string (bwtT b), .int .i64 (bwtA b : Nat)]) ∧ Below W.heap.size W w') := fun W => l05Bwt_spec b W hb
 have C2 : Hid (∀ W, Calls Tryz.prog 92 #[.string (bwtT b)] W fun e w' => ∃ v, e = .returned v ∧ OwnI w' W.heap.size v (frontR (bwtT b).data.toList) ∧ Below W.heap.size W w') := fun W => frontOf_spec (bwtT b) W (by
  have : (bwtT b).size ≤ 48 := by
   unfold bwtT
   rw [if_pos hb, Sh.strF_size]
   exact hb
  omega)
 have C3 : Hid (∀ W base v, OwnI W base v (frontR (bwtT b).data.toList) → Calls Tryz.prog 91 #[v] W fun e w' => ∃ v, e = .returned v ∧ OwnI w' W.heap.size v (symS b) ∧ Below W.heap.size W w') := fun W base v h => by
  obtain ⟨x, c, rfl, _, hi⟩ := h.ints
  exact zerosOf_spec _ x c W.heap.size W hi (Nat.le_refl _) (by have := frontR_len (bwtT b).data.toList; omega)
 obtain ⟨n, hn⟩ : ∃ n, n = (symS b).length := ⟨_, rfl⟩
 have HN := hideP hn
 have HCL := hideP (counts_le (symS b) HSM.out)
 have HNL : Hid ((Hf.nats (symS b)).length = n) := by unfold Hid Hf.nats; rw [List.length_map, hn]
 have C5 : Hid (∀ W g, IsI W g 2 (up (countsN (symS b))) → Calls Tryz.prog 93 #[.slice (some ⟨g, 0, none⟩) 257 257] W fun e w' => ∃ a c', e = .returned (.slice a 257 c') ∧ Ints w' w'.heap.size a (up (lenS b)) ∧ Below W.heap.size W w') := fun W g h => by
  refine (Hf.ofS_any (some ⟨g, 0, none⟩) 257 257 (countsN (symS b)) W (h.ints h.lt) (countsN_length _) (by decide) (by decide) (fun x hx => ?_)).mono ?_
  ·obtain ⟨j, hj, rfl⟩ := List.getElem_of_mem hx
   have h1 := HCL.out (Hf.nats (symS b)).length j
   rw [List.take_length] at h1
   have e : (countsN (symS b)).getD j 0 = (countsN (symS b))[j] := by rw [List.getD_eq_getElem?_getD, List.getElem?_eq_getElem hj]; rfl
   have h3 : (countsN (symS b)).getD j 0 ≤ (symS b).length := h1
   omega
  ·rintro e w' ⟨v, rfl, ho, hb⟩
   obtain ⟨a, c', rfl, _, hi⟩ := ho.ints
   refine ⟨a, c', ?_, hi, hb⟩
   rw [up_length]
   show Ending.returned (.slice a (lenS b).length c') = _
   rw [hf1]
 have C7 : Hid (∀ W x c y d, 0 < above (up (lenS b)) → Ints W W.heap.size x (up (lenS b)) → Ints W W.heap.size y (symS b) → Calls Tryz.prog 95 #[.slice x 257 c, .slice y n d] W fun e w' => e = .returned (.string (putR (up (lenS b)) (symS b))) ∧ Below W.heap.size W w') := fun W x c y d h0 h1 h2 => by
  have := Bi.l04Put_any (up (lenS b)) (symS b) x y c d W h1 h2 (by omega) (lenS_whole b h0) (symS_ok b)
  rw [up_length, hf1, ← hn, ← bits_some b h0] at this
  exact this
 have C8 : Hid (∀ W, Calls Tryz.prog 96 #[.string (putR (up (lenS b)) (symS b))] W fun e w' => e = .returned (.string (bitsS b)) ∧ Below W.heap.size W w') := fun W => Bi.pack_spec _ W (by have := bits_size b; omega)
 have HBN := hideP (bits_none b)
 have CP : Hid (∀ (x : Int) W, 0 ≤ x → x ≤ 1000000 → Calls Tryz.prog 94 #[.int .i64 x] W fun e w' => e = .returned (.string (putS x)) ∧ Below W.heap.size W w') := fun x W h1 h2 => Nu.put_spec x W (by omega) (by omega)
 have HPS := hideP putS_size
 have HTS := hideP (tabB_size (lenS b))
 have HBS := hideP (bitsS_size b)
 have HEQ := hideP (short_eq b)
 rw [← hn] at hsl HEQ
 have HD12 := hideP hf2
 have HDL := hideP hf1
 have HZ : Hid (up (incs (Hf.zeros 257) ((Hf.nats (symS b)).take 0)) = List.replicate 257 0) := by
  unfold Hid
  rw [List.take_zero]
  show up (Hf.zeros 257) = _
  unfold up Hf.zeros
  rw [List.map_replicate]
  rfl
 have HCN : Hid (incs (Hf.zeros 257) ((Hf.nats (symS b)).take n) = countsN (symS b)) := by
  unfold Hid
  rw [List.take_of_length_le (by rw [HNL.out]; exact Nat.le_refl _)]
  rfl
 have HNXT := hideP (fun j (h : j < n) => incs_next (Hf.zeros 257) (Hf.nats (symS b)) j (by rw [HNL.out]; exact h))
 have HNAT := hideP (fun j (h : j < (symS b).length) => nats_at (symS b) j h)
 have HABV := hideP (fun k (h : k < (up (lenS b)).length) => Bi.above_more (l := up (lenS b)) h)
 have HAB0 : Hid (above ((up (lenS b)).take 0) = 0) := rfl
 have HABA : Hid (above ((up (lenS b)).take 257) = above (up (lenS b))) := by
  unfold Hid
  rw [List.take_of_length_le (by rw [up_length, hf1]; exact Nat.le_refl _)]
 clear hn hf1 hf2
 generalize shortV b = R at HEQ ⊢
 generalize bitsS b = T3 at C8 HEQ HBS
 generalize putR (up (lenS b)) (symS b) = T0 at C7 C8 HBN
 generalize above (up (lenS b)) = kV at C7 HEQ HBN HABA hab
 generalize bwtA b = kA at C1 HEQ hba
 generalize bwtT b = kT at C1 C2 C3
 go_enter Tryz.func60, Tryz.ntmps60
 go_wp2_with fail
 refine (C1.out _).mono ?_
 rintro e w1 ⟨rfl, hb1⟩
 have B1 := hideP hb1
 clear hb1
 go_wp2_with fail
 refine (C2.out _).mono ?_
 rintro e w3 ⟨v3, rfl, ho3, hb3⟩
 have B3 := hideP (low_keep B1.out hb3)
 have O3 := hideP ho3
 clear ho3 hb3 B1
 go_wp2_with fail
 refine (C3.out _ _ _ O3.out).mono ?_
 rintro e w4 ⟨v4, rfl, ho4, hb4⟩
 have B4 := hideP (low_keep B3.out hb4)
 obtain ⟨ay, cy, hv4, _, hi4⟩ := ho4.ints
 rw [← HN.out] at hv4
 subst hv4
 have Y4 := hideP hi4
 have hz4 := B4.out.size
 clear ho4 hb4 B3 O3 hi4 C1 C2 C3
 go_wp2_with (at_make; refine wpList_make_full _ rfl (.const (.int .i64 257)) (.const (.int .i64 257)) 59 rfl w4.heap.size 2 i0 (.int .i64 0) 1 Tryz.underlying59 hi hz0 hz1 .i64 .i64 _ _ 257 rfl rfl (by omega) (by omega) (by rw [hz2]; omega) (by unfold maxLen; omega) (Nat.le_refl _) ?_; intro w5 hown hgrow; have HI1 := hideP (made_ints hown); have HB1 := hideP ((Below.refl w4.heap.size w4).grown hgrow (Nat.le_refl _) (by simp)); clear hown hgrow)
 go_loopw [7] (fun iv wr => ∃ j : Nat, iv = .int .i64 j ∧ j ≤ n ∧ IsI wr w4.heap.size 2 (up (incs (Hf.zeros 257) ((Hf.nats (symS b)).take j))) ∧ Below w4.heap.size w4 wr) (fun iv _ => n - (intOf iv).toNat)
 case atStart => exact ⟨0, rfl, Nat.zero_le _, by rw [HZ.out]; exact HI1.out, HB1.out⟩
 case round =>
  obtain ⟨j, rfl, hj, hij, hbw⟩ := hrel
  have IJ := hideP hij
  have BW := hideP hbw
  clear hij hbw
  by_cases hlt : j < n
  ·have hjl : j < (symS b).length := by rw [← HN.out]; exact hlt
   obtain ⟨bb, off, rfl, hbb, hcl⟩ := (Y4.out.below BW.out).some (by omega)
   have ci := hcl j hjl
   have hx := HSM.out (symS b)[j] (List.getElem_mem hjl)
   have HNX := hideP (HNXT.out j hlt)
   rw [HNAT.out j hjl] at HNX
   generalize (symS b)[j] = x at ci hx HNX
   obtain ⟨y, rfl⟩ : ∃ y : Nat, x = y := ⟨x.toNat, by omega⟩
   rw [Int.toNat_natCast] at HNX
   have hlen : y < (incs (Hf.zeros 257) ((Hf.nats (symS b)).take j)).length := by rw [incs_length, zeros_length]; omega
   have cl0 : wr.cell? ⟨w4.heap.size, y, none⟩ = some (.int .i64 (((incs (Hf.zeros 257) ((Hf.nats (symS b)).take j)).getD y 0 : Nat) : Int)) := by
    rw [IJ.out.cell (j := y) (by rw [up_length]; exact hlen), up_at _ _ hlen]
   have zl0 := IJ.out.frozen y
   have hdb := HCL.out j y
   obtain ⟨dv, hdv⟩ : ∃ dv, dv = (incs (Hf.zeros 257) ((Hf.nats (symS b)).take j)).getD y 0 := ⟨_, rfl⟩
   have HDV := hideP hdv
   rw [← hdv] at cl0 hdb
   have hdv2 : dv ≤ 400 := by have := HN.out; omega
   have hy : (y : Int) < 257 := by omega
   have hjn : (j : Int) < n := by omega
   clear hdv hcl hjl hlen hdb
   go_wp2_with fail
   go_region
   all_goals (
    go_wp2_with fail
    go_roundw
    case rel =>
     refine ⟨j + 1, by go_num, by omega, ?_, (BW.out.setCell (by simp) _).drew⟩
     have := IJ.out.set y ((dv : Int) + 1)
     rw [HNX.out, ← HDV.out, ← up_set]
     exact this
    case measure => simp [intOf]; omega)
  ·obtain rfl : j = n := by omega
   have IE : Hid (IsI wr w4.heap.size 2 (up (countsN (symS b)))) := by
    have := IJ.out
    rw [HCN.out] at this
    exact this
   have YE := hideP (ints_keep Y4.out BW.out)
   have BE := hideP (low_keep B4.out BW.out)
   generalize w4.heap.size = gc at IE ⊢
   clear IJ BW Y4 B4 HI1 HB1 HNXT HNAT HCL HZ HCN
   go_wp2_with fail
   refine (C5.out _ _ IE.out).mono ?_
   rintro e w6 ⟨az, cz, rfl, hi6, hb6⟩
   have B6 := hideP (low_keep BE.out hb6)
   have Y6 := hideP (ints_keep YE.out hb6)
   have Z6 := hideP hi6
   clear hi6 hb6 IE YE BE
   go_wp2_with fail
   go_loopw [11, 9, 10] (fun iv tv mv wr => ∃ k : Nat, iv = .int .i64 k ∧ k ≤ 257 ∧ tv = .string (tabB (lenS b) k) ∧ mv = .int .i64 (above ((up (lenS b)).take k) : Nat) ∧ Below w6.heap.size w6 wr) (fun iv _ _ _ => 257 - (intOf iv).toNat)
   case atStart => exact ⟨0, rfl, Nat.zero_le _, rfl, rfl, Below.refl _ _⟩
   case round =>
    obtain ⟨k, rfl, hk, rfl, rfl, hbw⟩ := hrel
    have BW := hideP hbw
    clear hbw
    by_cases hlt2 : k < 257
    ·have hkd : k < (lenS b).length := by rw [HDL.out]; exact hlt2
     obtain ⟨bb, off, rfl, hbb, hcl⟩ := (Z6.out.below BW.out).some (by rw [up_length]; omega)
     have ci := Hf.up_get hcl k hkd
     have hg : (lenS b).getD k 0 = (lenS b)[k] := by rw [List.getD_eq_getElem?_getD, List.getElem?_eq_getElem hkd]; rfl
     have hx := HD12.out k
     have HNX : Hid (tabB (lenS b) (k + 1) = if 0 < (lenS b).getD k 0 then tabB (lenS b) k ++ putS (k : Int) ++ putS (((lenS b).getD k 0 : Nat) : Int) else tabB (lenS b) k) := rfl
     have HAX := hideP (HABV.out k (by rw [up_length]; exact hkd))
     rw [up_at _ _ hkd] at HAX
     have hts := HTS.out k
     have hac : above ((up (lenS b)).take k) ≤ 257 := by
      have := Bi.above_le ((up (lenS b)).take k)
      rw [List.length_take] at this
      omega
     have HCI := hideP (fun (W : World) (h : Below wr.heap.size wr W) => (h.cell (p := ⟨bb, off + k, none⟩) (show bb < wr.heap.size by have := BW.out.size; omega)).trans ci)
     rw [← hg] at ci HCI
     generalize (lenS b).getD k 0 = x at ci hx HNX HAX HCI hg
     generalize tabB (lenS b) k = T at HNX hts ⊢
     generalize above ((up (lenS b)).take k) = m at HAX hac ⊢
     clear hg hcl hkd
     by_cases h0 : 0 < x
     ·have h0' : (0 : Int) < x := by omega
      rw [if_pos h0] at HNX
      rw [if_pos h0'] at HAX
      have p1 := HPS.out (k : Int)
      have p2 := HPS.out (x : Int)
      have HP1 := hideP (fun W => CP.out (k : Int) W (by omega) (by omega))
      have HP2 := hideP (fun W => CP.out (x : Int) W (by omega) (by omega))
      generalize putS (k : Int) = P1 at HP1 HNX p1
      generalize putS (x : Int) = P2 at HP2 HNX p2
      have n1 : ¬ 9223372036854775807 < T.size + P1.size := by omega
      have n2 : ¬ 9223372036854775807 < T.size + P1.size + P2.size := by omega
      have hkk : (k : Int) < 257 := by omega
      have gc := fun d os => cell_regrown (w := wr) ci d os
      have mixed := So.mixed
      go_wp2_with fail
      clear ci
      refine wp_region_quiet_below (by assumption) (by kernel_rfl) ?_
      repeat (quiet_step (first | (go_at_call_of 94 (Value.int IntKind.i64 (k : Int)); exact Calls.regrown_of (HP1.out _)) | (go_at_call_of 94 (Value.int IntKind.i64 (x : Int)); exact Calls.regrown_of (HP2.out _))))
      refine wpQuiet_nil ?_
      intro _ hw'
      obtain ⟨⟨dq, osq⟩, hw''⟩ := hw'
      subst hw''
      have KQ := hideP (below_regrown wr dq osq)
      generalize Go.Sort.grow (redrawn wr dq) osq = w8 at KQ ⊢
      clear gc
      go_wp2_with fail
      go_roundw
      case rel => exact ⟨k + 1, by go_num, by omega, by rw [HNX.out], by rw [HAX.out]; go_num, low_keep BW.out KQ.out⟩
      case measure => simp [intOf]; omega
     ·have h0' : x = 0 := by omega
      subst h0'
      rw [if_neg h0] at HNX
      rw [if_neg (by decide)] at HAX
      go_wp2_with fail
      go_roundw
      case rel => exact ⟨k + 1, by go_num, by omega, by rw [HNX.out], by rw [HAX.out]; rfl, BW.out⟩
      case measure => simp [intOf]; omega
    ·obtain rfl : k = 257 := by omega
     have Y7 := hideP (ints_keep Y6.out BW.out)
     have Z7 := hideP (ints_keep Z6.out BW.out)
     have B7 := hideP (low_keep B6.out BW.out)
     have hts := HTS.out 257
     rw [HABA.out]
     clear Y6 Z6 B6 BW HABV HAB0 HABA HTS HD12
     generalize tabB (lenS b) 257 = T at HEQ hts ⊢
     have p1 := HPS.out (b.size : Int)
     have p2 := HPS.out (kA : Int)
     have p3 := HPS.out (j : Int)
     have p4 := HPS.out (kV : Int)
     have HP1 := hideP (fun W => CP.out (b.size : Int) W (by omega) (by omega))
     have HP2 := hideP (fun W => CP.out (kA : Int) W (by omega) (by omega))
     have HP3 := hideP (fun W => CP.out (j : Int) W (by omega) (by omega))
     have HP4 := hideP (fun W => CP.out (kV : Int) W (by omega) (by omega))
     generalize putS (b.size : Int) = P1 at HP1 HEQ p1
     generalize putS (kA : Int) = P2 at HP2 HEQ p2
     generalize putS (j : Int) = P3 at HP3 HEQ p3
     generalize putS (kV : Int) = P4 at HP4 HEQ p4
     have q1 : (P1 ++ P2).size ≤ 20 := by rw [ByteArray.size_append]; omega
     have q2 : (P1 ++ P2 ++ P3).size ≤ 30 := by rw [ByteArray.size_append]; omega
     have q3 : (P1 ++ P2 ++ P3 ++ P4).size ≤ 40 := by rw [ByteArray.size_append]; omega
     have q4 : ((⟨#[1]⟩ : ByteArray) ++ (P1 ++ P2 ++ P3 ++ P4)).size ≤ 41 := by rw [ByteArray.size_append]; have : (⟨#[1]⟩ : ByteArray).size = 1 := rfl; omega
     have q5 : ((⟨#[1]⟩ : ByteArray) ++ (P1 ++ P2 ++ P3 ++ P4) ++ T).size ≤ 5181 := by rw [ByteArray.size_append]; omega
     have hbs := HBS.out
     have r1 : P1.size + P2.size ≤ 9223372036854775807 := by omega
     have r2 : (P1 ++ P2).size + P3.size ≤ 9223372036854775807 := by omega
     have r3 : (P1 ++ P2 ++ P3).size + P4.size ≤ 9223372036854775807 := by omega
     have r4 : (⟨#[1]⟩ : ByteArray).size + (P1 ++ P2 ++ P3 ++ P4).size ≤ 9223372036854775807 := by have : (⟨#[1]⟩ : ByteArray).size = 1 := rfl; omega
     have r5 : ((⟨#[1]⟩ : ByteArray) ++ (P1 ++ P2 ++ P3 ++ P4)).size + T.size ≤ 9223372036854775807 := by omega
     have r6 : ((⟨#[1]⟩ : ByteArray) ++ (P1 ++ P2 ++ P3 ++ P4) ++ T).size + T3.size ≤ 9223372036854775807 := by omega
     go_wp2_with fail
     refine (HP1.out _).mono ?_
     rintro e w91 ⟨rfl, hb91⟩
     have B91 := hideP (low_keep B7.out hb91)
     have Y8 := hideP (ints_keep Y7.out hb91)
     have Z8 := hideP (ints_keep Z7.out hb91)
     clear hb91 Y7 Z7 B7
     go_wp2_with fail
     refine (HP2.out _).mono ?_
     rintro e w92 ⟨rfl, hb92⟩
     have B92 := hideP (low_keep B91.out hb92)
     have Y9 := hideP (ints_keep Y8.out hb92)
     have Z9 := hideP (ints_keep Z8.out hb92)
     clear hb92 Y8 Z8 B91
     go_wp2_with fail
     refine (HP3.out _).mono ?_
     rintro e w93 ⟨rfl, hb93⟩
     have B93 := hideP (low_keep B92.out hb93)
     have Y10 := hideP (ints_keep Y9.out hb93)
     have Z10 := hideP (ints_keep Z9.out hb93)
     clear hb93 Y9 Z9 B92
     go_wp2_with fail
     refine (HP4.out _).mono ?_
     rintro e w94 ⟨rfl, hb94⟩
     have B94 := hideP (low_keep B93.out hb94)
     have Y11 := hideP (ints_keep Y10.out hb94)
     have Z11 := hideP (ints_keep Z10.out hb94)
     clear hb94 Y10 Z10 B93
     by_cases hV : 0 < kV
     ·have hV' : (0 : Int) < kV := by omega
      go_wp2_with fail
      refine (C7.out _ _ _ _ _ hV Z11.out Y11.out).mono ?_
      rintro e w95 ⟨rfl, hb95⟩
      have B95 := hideP (low_keep B94.out hb95)
      clear hb95
      go_wp2_with fail
      refine (C8.out _).mono ?_
      rintro e w96 ⟨rfl, hb96⟩
      have B96 := hideP (low_keep B95.out hb96)
      clear hb96
      go_wp2_with fail
      go_ret
      exact ⟨by rw [← HEQ.out]; rfl, B96.out⟩
     ·obtain rfl : kV = 0 := by omega
      obtain rfl := HBN.out rfl
      have B95 := hideP B94.out
      go_wp2_with fail
      refine (C8.out _).mono ?_
      rintro e w96 ⟨rfl, hb96⟩
      have B96 := hideP (low_keep B95.out hb96)
      clear hb96
      go_wp2_with fail
      go_ret
      exact ⟨by rw [← HEQ.out]; rfl, B96.out⟩
set_option maxRecDepth 100000 in
set_option maxHeartbeats 1000000 in
theorem pack_l06 (b : ByteArray) (w : World) (hb : b.size ≤ 48) :
  Calls Tryz.prog 32 #[.string b] w fun e w' => e = .returned (.string (packB b)) ∧ Below w.heap.size w w' := by
 have HR : Hid (packB b = sealV (innerV b)) := if_neg (by omega)
 have HL := hideP (fun W => long_spec b W hb)
 have hss : (shortV b).size ≤ 20000 := by
  have := shortL_le b
  show (shortL b).toArray.size ≤ 20000
  rw [List.size_toArray]
  exact this
 have HSE := hideP (fun (t : ByteArray) (W : World) (h : t.size ≤ 20000) => seal_spec t W (by unfold maxLen; omega))
 have HPE := hideP (plain_eq b)
 have hps := plainV_size b
 have HIN : Hid (innerV b = if (shortV b).size < b.size + 1 then shortV b else plainV b) := rfl
 rw [HR.out, HIN.out]
 clear HR HIN
 generalize shortV b = S at HL hss ⊢
 generalize plainV b = P at HPE hps ⊢
 by_cases hlt : S.size < b.size + 1
 ·have hlt' : ¬ (b.size : Int) + 1 ≤ (S.size : Int) := by omega
  have hlt2 : decide ((b.size : Int) + 1 ≤ (S.size : Int)) = false := decide_eq_false hlt'
  rw [if_pos hlt]
  have HSE1 := hideP (fun W => HSE.out S W hss)
  generalize sealV S = R at HSE1 ⊢
  go_enter Tryz.func32, Tryz.ntmps32
  go_wp2_with fail
  refine (HL.out _).mono ?_
  rintro e w1 ⟨rfl, hb1⟩
  have B1 := hideP hb1
  clear hb1
  go_wp2_with fail
  refine (HSE1.out _).mono ?_
  rintro e w2 ⟨rfl, hb2⟩
  have B2 := hideP (low_keep B1.out hb2)
  clear hb2
  go_wp2_with fail
  go_ret
  exact ⟨rfl, B2.out⟩
 ·have hlt' : (b.size : Int) + 1 ≤ (S.size : Int) := by omega
  rw [if_neg hlt]
  have HSE1 := hideP (fun W => HSE.out P W (by omega))
  rw [← HPE.out] at HSE1 ⊢
  have hz0 : (⟨#[0]⟩ : ByteArray).size + b.size ≤ 9223372036854775807 := by have : (⟨#[0]⟩ : ByteArray).size = 1 := rfl; omega
  generalize sealV ((⟨#[0]⟩ : ByteArray) ++ b) = R at HSE1 ⊢
  clear HPE
  go_enter Tryz.func32, Tryz.ntmps32
  go_wp2_with fail
  refine (HL.out _).mono ?_
  rintro e w1 ⟨rfl, hb1⟩
  have B1 := hideP hb1
  clear hb1
  go_wp2_with fail
  refine (HSE1.out _).mono ?_
  rintro e w2 ⟨rfl, hb2⟩
  have B2 := hideP (low_keep B1.out hb2)
  clear hb2
  go_wp2_with fail
  go_ret
  exact ⟨rfl, B2.out⟩
set_option maxHeartbeats 1000000 in
theorem pack_spec (b : ByteArray) (w : World) (hb : b.size ≤ 1048576) :
  Calls Tryz.prog 11 #[.string b] w fun e w' => e = .returned (.string (packB b)) ∧ Below w.heap.size w w' := by
 have HB := hideP (So.block_spec b w hb)
 by_cases h48 : b.size ≤ 48
 ·have HL := hideP (pack_l06 b w h48)
  rw [decide_eq_true h48] at HB
  generalize packB b = R at HL ⊢
  go_enter Tryz.func11, Tryz.ntmps11
  go_wp2_with fail
  refine HB.out.mono ?_
  rintro e w1 ⟨rfl, hw1⟩
  subst w1
  go_wp2_with fail
  refine HL.out.mono ?_
  rintro e w2 ⟨rfl, hb2⟩
  have B2 := hideP hb2
  clear hb2
  go_wp2_with fail
  go_ret
  exact ⟨rfl, B2.out⟩
 ·have HR : Hid (packB b = ⟨#[]⟩) := if_pos (by omega)
  rw [decide_eq_false h48] at HB
  rw [HR.out]
  go_enter Tryz.func11, Tryz.ntmps11
  go_wp2_with fail
  refine HB.out.mono ?_
  rintro e w1 ⟨rfl, hw1⟩
  subst w1
  go_wp2_with fail
  go_ret
  exact ⟨rfl, Below.refl _ _⟩
end Go.Proofs.YthbpenanelbbcaaGreatDoor.Pk


/- The walk of spec.GetNum: it answers Gn.getV of its text and place, and writes nothing that was there. -/
namespace Go.Proofs.YthbpenanelbbcaaGreatDoor.Gn
open Go.RowKit
set_option maxRecDepth 100000 in
set_option maxHeartbeats 1000000 in
theorem get_in (s : ByteArray) (a : Nat) (w : World) (hs : s.size ≤ 8000) (ha : a < s.size) :
  Calls Tryz.prog 97 #[.string s, .int .i64 a] w fun e w' => e = .returned (resV (numR s a)) ∧ Below w.heap.size w w' := by
 go_enter Tryz.func97, Tryz.ntmps97
 go_wp2
 go_loop [5, 6, 7, 8] (fun u i _ _ => ∃ k v : Nat, k ≤ 9 ∧ i = .int .i64 k ∧ u = .int .u64 v ∧ v < 2 ^ (7 * k) ∧ numR s a = run s (10 - k) k (a + k) v) (fun _ i _ _ => 10 - (intOf i).toNat)
 case atStart => exact ⟨0, 0, by omega, rfl, rfl, by decide, rfl⟩
 case round =>
  obtain ⟨k, v, hk, rfl, rfl, hv, hr⟩ := hrel
  have HV := hide hv
  have HR := hide hr
  have HK := hide hk
  have hvb : v ≤ 9223372036854775807 := by have := pow_le k hk; omega
  clear hv hr
  obtain ⟨f, hf⟩ : ∃ f, 10 - k = f + 1 := ⟨9 - k, by omega⟩
  have HF := hide hf
  clear hf
  by_cases hp : a + k < s.size
  ·have hb : s[a + k].toNat < 256 := s[a + k].toNat_lt
   by_cases h9 : k = 9 ∧ 1 < s[a + k].toNat
   ·have hk9 : ((k : Int) == 9) = true := beq_iff_eq.2 (by omega)
    have hc1 : (1 : Int) < s[a + k].toNat := by omega
    have HE : Hid (numR s a = (0, 0, 3)) := HR.out.trans (by rw [HF.out]; exact run_nine s f k (a + k) v hp h9.1 h9.2)
    have HH := hide h9
    clear h9
    go_wp2
    refine bodyPost_ret (v := outN 0 0 3) (by simp [results, outN, Tryz.results97, go_sem]) rfl ⟨by rw [HE.out]; rfl, (Below.refl _ _).alloc (Nat.le_refl _) _⟩
   ·obtain ⟨x, hx⟩ : ∃ x, x = v + s[a + k].toNat % 128 * 2 ^ (7 * k) := ⟨_, rfl⟩
    obtain ⟨hm1, hm2⟩ := next_small v s[a + k].toNat k HV.out hk h9
    have hw := wrap_next v s[a + k].toNat k hm1 hm2
    rw [← hx] at hw hm2
    have HX := hide hx
    clear hx hm1
    have H9 := hide h9
    clear h9
    by_cases hc : s[a + k].toNat < 128
    ·by_cases hz : s[a + k].toNat = 0 ∧ 0 < k
     ·have HE : Hid (numR s a = (0, 0, 3)) := HR.out.trans (by rw [HF.out]; exact run_zero s f k (a + k) v hp hz.1 hz.2)
      have hcz : ((s[a + k].toNat : Int) == 0) = true := beq_iff_eq.2 (by omega)
      have hcd : decide ((1 : Int) < s[a + k].toNat) = false := decide_eq_false (by omega)
      have hk0 : (0 : Int) < k := by omega
      have HZ := hide hz
      clear hz
      by_cases e9 : k = 9
      ·have hk9 : ((k : Int) == 9) = true := beq_iff_eq.2 (by omega)
       have H99 := hide e9
       clear e9
       go_wp2
       refine bodyPost_ret (v := outN 0 0 3) (by simp [results, outN, Tryz.results97, go_sem]) rfl ⟨by rw [HE.out]; rfl, (Below.refl _ _).alloc (Nat.le_refl _) _⟩
      ·have hk9 : ((k : Int) == 9) = false := beq_eq_false_iff_ne.2 (by omega)
       go_wp2
       refine bodyPost_ret (v := outN 0 0 3) (by simp [results, outN, Tryz.results97, go_sem]) rfl ⟨by rw [HE.out]; rfl, (Below.refl _ _).alloc (Nat.le_refl _) _⟩
     ·have HE : Hid (numR s a = (x, a + k + 1, 0)) := HR.out.trans (by rw [HF.out, HX.out]; exact run_last s f k (a + k) v hp H9.out hc hz)
      have HZ := hide hz
      clear hz
      by_cases cz : s[a + k].toNat = 0
      ·have hk0 : k = 0 := by have := HZ.out; omega
       have hcz : ((s[a + k].toNat : Int) == 0) = true := beq_iff_eq.2 (by omega)
       have hnk : ¬ 0 < k := by omega
       have hkd : decide (0 < k) = false := decide_eq_false hnk
       have hk9 : ((k : Int) == 9) = false := beq_eq_false_iff_ne.2 (by omega)
       have HC := hide cz
       have HK0 := hide hk0
       clear cz hk0
       by_cases hodd : x % 2 = 1
       ·have ho : (((x : Int) % 2) == 1) = true := by rw [beq_iff_eq]; omega
        have HO := hide (unz_odd' x hodd)
        clear hodd
        go_wp2
        refine bodyPost_ret (v := outN (-((x : Int) / 2) - 1) ((a : Int) + k + 1) 0) (by simp [results, outN, Tryz.results97, go_sem]) rfl ⟨by rw [HE.out, HO.out]; simp [resV], (Below.refl _ _).alloc (Nat.le_refl _) _⟩
       ·have ho : (((x : Int) % 2) == 1) = false := by rw [beq_eq_false_iff_ne]; omega
        have HO := hide (unz_even' x hodd)
        clear hodd
        go_wp2
        refine bodyPost_ret (v := outN ((x : Int) / 2) ((a : Int) + k + 1) 0) (by simp [results, outN, Tryz.results97, go_sem]) rfl ⟨by rw [HE.out, HO.out]; simp [resV], (Below.refl _ _).alloc (Nat.le_refl _) _⟩
      ·have hcz : ((s[a + k].toNat : Int) == 0) = false := beq_eq_false_iff_ne.2 (by omega)
       by_cases e9 : k = 9
       ·have hk9 : ((k : Int) == 9) = true := beq_iff_eq.2 (by omega)
        have hcd : decide ((1 : Int) < s[a + k].toNat) = false := decide_eq_false (by have := H9.out; omega)
        have H99 := hide e9
        clear e9
        by_cases hodd : x % 2 = 1
        ·have ho : (((x : Int) % 2) == 1) = true := by rw [beq_iff_eq]; omega
         have HO := hide (unz_odd' x hodd)
         clear hodd
         go_wp2
         refine bodyPost_ret (v := outN (-((x : Int) / 2) - 1) ((a : Int) + k + 1) 0) (by simp [results, outN, Tryz.results97, go_sem]) rfl ⟨by rw [HE.out, HO.out]; simp [resV], (Below.refl _ _).alloc (Nat.le_refl _) _⟩
        ·have ho : (((x : Int) % 2) == 1) = false := by rw [beq_eq_false_iff_ne]; omega
         have HO := hide (unz_even' x hodd)
         clear hodd
         go_wp2
         refine bodyPost_ret (v := outN ((x : Int) / 2) ((a : Int) + k + 1) 0) (by simp [results, outN, Tryz.results97, go_sem]) rfl ⟨by rw [HE.out, HO.out]; simp [resV], (Below.refl _ _).alloc (Nat.le_refl _) _⟩
       ·have hk9 : ((k : Int) == 9) = false := beq_eq_false_iff_ne.2 (by omega)
        by_cases hodd : x % 2 = 1
        ·have ho : (((x : Int) % 2) == 1) = true := by rw [beq_iff_eq]; omega
         have HO := hide (unz_odd' x hodd)
         clear hodd
         go_wp2
         refine bodyPost_ret (v := outN (-((x : Int) / 2) - 1) ((a : Int) + k + 1) 0) (by simp [results, outN, Tryz.results97, go_sem]) rfl ⟨by rw [HE.out, HO.out]; simp [resV], (Below.refl _ _).alloc (Nat.le_refl _) _⟩
        ·have ho : (((x : Int) % 2) == 1) = false := by rw [beq_eq_false_iff_ne]; omega
         have HO := hide (unz_even' x hodd)
         clear hodd
         go_wp2
         refine bodyPost_ret (v := outN ((x : Int) / 2) ((a : Int) + k + 1) 0) (by simp [results, outN, Tryz.results97, go_sem]) rfl ⟨by rw [HE.out, HO.out]; simp [resV], (Below.refl _ _).alloc (Nat.le_refl _) _⟩
    ·have hn9 : ¬ k = 9 := by have := H9.out; omega
     have hk9 : ((k : Int) == 9) = false := beq_eq_false_iff_ne.2 (by omega)
     have HE : Hid (numR s a = run s f (k + 1) (a + k + 1) x) := HR.out.trans (by rw [HF.out, HX.out]; exact run_more s f k (a + k) v hp hn9 (by omega))
     go_wp2
     go_round
     case rel => exact ⟨k + 1, x, by omega, by go_num, rfl, by rw [HX.out]; exact next_lt _ _ _ HV.out, by rw [HE.out, show 10 - (k + 1) = f from by have := HF.out; omega]; rfl⟩
     case measure => simp [intOf]; omega
  ·have HE : Hid (numR s a = (0, 0, 4)) := HR.out.trans (by rw [HF.out]; exact run_end s f k (a + k) v (by omega))
   go_wp2
   refine bodyPost_ret (v := outN 0 0 4) (by simp [results, outN, Tryz.results97, go_sem]) rfl ⟨by rw [HE.out]; rfl, (Below.refl _ _).alloc (Nat.le_refl _) _⟩
set_option maxRecDepth 100000 in
theorem get_spec (s : ByteArray) (a : Int) (w : World) (hs : s.size ≤ maxLen) :
  Calls Tryz.prog 97 #[.string s, .int .i64 a] w fun e w' => e = .returned (getV s a) ∧ Below w.heap.size w w' := by
 unfold maxLen at hs
 by_cases h1 : 8000 < s.size
 ·have HE : Hid (getV s a = outN 0 0 2) := by unfold Hid getV; rw [if_pos h1]
  go_enter Tryz.func97, Tryz.ntmps97
  go_wp2
  refine bodyPost_ret (v := outN 0 0 2) (by simp [results, outN, Tryz.results97, go_sem]) rfl ⟨by rw [HE.out], (Below.refl _ _).alloc (Nat.le_refl _) _⟩
 ·by_cases h2 : a < 0
  ·have HE : Hid (getV s a = outN 0 0 1) := by unfold Hid getV; rw [if_neg h1, if_pos h2]
   go_enter Tryz.func97, Tryz.ntmps97
   go_wp2
   refine bodyPost_ret (v := outN 0 0 1) (by simp [results, outN, Tryz.results97, go_sem]) rfl ⟨by rw [HE.out], (Below.refl _ _).alloc (Nat.le_refl _) _⟩
  ·obtain ⟨n, rfl⟩ := Int.eq_ofNat_of_zero_le (show 0 ≤ a from by omega)
   have e0 : getV s (n : Int) = resV (numR s n) := by unfold getV; rw [if_neg h1, if_neg h2, Int.toNat_natCast]
   by_cases h3 : n < s.size
   ·rw [e0]
    exact get_in s n w (by omega) h3
   ·have HE : Hid (getV s (n : Int) = outN 0 0 4) := e0.trans (by unfold numR; rw [run_end s 9 0 n 0 (by omega)]; rfl)
    clear e0
    go_enter Tryz.func97, Tryz.ntmps97
    go_wp2
    refine wp_loop_rounds 1 ?_
    rw [rounds_succ]
    go_wp2
    refine bodyPost_ret (v := outN 0 0 4) (by simp [results, outN, Tryz.results97, go_sem]) rfl ⟨by rw [HE.out], (Below.refl _ _).alloc (Nat.le_refl _) _⟩
end Go.Proofs.YthbpenanelbbcaaGreatDoor.Gn


/- What the specification's reader of numbers does. -/
namespace Go.Proofs.YthbpenanelbbcaaGreatDoor.Up
open Go.RowKit
open Go.Proofs.YthbpenanelbbcaaGreatDoor.Gn (rd getV getV_rd outN)
open Go.Proofs.YthbpenanelbbcaaGreatDoor.Dr (Aft Only)
theorem hideQ {p : Prop} (h : p) : Hid p := h
def Rdr (w : World) (B : Nat) (t : ByteArray) (at_ : Int) (bad : Bool) : Prop := w.heap[B]? = some (.cells #[.string t, .int .i64 at_, .bool bad] 81 (0, 0))
theorem rdr_lt {w : World} {B : Nat} {t : ByteArray} {a : Int} {b : Bool} (h : Rdr w B t a b) : B < w.heap.size := (Array.getElem?_eq_some_iff.1 h).1
theorem set_k3 {W : World} {g : Nat} {x y z : Value} {T : TypeId} (h : W.heap[g]? = some (.cells #[x, y, z] T (0, 0))) (v : Value) : (W.setCell ⟨g, 0, none⟩ v).heap[g]? = some (.cells #[v, y, z] T (0, 0)) ∧ (W.setCell ⟨g, 1, none⟩ v).heap[g]? = some (.cells #[x, v, z] T (0, 0)) ∧ (W.setCell ⟨g, 2, none⟩ v).heap[g]? = some (.cells #[x, y, v] T (0, 0)) := by
 refine ⟨?_, ?_, ?_⟩
 ·rw [heap_setCell_same W g 0 _ T v h]; rfl
 ·rw [heap_setCell_same W g 1 _ T v h]; rfl
 ·rw [heap_setCell_same W g 2 _ T v h]; rfl
theorem lq_alloc {w W : World} (h : Below w.heap.size w W) (o : Obj) : Below w.heap.size w (W.alloc o) := h.alloc h.size o
theorem lq_drew {w W : World} (h : Below w.heap.size w W) : Below w.heap.size w W.drew := h.drew
theorem lq_set {w W : World} (h : Below w.heap.size w W) (k : Nat) (v : Value) : Below w.heap.size w (W.setCell ⟨w.heap.size, k, none⟩ v) := h.setCell (p := ⟨w.heap.size, k, none⟩) (Nat.le_refl _) v
theorem lq_keep {w0 w w' : World} (h : Below w0.heap.size w0 w) (hb : Below w.heap.size w w') : Below w0.heap.size w0 w' := h.trans (hb.mono h.size)
theorem blk_low {w w' : World} {g : Nat} {x : Obj} (h : w.heap[g]? = some x) (hb : Below w.heap.size w w') : w'.heap[g]? = some x := (hb.block g (Array.getElem?_eq_some_iff.1 h).1).trans h
theorem aft_set {B : Nat} {w W : World} (h : Below w.heap.size w W) (o : Nat) (v : Value) : Aft B w (W.setCell ⟨B, o, none⟩ v) := (Dr.aft_below h).trans (Dr.Only.aft ((Only.refl B W).set o v))
def okN (t : ByteArray) (at_ : Int) (bad : Bool) (most : Int) : Prop := bad = false ∧ (rd t at_).2.2 = 0 ∧ 0 ≤ (rd t at_).1 ∧ (rd t at_).1 ≤ most
theorem get_case (t : ByteArray) (a : Int) : ∃ n p c : Int, getV t a = .agg #[.int .i64 n, .int .i64 p, .int .i64 c] ∧ ((c = 0 ∧ rd t a = (n, p.toNat, 0) ∧ 0 ≤ p) ∨ (¬ c = 0 ∧ ¬ (rd t a).2.2 = 0)) := by
 rw [getV_rd]
 by_cases h : (rd t a).2.2 = 0
 ·rw [if_pos h]
  refine ⟨_, _, _, rfl, .inl ⟨rfl, ?_, by omega⟩⟩
  rw [Int.toNat_natCast, ← h]
 ·rw [if_neg h]
  exact ⟨_, _, _, rfl, .inr ⟨h, h⟩⟩
set_option maxRecDepth 100000 in
set_option maxHeartbeats 4000000 in
theorem num_any (B : Nat) (t : ByteArray) (at_ most : Int) (bad : Bool) (w : World) (ht : t.size ≤ 1048576) (hb : Rdr w B t at_ bad) :
  Calls Tryz.prog 61 #[.pointer (some ⟨B, 0, none⟩), .int .i64 most] w fun e w' => ((okN t at_ bad most ∧ e = .returned (.int .i64 (rd t at_).1) ∧ Rdr w' B t ((rd t at_).2.1 : Int) false) ∨ (¬ okN t at_ bad most ∧ e = .returned (.int .i64 0) ∧ Rdr w' B t at_ true)) ∧ Aft B w w' := by
 have HB := hideQ hb
 have c0 : w.cell? ⟨B, 0, none⟩ = some (.string t) := cell_of_row w B 0 _ _ _ hb
 have c1 : w.cell? ⟨B, 1, none⟩ = some (.int .i64 at_) := cell_of_row w B 1 _ _ _ hb
 clear hb
 obtain ⟨n, p, c, hv, hcase⟩ := get_case t at_
 have HC := hideQ hcase
 have HGS : Hid (∀ W, Calls Tryz.prog 97 #[.string t, .int .i64 at_] W fun e w' => e = .returned (.agg #[.int .i64 n, .int .i64 p, .int .i64 c]) ∧ Below W.heap.size W w') := fun W => by
  have := Gn.get_spec t at_ W (by unfold maxLen; omega)
  rw [hv] at this
  exact this
 clear hv hcase
 go_enter Tryz.func61, Tryz.ntmps61
 have K0 : Hid (Below w.heap.size w w.drew) := (Below.refl _ _).drew
 have KA : Hid (∀ o, Below w.heap.size w (w.drew.alloc o)) := fun o => (Below.refl _ _).drew.alloc (Nat.le_refl _) o
 have KB : Hid (∀ o, Below w.heap.size w (w.alloc o).drew) := fun o => ((Below.refl _ _).alloc (Nat.le_refl _) o).drew
 have CB : Hid (∀ W, Below w.heap.size w W → W.cell? ⟨B, 0, none⟩ = some (.string t) ∧ W.cell? ⟨B, 1, none⟩ = some (.int .i64 at_)) := fun W h => ⟨(h.cell (p := ⟨B, 0, none⟩) (rdr_lt HB.out)).trans c0, (h.cell (p := ⟨B, 1, none⟩) (rdr_lt HB.out)).trans c1⟩
 clear c0 c1
 go_upto_region 1 with fail
 go_cut [5] from 6 to 14 (fun s5 wx => ∃ g : Nat, s5 = .pointer (some ⟨g, 0, none⟩) ∧ wx.heap[g]? = some (.cells #[.int .i64 n, .int .i64 p, .int .i64 c] 122 (0, 0)) ∧ w.heap.size ≤ g ∧ Below w.heap.size w wx)
 case first =>
  have hS0 := CB.out _ K0.out
  go_region_held3 (fun W => W.cell? ⟨B, 0, none⟩ = some (.string t) ∧ W.cell? ⟨B, 1, none⟩ = some (.int .i64 at_)) (first | assumption | exact CB.out _ (by repeat (first | exact L1.out | exact Below.refl _ _ | refine lq_alloc ?_ _ | refine lq_set ?_ _ _ | refine lq_drew ?_))) (first | (go_at_call 97; (with_reducible refine (HGS.out _).mono ?_); rintro e w1 ⟨rfl, hb1⟩; have L1 := hideQ (lq_keep (w0 := w) (by repeat (first | exact Below.refl _ _ | refine lq_alloc ?_ _ | refine lq_drew ?_)) hb1); have K1 := hideQ hb1; obtain ⟨hc1, hf1⟩ := Gn.bcell hb1; clear hb1))
  all_goals (try go_wp2_with fail)
  all_goals go_meet
  all_goals (first | exact ⟨_, rfl, heap_alloc_new w1 _, L1.out.size, lq_alloc L1.out _⟩ | exact ⟨_, rfl, (set_k3 (set_k3 (set_k3 (blk_low (w := (w.alloc (.cells #[.int .i64 0, .int .i64 0, .int .i64 0] 122)).drew) (heap_alloc_new w _) K1.out) _).1 _).2.1 _).2.2, Nat.le_refl _, lq_set (lq_set (lq_set L1.out _ _) _ _) _ _⟩)
 case rest =>
  obtain ⟨g, rfl, hgb, hgl, hbx⟩ := hcut
  have RB : Hid (Rdr wc B t at_ bad) := blk_low HB.out hbx
  have cB : wc.cell? ⟨B, 2, none⟩ = some (.bool bad) := cell_of_row wc B 2 _ _ _ RB.out
  have cB1 : wc.cell? ⟨B, 1, none⟩ = some (.int .i64 at_) := cell_of_row wc B 1 _ _ _ RB.out
  have hgB : ¬ g = B := by have := rdr_lt HB.out; omega
  have hBg : ¬ B = g := by omega
  have fB := fun o => frozen_of_row wc B o _ _ RB.out
  have cg0 : wc.cell? ⟨g, 0, none⟩ = some (.int .i64 n) := cell_of_row wc g 0 _ _ _ hgb
  have cg1 : wc.cell? ⟨g, 1, none⟩ = some (.int .i64 p) := cell_of_row wc g 1 _ _ _ hgb
  have cg2 : wc.cell? ⟨g, 2, none⟩ = some (.int .i64 c) := cell_of_row wc g 2 _ _ _ hgb
  have BX := hideQ hbx
  have HBAD : Hid (Rdr (wc.setCell ⟨B, 2, none⟩ (.bool true)) B t at_ true) := (set_k3 RB.out _).2.2
  have HFIN : Hid (Rdr (wc.setCell ⟨B, 1, none⟩ (.int .i64 p)) B t p bad) := (set_k3 RB.out _).2.1
  clear hgb hgl hbx HB HGS CB K0 KA KB
  cases bad with
  | true =>
   go_wp2_with fail
   go_ret
   exact ⟨.inr ⟨fun h => absurd h.1 (by decide), rfl, HBAD.out⟩, aft_set BX.out _ _⟩
  | false =>
   by_cases hc : c = 0
   ·subst hc
    have hrd : rd t at_ = (n, p.toNat, 0) ∧ 0 ≤ p := by
     rcases HC.out with h | h
     ·exact h.2
     ·exact absurd rfl h.1
    have HRD := hideQ hrd
    clear hrd
    by_cases hr : 0 ≤ n ∧ n ≤ most
    ·go_wp2_with fail
     refine (Bi.is_yes n 0 most _ hr.1 hr.2).mono ?_
     rintro e w2 ⟨rfl, rfl⟩
     go_wp2_with fail
     go_ret
     refine ⟨.inl ⟨⟨rfl, by rw [HRD.out.1], by rw [HRD.out.1]; exact hr.1, by rw [HRD.out.1]; exact hr.2⟩, by rw [HRD.out.1]; rfl, ?_⟩, aft_set BX.out _ _⟩
     rw [HRD.out.1, show ((p.toNat : Nat) : Int) = p from Int.toNat_of_nonneg HRD.out.2]
     exact HFIN.out
    ·have HR := hideQ hr
     go_wp2_with fail
     refine (Bi.is_no n 0 most _ (by omega)).mono ?_
     rintro e w2 ⟨rfl, rfl⟩
     clear hr
     go_wp2_with fail
     go_ret
     exact ⟨.inr ⟨fun h => HR.out (by have := h.2.2; rw [HRD.out.1] at this; exact this), rfl, HBAD.out⟩, aft_set BX.out _ _⟩
   ·have hc' : (c != 0) = true := by simp; exact hc
    go_wp2_with fail
    go_ret
    refine ⟨.inr ⟨fun h => ?_, rfl, HBAD.out⟩, aft_set BX.out _ _⟩
    rcases HC.out with k | k
    ·exact hc k.1
    ·exact k.2 h.2.1
end Go.Proofs.YthbpenanelbbcaaGreatDoor.Up


/- The walk of the specification's look for the next symbol. -/
namespace Go.Proofs.YthbpenanelbbcaaGreatDoor.Bi
open Go.RowKit
open Go.Proofs.YthbpenanelbbcaaGreatDoor.St (IsS Strs)
def wthK (l : List Int) (t : ByteArray) (k : Nat) : Bool := (List.range k).any fun i => decide (0 < l.getD i 0) && Lib.hasPrefix (codeOf l i).data.toList t.data.toList
theorem wthK_next (l : List Int) (t : ByteArray) (k : Nat) : wthK l t (k + 1) = (wthK l t k || (decide (0 < l.getD k 0) && Lib.hasPrefix (codeOf l k).data.toList t.data.toList)) := by
 unfold wthK
 rw [List.range_succ, List.any_append, List.any_cons, List.any_nil, Bool.or_false]
def nxt (l : List Int) (t : ByteArray) : Int := match sym l t with
 | some i => (i : Int)
 | none => if wth l t = true then -2 else -1
theorem toList_beq {x y : ByteArray} : (x.toList == y.toList) = true ↔ x = y := by
 rw [beq_iff_eq, ByteArray.toList_eq, ByteArray.toList_eq]
 constructor
 ·intro h
  have h2 : x.data = y.data := Array.toList_inj.1 h
  cases x; cases y; simp at h2; rw [h2]
 ·intro h; rw [h]
theorem pre_no {c t : ByteArray} (h : c.size ≤ t.size) (hne : ¬ t.extract 0 c.size = c) : Lib.hasPrefix c.data.toList t.data.toList = false := by
 rw [← Lib.hasPrefix_raw]
 by_cases hs : t.size ≤ c.size
 ·rw [decide_eq_true hs, Bool.true_and]
  cases hb : ((c.extract 0 t.size).toList == t.toList) with
  | false => rfl
  | true =>
   have h1 := toList_beq.1 hb
   have h2 : t.size = c.size := by omega
   rw [h2, ByteArray.extract_zero_size] at h1
   exact absurd (by rw [h1]; exact ByteArray.extract_zero_size) hne
 ·rw [decide_eq_false hs, Bool.false_and]
theorem pre_is {c t : ByteArray} (h : t.size < c.size) : ((c.extract 0 t.size).toList == t.toList) = Lib.hasPrefix c.data.toList t.data.toList := by
 rw [← Lib.hasPrefix_raw, decide_eq_true (by omega), Bool.true_and]
set_option maxRecDepth 100000 in
set_option maxHeartbeats 2000000 in
theorem next_spec (l : List Int) (t : ByteArray) (p : Nat) (x : Option Addr) (cap B : Nat) (w : World) (hs : Strs w B x (codesV l)) (hr : right l = true) (hp : p ≤ t.size) (ht : t.size ≤ 8000) :
    Calls Tryz.prog 133 #[.slice x l.length cap, .string t, .int .i64 p] w fun e w' => e = .returned (.int .i64 (nxt l (rst t p))) ∧ w' = w := by
  have hok := (within_yes (right_yes hr).1).2
  have hcs := (right_yes hr).2
  have hn := (within_yes (right_yes hr).1).1
  have HS := hideB hs
  have HK := hideB hok
  have HSO := hideB (fun (i : Nat) (h : mt l (rst t p) i) => sym_of hcs hok h)
  have HSN := hideB (fun (h : ∀ i, ¬ mt l (rst t p) i) => sym_none h)
  have HCL := hideB (codesV_length l)
  clear hs hok hcs hr
  obtain ⟨n, hln⟩ : ∃ n, n = l.length := ⟨_, rfl⟩
  have HLN := hideB hln
  rw [← hln] at hn HCL ⊢
  clear hln
  obtain ⟨r, hrr⟩ : ∃ r, r = rst t p := ⟨_, rfl⟩
  have hre : t.extract p t.size = r := hrr.symm
  have hrz : r.size ≤ 8000 := by rw [hrr, rst_size]; omega
  obtain ⟨rs, hrs⟩ : ∃ rs, rs = nxt l (rst t p) := ⟨_, rfl⟩
  have HRS := hideB hrs
  rw [← hrs]
  rw [← hrr] at HRS HSO HSN
  clear hrr hrs
  have hpi : (p : Int) ≤ t.size := by omega
  go_enter Tryz.func133, Tryz.ntmps133
  go_wp2_with fail
  go_loopw [9, 8] (fun i b wr => ∃ (k : Nat) (wb : Bool), i = .int .i64 k ∧ b = .bool wb ∧ k ≤ n ∧ wb = wthK l r k ∧ (∀ j, j < k → ¬ mt l r j) ∧ wr = w) (fun i _ _ => n - (intOf i).toNat)
  case atStart => exact ⟨0, false, rfl, rfl, Nat.zero_le _, rfl, fun j hj => absurd hj (Nat.not_lt_zero j), rfl⟩
  case round =>
    obtain ⟨k, wb, rfl, rfl, hk, hwb, hall, hw⟩ := hrel
    subst hw
    have HWB := hideB hwb
    have HA := hideB hall
    clear hwb hall
    by_cases hlt : k < n
    · have hkl : k < l.length := by rw [← HLN.out]; exact hlt
      have hkv : k < (codesV l).length := by rw [HCL.out]; exact hlt
      obtain ⟨b, off, rfl, hb, hc⟩ := HS.out.some (by omega)
      have ci := hc k hkv
      rw [codes_get l HK.out k hkv] at ci
      have HNX := hideB (wthK_next l r k)
      have HNONE := hideB (codeOf_none l k)
      have HSZ := hideB (codeOf_size l k)
      have hcl := codeOf_le l HK.out k
      have HMT : Hid (mt l r k ↔ 0 < l.getD k 0 ∧ wd l k ≤ r.size ∧ r.extract 0 (wd l k) = codeOf l k) := ⟨fun h => h.2, fun h => ⟨hkl, h⟩⟩
      rw [show (l.getD k 0).toNat = wd l k from rfl] at HSZ
      rw [← HSZ.out] at HMT
      obtain ⟨c, hcc⟩ : ∃ c, c = codeOf l k := ⟨_, rfl⟩
      rw [← hcc] at ci HNX HNONE hcl HMT
      have HS2 : Hid (c.size = wd l k) := by
        unfold Hid
        rw [hcc]
        exact HSZ.out
      clear hc hcc HSZ
      by_cases h0 : 0 < l.getD k 0
      · have hne : c.toList.isEmpty = false := nonempty c (by rw [HS2.out]; unfold wd; omega)
        rw [decide_eq_true h0, Bool.true_and] at HNX
        by_cases hge : c.size ≤ r.size
        · have hgi : (c.size : Int) ≤ r.size := by omega
          by_cases hm : r.extract 0 c.size = c
          · have hbq : ((r.extract 0 c.size).toList == c.toList) = true := toList_beq.2 hm
            have HE : Hid (rs = (k : Int)) := by
              unfold Hid
              rw [HRS.out]
              unfold nxt
              rw [HSO.out k (HMT.out.2 ⟨h0, hge, hm⟩)]
            clear hm h0
            go_wp2_with fail
            go_ret
            exact ⟨by rw [HE.out]; rfl, rfl⟩
          · have hbq : ((r.extract 0 c.size).toList == c.toList) = false := by
              cases hq : ((r.extract 0 c.size).toList == c.toList) with
              | false => rfl
              | true => exact absurd (toList_beq.1 hq) hm
            have HNO : Hid (∀ j, j < k + 1 → ¬ mt l r j) := fun j hj hmj => by
              by_cases e : j = k
              · subst e; exact hm (HMT.out.1 hmj).2.2
              · exact HA.out j (by omega) hmj
            have HW2 : Hid (wb = wthK l r (k + 1)) := by
              unfold Hid
              rw [HNX.out, pre_no hge hm, Bool.or_false]
              exact HWB.out
            have hlf : decide ((r.size : Int) < c.size) = false := decide_eq_false (by omega)
            clear hm h0
            cases wb with
            | true =>
              go_wp2_with fail
              go_roundw
              case rel => exact ⟨k + 1, true, by go_num, rfl, by omega, HW2.out, HNO.out, trivial⟩
              case measure => simp [intOf]; omega
            | false =>
              go_wp2_with fail
              go_roundw
              case rel => exact ⟨k + 1, false, by go_num, rfl, by omega, HW2.out, HNO.out, trivial⟩
              case measure => simp [intOf]; omega
        · have hgi : decide ((c.size : Int) ≤ r.size) = false := decide_eq_false (by omega)
          have hlt' : (r.size : Int) < c.size := by omega
          have hri : (r.size : Int) ≤ c.size := by omega
          have HNO : Hid (∀ j, j < k + 1 → ¬ mt l r j) := fun j hj hmj => by
            by_cases e : j = k
            · subst e; exact hge (HMT.out.1 hmj).2.1
            · exact HA.out j (by omega) hmj
          have hbq := pre_is (c := c) (t := r) (by omega)
          have HW2 : Hid ((wb || Lib.hasPrefix c.data.toList r.data.toList) = wthK l r (k + 1)) := by
            unfold Hid
            rw [HNX.out, HWB.out]
          generalize Lib.hasPrefix c.data.toList r.data.toList = pb at hbq HW2
          clear h0
          cases wb with
          | true =>
            go_wp2_with fail
            go_roundw
            case rel => exact ⟨k + 1, true, by go_num, rfl, by omega, HW2.out, HNO.out, trivial⟩
            case measure => simp [intOf]; omega
          | false =>
            cases pb with
            | true =>
              go_wp2_with fail
              go_roundw
              case rel => exact ⟨k + 1, true, by go_num, rfl, by omega, HW2.out, HNO.out, trivial⟩
              case measure => simp [intOf]; omega
            | false =>
              go_wp2_with fail
              go_roundw
              case rel => exact ⟨k + 1, false, by go_num, rfl, by omega, HW2.out, HNO.out, trivial⟩
              case measure => simp [intOf]; omega
      · have hce := HNONE.out h0
        have HNO : Hid (∀ j, j < k + 1 → ¬ mt l r j) := fun j hj hmj => by
          by_cases e : j = k
          · subst e; exact h0 (HMT.out.1 hmj).1
          · exact HA.out j (by omega) hmj
        have HW2 : Hid (wb = wthK l r (k + 1)) := by
          unfold Hid
          rw [HNX.out, decide_eq_false h0, Bool.false_and, Bool.or_false]
          exact HWB.out
        subst hce
        clear h0
        go_wp2_with fail
        go_roundw
        case rel => exact ⟨k + 1, wb, by go_num, rfl, by omega, HW2.out, HNO.out, trivial⟩
        case measure => simp [intOf]; omega
    · obtain rfl : k = n := by omega
      have HSY : Hid (sym l r = none) := HSN.out (fun i hm => HA.out i (by rw [HLN.out]; exact hm.1) hm)
      have HWT : Hid (wb = wth l r) := by
        unfold Hid
        rw [HWB.out, HLN.out]
        rfl
      cases wb with
      | true =>
        have HE : Hid (rs = -2) := by
          unfold Hid
          rw [HRS.out]
          unfold nxt
          rw [HSY.out]
          simp only [← HWT.out, if_true]
        go_wp2_with fail
        go_ret
        exact ⟨by rw [HE.out]; rfl, rfl⟩
      | false =>
        have HE : Hid (rs = -1) := by
          unfold Hid
          rw [HRS.out]
          unfold nxt
          rw [HSY.out]
          simp only [← HWT.out]
          rfl
        go_wp2_with fail
        go_ret
        exact ⟨by rw [HE.out]; rfl, rfl⟩
end Go.Proofs.YthbpenanelbbcaaGreatDoor.Bi


/- The walk of the specification's CodeGet. -/
namespace Go.Proofs.YthbpenanelbbcaaGreatDoor.Bi
open Go.RowKit
open Go.Proofs.YthbpenanelbbcaaGreatDoor.In (Ints IsI OwnIn OwnI one_newI one_cellI)
open Go.Proofs.YthbpenanelbbcaaGreatDoor.St (IsS Strs)
def OutV (w : World) (g : Nat) (v : Value) (p : Int) : Prop := w.heap[g]? = some (.cells #[v, .int .i64 p, .int .i64 0] 83 (0, 0))
theorem OutV.c0 {w : World} {g : Nat} {v : Value} {p : Int} (h : OutV w g v p) : w.cell? ⟨g, 0, none⟩ = some v := (cell_of_row w g 0 _ _ _ h).trans rfl
theorem OutV.c1 {w : World} {g : Nat} {v : Value} {p : Int} (h : OutV w g v p) : w.cell? ⟨g, 1, none⟩ = some (.int .i64 p) := (cell_of_row w g 1 _ _ _ h).trans rfl
theorem OutV.c2 {w : World} {g : Nat} {v : Value} {p : Int} (h : OutV w g v p) : w.cell? ⟨g, 2, none⟩ = some (.int .i64 0) := (cell_of_row w g 2 _ _ _ h).trans rfl
theorem OutV.fr {w : World} {g : Nat} {v : Value} {p : Int} (h : OutV w g v p) (j : Nat) : w.frozen? ⟨g, j, none⟩ = false := frozen_of_row w g j _ _ h
theorem OutV.lt {w : World} {g : Nat} {v : Value} {p : Int} (h : OutV w g v p) : g < w.heap.size := (Array.getElem?_eq_some_iff.1 h).1
theorem OutV.of_heap {w w' : World} {g : Nat} {v : Value} {p : Int} (h : OutV w g v p) (e : w'.heap[g]? = w.heap[g]?) : OutV w' g v p := by unfold OutV; rw [e]; exact h
theorem OutV.set0 {w : World} {g : Nat} {v : Value} {p : Int} (h : OutV w g v p) (v' : Value) : OutV (w.setCell ⟨g, 0, none⟩ v') g v' p := by unfold OutV; rw [heap_setCell_same w g 0 _ _ _ h]; rfl
theorem OutV.set1 {w : World} {g : Nat} {v : Value} {p : Int} (h : OutV w g v p) (q : Int) : OutV (w.setCell ⟨g, 1, none⟩ (.int .i64 q)) g v q := by unfold OutV; rw [heap_setCell_same w g 1 _ _ _ h]; rfl
theorem ownI_set {w : World} {base : Nat} {v : Value} {l : List Int} (h : OwnI w base v l) (a : Addr) (x : Value) (ha : a.block < base) : OwnI (w.setCell a x) base v l := by
 obtain ⟨hl, h⟩ := h
 refine ⟨hl, ?_⟩
 rcases h with h | ⟨g, cap, cur, hv, hg, hb, rest⟩
 ·exact .inl h
 ·exact .inr ⟨g, cap, cur, hv, hg, by rw [heap_setCell_other w a g x (by omega)]; exact hb, rest⟩
theorem ownI_alloc {w : World} {base : Nat} {v : Value} {l : List Int} (h : OwnI w base v l) (o : Obj) : OwnI (w.alloc o) base v l := World.ownsRow.alloc h o
theorem in_mono {w : World} {lo hi lo' hi' : Nat} {v : Value} {l : List Int} (h : OwnIn w lo hi v l) (h1 : lo' ≤ lo) (h2 : hi ≤ hi') : OwnIn w lo' hi' v l := by
 rcases h with h | ⟨g, cap, hv, hg, hh, ho⟩
 ·exact .inl h
 ·exact .inr ⟨g, cap, hv, by omega, by omega, ho⟩
theorem nxt_some {l : List Int} {t : ByteArray} {i : Nat} (h : sym l t = some i) : nxt l t = (i : Int) := by unfold nxt; rw [h]
theorem nxt_short {l : List Int} {t : ByteArray} (h : sym l t = none) (hw : wth l t = true) : nxt l t = -2 := by unfold nxt; rw [h]; simp only [hw, if_true]
theorem nxt_none {l : List Int} {t : ByteArray} (h : sym l t = none) (hw : wth l t = false) : nxt l t = -1 := by unfold nxt; rw [h]; simp only [hw]; rfl
set_option maxRecDepth 100000 in
set_option maxHeartbeats 2000000 in
theorem l04Get_any (l : List Int) (t : ByteArray) (m : Nat) (a : Option Addr) (cap : Nat) (w : World) (hl : Ints w w.heap.size a l) (h8 : t.size ≤ 8000) (hr : right l = true) (hm : m ≤ 400) :
  Calls Tryz.prog 100 #[.slice a l.length cap, .string t, .int .i64 m] w fun e w' => ∃ v, e = .returned (.agg #[v, .int .i64 (outS (st l t m)).2.1, .int .i64 (outS (st l t m)).2.2]) ∧ OwnIn w' w.heap.size w'.heap.size v (outS (st l t m)).1 ∧ Below w.heap.size w w' := by
 obtain ⟨i0, hi0, hz0, hz1, hz2⟩ := info_parts Tryz.infoG2
 obtain ⟨W0, hW0⟩ : ∃ W0, W0 = w.alloc (.cells #[.slice none 0 0, .int .i64 0, .int .i64 0] 83) := ⟨_, rfl⟩
 have z0 : W0.heap.size = w.heap.size + 1 := by rw [hW0]; simp
 have B0 := hideB (show Below w.heap.size w W0 by rw [hW0]; exact (Below.refl _ _).alloc (Nat.le_refl _) _)
 have O0 := hideB (show Out0 W0 w.heap.size by rw [hW0]; exact Out0.new w)
 have HCO := hideB (codes_spec l a cap W0.heap.size W0 ((hl.below B0.out).mono B0.out.size) (Nat.le_refl _) hr)
 have HL := hideB hl
 have HR := hideB hr
 have hn := (within_yes (right_yes hr).1).1
 clear hl hr
 obtain ⟨n, hln⟩ : ∃ n, n = l.length := ⟨_, rfl⟩
 have HLN := hideB hln
 rw [← hln] at hn HCO ⊢
 clear hln
 go_enter Tryz.func100, Tryz.ntmps100
 go_wp2_with fail
 rw [← hW0]
 have HW0 := hideB hW0
 clear hW0
 refine HCO.out.mono ?_
 rintro e w1 ⟨rfl, hx1, hb1⟩
 have X1 := hideB hx1
 have B1 := hideB (B0.out.trans (hb1.mono (by omega)))
 have O1 := hideB (O0.out.below hb1 (by omega))
 have z1 : W0.heap.size < w1.heap.size := hx1.lt
 clear hx1 hb1
 obtain ⟨b, hb⟩ : ∃ b, b = W0.heap.size := ⟨_, rfl⟩
 rw [← hb] at z0 z1 X1 ⊢
 have zb : w.heap.size < b := by omega
 clear hb HW0 O0 B0 z0 HCO
 go_wp2_with fail
 go_loopw [2] (fun mv wr => ∃ (k p : Nat) (xs : List Int) (v : Value), mv = .int .i64 ((m : Int) - k) ∧ k ≤ m ∧ st l t k = .inr (xs, p) ∧ OutV wr w1.heap.size v p ∧ OwnI wr (w1.heap.size + 1) v xs ∧ IsS wr b 9 (codesV l) ∧ Out0 wr w.heap.size ∧ Below w.heap.size w wr ∧ w1.heap.size < wr.heap.size) (fun mv _ => (intOf mv).toNat)
 case atStart => exact ⟨0, 0, [], .slice none 0 0, by go_num, Nat.zero_le _, rfl, heap_alloc_last w1 _, OwnI.nil _ _, X1.out.of_heapS (Below.heap_alloc w1 _ b z1), O1.out.below ((Below.refl w1.heap.size w1).alloc (Nat.le_refl _) _) (by omega), B1.out.alloc B1.out.size _, by simp⟩
 case round =>
  obtain ⟨k, p, xs, v, rfl, hk, hst, hov, hown, hx, ho, hbel, hz⟩ := hrel
  have HST := hideB hst
  have V3 := hideB hov
  have N3 := hideB hown
  have X3 := hideB hx
  have O3 := hideB ho
  have B3 := hideB hbel
  obtain ⟨hps, hxl⟩ := st_facts k p xs hst
  have HXL := hideB hxl
  obtain ⟨vx, vc, rfl, hvc, _⟩ := hown.ints
  clear hst hov hown hx ho hbel hxl
  have c0 := V3.out.c0
  have c1 := V3.out.c1
  have c2 := V3.out.c2
  have f0 := V3.out.fr 0
  have f1 := V3.out.fr 1
  have d0 := O3.out.c0
  have d1 := O3.out.c1
  have d2 := O3.out.c2
  have e0 := O3.out.fr 0
  have e1 := O3.out.fr 1
  have e2 := O3.out.fr 2
  obtain ⟨xl, hxl2⟩ : ∃ xl, xl = xs.length := ⟨_, rfl⟩
  have HX2 := hideB hxl2
  rw [← hxl2] at c0 V3 N3 hvc
  clear hxl2
  by_cases hlt : k < m
  ·have hpos : (0 : Int) < (m : Int) - k := by omega
   have HNX := hideB (next_spec l t p (some ⟨b, 0, none⟩) n (b + 1) wr (X3.out.strs (Nat.lt_succ_self b)) HR.out hps h8)
   rw [← HLN.out] at HNX
   cases hs : sym l (rst t p) with
   | none =>
    have HB := hideB (st_bad HST.out hs)
    have HE : Hid (outS (st l t m) = ([], 0, why l (rst t p))) := by
     have h1 := st_stay HB.out (m - (k + 1))
     rw [show k + 1 + (m - (k + 1)) = m by omega] at h1
     unfold Hid
     rw [h1]
     rfl
    cases hw : wth l (rst t p) with
    | true =>
     rw [nxt_short hs hw] at HNX
     have HE2 : Hid (outS (st l t m) = ([], 0, 4)) := by
      unfold Hid
      rw [HE.out]
      unfold why
      rw [if_pos hw]
     clear hs hw
     go_wp2_with fail
     refine HNX.out.mono ?_
     rintro e w' ⟨rfl, hw'⟩
     subst w'
     go_wp2_with fail
     refine bodyPost_ret (v := .agg #[.slice none 0 0, .int .i64 0, .int .i64 4]) (by simp [results, Tryz.results100, go_sem, d0, d1, d2]) rfl ⟨.slice none 0 0, ?_, ?_, ?_⟩
     ·rw [HE2.out]
     ·rw [HE2.out]
      exact .inl ⟨rfl, rfl⟩
     ·exact ((B3.out.setCell (Nat.le_refl _) _).setCell (Nat.le_refl _) _).setCell (Nat.le_refl _) _
    | false =>
     rw [nxt_none hs hw] at HNX
     have HE2 : Hid (outS (st l t m) = ([], 0, 3)) := by
      unfold Hid
      rw [HE.out]
      unfold why
      rw [if_neg (by rw [hw]; decide)]
     clear hs hw
     go_wp2_with fail
     refine HNX.out.mono ?_
     rintro e w' ⟨rfl, hw'⟩
     subst w'
     go_wp2_with fail
     refine bodyPost_ret (v := .agg #[.slice none 0 0, .int .i64 0, .int .i64 3]) (by simp [results, Tryz.results100, go_sem, d0, d1, d2]) rfl ⟨.slice none 0 0, ?_, ?_, ?_⟩
     ·rw [HE2.out]
     ·rw [HE2.out]
      exact .inl ⟨rfl, rfl⟩
     ·exact ((B3.out.setCell (Nat.le_refl _) _).setCell (Nat.le_refl _) _).setCell (Nat.le_refl _) _
   | some i =>
    rw [nxt_some hs] at HNX
    have HSM := hideB (st_more HST.out hs)
    have hmt := sym_mt hs
    have hil : i < l.length := hmt.1
    have hin : i < n := by rw [HLN.out]; exact hil
    have hb1 : ((i : Int) == -1) = false := beq_eq_false_iff_ne.2 (by omega)
    have hb2 : ((i : Int) == -2) = false := beq_eq_false_iff_ne.2 (by omega)
    have hwl : wd l i ≤ 12 := by
     have := (within_yes (right_yes HR.out).1).2 _ (List.getElem_mem hil)
     unfold wd
     rw [getD_lt hil]
     omega
    have HLI : Hid (l[i] = ((wd l i : Nat) : Int)) := by
     unfold Hid
     rw [← getD_lt hil]
     exact wd_int hmt.2.1
    clear hs hmt
    have hown := N3.out
    go_wp2_with fail
    refine HNX.out.mono ?_
    rintro e w' ⟨rfl, hw'⟩
    subst w'
    go_wp2_with (at_builtin; refine wpList_append_own _ rfl (.tmp 30) (.tmp 32) 59 rfl (w1.heap.size + 1) 2 i0 (.int .i64 0) 1 8 Tryz.underlying59 hi0 hz0 hz1 hz2 rfl (by decide) _ _ _ rfl (ownI_alloc hown _) ⟨wr.heap.size, 0, none⟩ 1 1 [.int .i64 (i : Int)] rfl rfl (one_newI _ _ _) (one_cellI _) (by unfold maxLen; have h1 := HXL.out; have h2 := HX2.out; omega) (by have h1 := HXL.out; have h2 := HX2.out; omega) (by simp; omega) ?_)
    intro v' w5 hown' hgrow _
    have N5 := hideB (OwnI.snoc hown')
    have b5 : Below (w1.heap.size + 1) wr w5 := In.app_one (Below.refl _ _) (by omega) (Nat.le_refl _) hown hgrow
    have V5 := hideB (V3.out.of_heap (b5.block w1.heap.size (Nat.lt_succ_self _)))
    have X5 := hideB (X3.out.of_heapS (b5.block b (by omega)))
    have O5 := hideB (O3.out.below b5 (by omega))
    have B5 := hideB (B3.out.trans (b5.mono (by omega)))
    have z5 := b5.size
    obtain ⟨y, yc, rfl, hyc, _⟩ := N5.out.ints
    obtain ⟨yl, hyl⟩ : ∃ yl, yl = (xs ++ [(i : Int)]).length := ⟨_, rfl⟩
    have HYL := hideB hyl
    rw [← hyl] at N5 hyc ⊢
    clear hown' hgrow hown b5 hyl
    obtain ⟨W6, hW6⟩ : ∃ W6, W6 = w5.setCell ⟨w1.heap.size, 0, none⟩ (.slice y yl yc) := ⟨_, rfl⟩
    have V6 := hideB (show OutV W6 w1.heap.size (.slice y yl yc) p by rw [hW6]; exact V5.out.set0 _)
    have N6 := hideB (show OwnI W6 (w1.heap.size + 1) (.slice y yl yc) (xs ++ [(i : Int)]) by rw [hW6]; exact ownI_set N5.out _ _ (Nat.lt_succ_self _))
    have X6 := hideB (show IsS W6 b 9 (codesV l) by rw [hW6]; exact X5.out.set_other _ _ (by simp; omega))
    have O6 := hideB (show Out0 W6 w.heap.size by rw [hW6]; exact O5.out.set _ _ (by simp; omega))
    have B6 := hideB (show Below w.heap.size w W6 by rw [hW6]; exact B5.out.setCell (p := ⟨w1.heap.size, 0, none⟩) (by simp; omega) _)
    have z6 : w1.heap.size < W6.heap.size := by rw [hW6]; simp [World.setCell]; omega
    have HW6 := hideB hW6
    have g0 := V5.out.c0
    have g1 := V5.out.c1
    have h0 := V5.out.fr 0
    clear hW6 c0 c1 c2 f0 f1 d0 d1 d2 e0 e1 e2
    go_wp2_with fail
    rw [← HW6.out]
    clear g0 g1 h0
    obtain ⟨bl, offl, rfl, _, hcl⟩ := (HL.out.below B6.out).some (by omega)
    have cl := hcl i hil
    rw [HLI.out] at cl
    have k1 := V6.out.c1
    have j1 := V6.out.fr 1
    have V7 : Hid (OutV (W6.setCell ⟨w1.heap.size, 1, none⟩ (.int .i64 ((p : Int) + ((wd l i : Nat) : Int)))) w1.heap.size (.slice y yl yc) ((p + wd l i : Nat) : Int)) := by
     have := V6.out.set1 ((p : Int) + ((wd l i : Nat) : Int))
     unfold Hid
     rw [Int.natCast_add]
     exact this
    generalize wd l i = wv at cl HSM V7 hwl
    clear hcl HLI
    go_region
    all_goals (try go_wp2_with fail)
    all_goals go_roundw
    case rel => exact ⟨k + 1, p + wv, xs ++ [(i : Int)], .slice y yl yc, by go_num, by omega, HSM.out, V7.out, ownI_set N6.out _ _ (Nat.lt_succ_self _), X6.out.set_other _ _ (by simp; omega), O6.out.set _ _ (by simp; omega), Below.drew (B6.out.setCell (p := ⟨w1.heap.size, 1, none⟩) (by simp; omega) _), by simpa [World.setCell] using z6⟩
    case measure => simp [intOf]; omega
  ·obtain rfl : k = m := by omega
   have HE : Hid (outS (st l t k) = (xs, (p : Int), 0)) := by
    unfold Hid
    rw [HST.out]
    rfl
   have hpos : ¬ (0 : Int) < (k : Int) - k := by omega
   go_wp2_with fail
   refine bodyPost_ret (v := .agg #[.slice vx xl vc, .int .i64 p, .int .i64 0]) (by simp [results, Tryz.results100, go_sem, d0, d1, d2]) rfl ⟨.slice vx xl vc, ?_, ?_, ?_⟩
   ·rw [HE.out]
   ·rw [HE.out]
    exact in_mono (OwnI.inn (ownI_set (ownI_set (ownI_set N3.out ⟨w.heap.size, 0, none⟩ _ (by simp; omega)) ⟨w.heap.size, 1, none⟩ _ (by simp; omega)) ⟨w.heap.size, 2, none⟩ _ (by simp; omega))) (by omega) (Nat.le_refl _)
   ·exact ((B3.out.setCell (Nat.le_refl _) _).setCell (Nat.le_refl _) _).setCell (Nat.le_refl _) _
end Go.Proofs.YthbpenanelbbcaaGreatDoor.Bi


/- What the specification's CodeGet answers; the laws' own helpers on such answers. -/
namespace Go.Proofs.YthbpenanelbbcaaGreatDoor.Bi
open Go.RowKit
open Go.Proofs.YthbpenanelbbcaaGreatDoor.In (Ints IsI OwnIn OwnI)
open Go.Proofs.YthbpenanelbbcaaGreatDoor.St (Aft)
set_option maxRecDepth 100000 in
set_option maxHeartbeats 2000000 in
theorem get_spec (l : List Int) (t : ByteArray) (m : Int) (a : Option Addr) (cap : Nat) (w : World) (hl : Ints w w.heap.size a l) (hn : l.length ≤ 1048576) (ht : t.size ≤ 1048576) :
  Calls Tryz.prog 62 #[.slice a l.length cap, .string t, .int .i64 m] w fun e w' => ∃ v, e = .returned (.agg #[v, .int .i64 (getR l t m).2.1, .int .i64 (getR l t m).2.2]) ∧ OwnIn w' w.heap.size w'.heap.size v (getR l t m).1 ∧ Below w.heap.size w w' := by
 by_cases h4 : 400 < l.length
 ·rw [getR_size (Or.inl h4)]
  clear hl
  generalize l.length = n at hn h4 ⊢
  go_enter Tryz.func62, Tryz.ntmps62
  go_wp2_with fail
  refine bodyPost_ret (v := .agg #[.slice none 0 0, .int .i64 0, .int .i64 2]) (by simp [results, Tryz.results62, go_sem]) rfl ⟨.slice none 0 0, rfl, nil_in _ _ _, (Below.refl _ _).alloc (Nat.le_refl _) _⟩
 ·have hd4 : decide (400 < (l.length : Int)) = false := decide_eq_false (by omega)
  by_cases h8 : 8000 < t.size
  ·rw [getR_size (Or.inr h8)]
   clear hl
   generalize l.length = n at hn h4 hd4 ⊢
   go_enter Tryz.func62, Tryz.ntmps62
   go_wp2_with fail
   refine bodyPost_ret (v := .agg #[.slice none 0 0, .int .i64 0, .int .i64 2]) (by simp [results, Tryz.results62, go_sem]) rfl ⟨.slice none 0 0, rfl, nil_in _ _ _, (Below.refl _ _).alloc (Nat.le_refl _) _⟩
  ·have hd8 : decide (8000 < (t.size : Int)) = false := decide_eq_false (by omega)
   have hno : ¬ (400 < l.length ∨ 8000 < t.size) := by omega
   have B0 := hideB ((Below.refl w.heap.size w).alloc (Nat.le_refl _) (.cells #[.slice none 0 0, .int .i64 0, .int .i64 0] 83))
   have hl0 := (hl.below B0.out).mono (by simp : w.heap.size ≤ (w.alloc (.cells #[.slice none 0 0, .int .i64 0, .int .i64 0] 83)).heap.size)
   have HWH := hideB (l04Whole_any l a cap _ _ hl0 (by omega))
   have HGO := hideB (good_spec t (w.alloc (.cells #[.slice none 0 0, .int .i64 0, .int .i64 0] 83)) ht)
   cases hw : whole l with
   | false =>
    rw [getR_form hno (Or.inl hw)]
    rw [hw] at HWH
    clear hl hno hl0
    generalize l.length = n at hn h4 hd4 HWH ⊢
    go_enter Tryz.func62, Tryz.ntmps62
    go_wp2_with fail
    refine HWH.out.mono ?_
    rintro e w' ⟨rfl, hw'⟩
    subst w'
    go_wp2_with fail
    refine bodyPost_ret (v := .agg #[.slice none 0 0, .int .i64 0, .int .i64 1]) (by simp [results, Tryz.results62, go_sem]) rfl ⟨.slice none 0 0, rfl, nil_in _ _ _, (Below.refl _ _).alloc (Nat.le_refl _) _⟩
   | true =>
    cases hg : good t with
    | false =>
     rw [getR_form hno (Or.inr (Or.inl hg))]
     rw [hw] at HWH
     rw [hg] at HGO
     clear hl hno hw hl0
     generalize l.length = n at hn h4 hd4 HWH ⊢
     go_enter Tryz.func62, Tryz.ntmps62
     go_wp2_with fail
     refine HWH.out.mono ?_
     rintro e w' ⟨rfl, hw'⟩
     subst w'
     go_wp2_with fail
     refine HGO.out.mono ?_
     rintro e w' ⟨rfl, hw'⟩
     subst w'
     go_wp2_with fail
     refine bodyPost_ret (v := .agg #[.slice none 0 0, .int .i64 0, .int .i64 1]) (by simp [results, Tryz.results62, go_sem]) rfl ⟨.slice none 0 0, rfl, nil_in _ _ _, (Below.refl _ _).alloc (Nat.le_refl _) _⟩
    | true =>
     by_cases hm : m < 0 ∨ 400 < m
     ·rw [getR_form hno (Or.inr (Or.inr hm))]
      have HIS := hideB (is_no m 0 400 (w.alloc (.cells #[.slice none 0 0, .int .i64 0, .int .i64 0] 83)) hm)
      rw [hw] at HWH
      rw [hg] at HGO
      clear hl hno hw hg hm hl0
      generalize l.length = n at hn h4 hd4 HWH ⊢
      go_enter Tryz.func62, Tryz.ntmps62
      go_wp2_with fail
      refine HWH.out.mono ?_
      rintro e w' ⟨rfl, hw'⟩
      subst w'
      go_wp2_with fail
      refine HGO.out.mono ?_
      rintro e w' ⟨rfl, hw'⟩
      subst w'
      go_wp2_with fail
      refine HIS.out.mono ?_
      rintro e w' ⟨rfl, hw'⟩
      subst w'
      go_wp2_with fail
      refine bodyPost_ret (v := .agg #[.slice none 0 0, .int .i64 0, .int .i64 1]) (by simp [results, Tryz.results62, go_sem]) rfl ⟨.slice none 0 0, rfl, nil_in _ _ _, (Below.refl _ _).alloc (Nat.le_refl _) _⟩
     ·obtain ⟨k, rfl⟩ : ∃ k : Nat, m = k := ⟨m.toNat, by omega⟩
      have HIS := hideB (is_yes k 0 400 (w.alloc (.cells #[.slice none 0 0, .int .i64 0, .int .i64 0] 83)) (by omega) (by omega))
      have HGE := hideB (l04Get_any l t k a cap _ hl0 (by omega) (whole_right hw) (by omega))
      rw [getR_in hno hw hg (by omega)]
      rw [hw] at HWH
      rw [hg] at HGO
      have hz0 : (w.alloc (.cells #[.slice none 0 0, .int .i64 0, .int .i64 0] 83)).heap.size = w.heap.size + 1 := by simp
      have O0 := hideB (Out0.new w)
      clear hl hno hw hg hm hl0
      obtain ⟨q, hq⟩ : ∃ q, q = outS (st l t k) := ⟨_, rfl⟩
      rw [← hq] at HGE ⊢
      clear hq
      generalize l.length = n at hn h4 hd4 HWH HGE ⊢
      go_enter Tryz.func62, Tryz.ntmps62
      go_wp2_with fail
      refine HWH.out.mono ?_
      rintro e w' ⟨rfl, hw'⟩
      subst w'
      go_wp2_with fail
      refine HGO.out.mono ?_
      rintro e w' ⟨rfl, hw'⟩
      subst w'
      go_wp2_with fail
      refine HIS.out.mono ?_
      rintro e w' ⟨rfl, hw'⟩
      subst w'
      go_wp2_with fail
      refine HGE.out.mono ?_
      rintro e w2 ⟨v, rfl, hv, hb2⟩
      rw [hz0] at hv hb2
      have V2 := hideB hv
      have B2 := hideB (B0.out.trans (hb2.mono (Nat.le_succ _)))
      have O2 := hideB (O0.out.below hb2 (Nat.lt_succ_self _))
      obtain ⟨x, c, rfl, _⟩ := hv.ints
      obtain ⟨ql, hql⟩ : ∃ ql, ql = q.1.length := ⟨_, rfl⟩
      rw [← hql] at V2 ⊢
      clear hv hb2 hz0 hql
      have c0 := O2.out.c0
      have c1 := O2.out.c1
      have c2 := O2.out.c2
      have f0 := O2.out.fr 0
      have f1 := O2.out.fr 1
      have f2 := O2.out.fr 2
      go_wp2_with fail
      refine bodyPost_ret (v := .agg #[.slice x ql c, .int .i64 q.2.1, .int .i64 q.2.2]) (by simp [results, Tryz.results62, go_sem, c0, c1, c2]) rfl ⟨.slice x ql c, rfl, ?_, ?_⟩
      ·have h1 := in_mono (hi' := w2.heap.size) V2.out (Nat.le_succ w.heap.size) (Nat.le_refl _)
       have h2 : OwnIn (((w2.setCell ⟨w.heap.size, 0, none⟩ (.slice x ql c)).setCell ⟨w.heap.size, 1, none⟩ (.int .i64 q.2.1)).setCell ⟨w.heap.size, 2, none⟩ (.int .i64 q.2.2)) (w.heap.size + 1) w2.heap.size (.slice x ql c) q.1 := by
        rcases V2.out with h | ⟨g, cc, hv, hg, hh, ho⟩
        ·exact .inl h
        ·exact .inr ⟨g, cc, hv, hg, hh, ((ho.of_heap (heap_setCell_other _ ⟨w.heap.size, 0, none⟩ g _ (by simp; omega))).of_heap (heap_setCell_other _ ⟨w.heap.size, 1, none⟩ g _ (by simp; omega))).of_heap (heap_setCell_other _ ⟨w.heap.size, 2, none⟩ g _ (by simp; omega))⟩
       exact in_mono h2 (Nat.le_succ _) (by simp [World.setCell])
      ·exact ((B2.out.setCell (Nat.le_refl _) _).setCell (Nat.le_refl _) _).setCell (Nat.le_refl _) _
end Go.Proofs.YthbpenanelbbcaaGreatDoor.Bi


/- What the specification's l05Back answers. -/
namespace Go.Proofs.YthbpenanelbbcaaGreatDoor.So
open Go.RowKit Go.Sort Go.Proofs
open Go.Proofs.YthbpenanelbbcaaGreatDoor.Sh (bt bt_get bt_lt strF IsB)
open Go.Proofs.YthbpenanelbbcaaGreatDoor.In (OwnI Ints one_newI one_cellI)
open Go.Proofs.YthbpenanelbbcaaGreatDoor.In.Tryz (infoI2)
open Go.Proofs.YthbpenanelbbcaaGreatDoor.Nu (bv)
open Go.Proofs.YthbpenanelbbcaaGreatDoor.Ap (Own0 wpList_append_own0)
open Go.Proofs.YthbpenanelbbcaaGreatDoor.Fr (Own0B own0_string one_newB one_cellB own0B_snoc)
theorem wrap_byte (y : UInt8) : wrap64 ((y.toNat : Nat) : Int) = ((y.toNat : Nat) : Int) := by
 have h := UInt8.toNat_lt y
 generalize y.toNat = n at h
 simp only [wrap64]
 omega
set_option maxRecDepth 100000 in
set_option maxHeartbeats 2000000 in
theorem l05Back_spec (t : ByteArray) (a : Nat) (w : World) (ht : t.size ≤ 48) (ha : a < t.size ∨ t.size = 0) :
  Calls Tryz.prog 101 #[.string t, .int .i64 a] w fun e w' => e = .returned (.string (backT t a)) ∧ Below w.heap.size w w' := by
 obtain ⟨i0, hi0, hz0, hz1, hz2⟩ := info_parts Nu.Tryz.infoJ5
 obtain ⟨i1, hi1, hy0, hy1, hy2⟩ := info_parts infoI2
 have HW := hideO (Ze.OwnI.empty w)
 go_enter Tryz.func101, Tryz.ntmps101
 go_wp2_with fail
 go_loopw [6, 5] (fun i u wr => ∃ b : Nat, i = .int .i64 b ∧ b ≤ 256 ∧ OwnI wr w.heap.size u (ints (plK t b)) ∧ Below w.heap.size w wr) (fun i _ _ => 256 - (intOf i).toNat)
 case atStart => exact ⟨0, rfl, by omega, HW.out, (Below.refl _ _).alloc (Nat.le_refl _) _⟩
 case round =>
  obtain ⟨b, rfl, hb, hown, hbel⟩ := hrel
  have O1 := hideO hown
  have GB := hideO hbel
  have hsz := hbel.size
  clear hbel
  by_cases hb2 : b < 256
  ·have hbz : (b : Int) < 256 := by omega
   clear hown
   go_wp2_with fail
   go_loopw [7, 5] (fun i u wr => ∃ k : Nat, i = .int .i64 k ∧ k ≤ t.size ∧ OwnI wr w.heap.size u (ints (plK t b ++ plB t b k)) ∧ Below w.heap.size w wr) (fun i _ _ => t.size - (intOf i).toNat)
   case atStart => exact ⟨0, rfl, Nat.zero_le _, by rw [show plK t b ++ plB t b 0 = plK t b by simp [plB]]; exact O1.out, GB.out⟩
   case round =>
    obtain ⟨k, rfl, hk, hown, hbel⟩ := hrel
    have O2 := hideO hown
    have GB2 := hideO hbel
    have hsz2 := hbel.size
    obtain ⟨a', cap', rfl, _, _⟩ := hown.ints
    have HLL : Hid ((ints (plK t b ++ plB t b k)).length ≤ 256 * 48 + 48) := by
     unfold Hid
     rw [ints_len, List.length_append]
     have h1 := plK_len t b
     have h2 := plB_len t b k
     have h3 : b * t.size ≤ 256 * 48 := Nat.mul_le_mul hb ht
     omega
    have HYB := hideO (plB_yes t b k)
    have HNB := hideO (plB_no t b k)
    clear hown hbel
    by_cases hlt : k < t.size
    ·have hkz : (k : Int) < (t.size : Int) := by omega
     obtain ⟨y, hy, hyt⟩ : ∃ y : UInt8, t[k] = y ∧ y.toNat = bt t k := ⟨_, rfl, bt_get _ _ hlt⟩
     by_cases hq : bt t k = b
     ·have hyb : (wrap64 ((y.toNat : Nat) : Int) == (b : Int)) = true := by rw [wrap_byte]; exact beq_iff_eq.2 (by omega)
      have HN : Hid (ints (plK t b ++ plB t b (k + 1)) = ints (plK t b ++ plB t b k) ++ [(k : Int)]) := by
       unfold Hid
       rw [HYB.out hq, ← List.append_assoc, ints_snoc]
      obtain ⟨L, hL⟩ : ∃ L, L = ints (plK t b ++ plB t b k) := ⟨_, rfl⟩
      rw [← hL] at O2 HLL HN ⊢
      clear hyt hq hL HYB HNB
      go_wp2_with (at_builtin; refine wpList_append_own _ rfl (.tmp 27) (.tmp 29) 59 rfl w.heap.size 2 i1 (.int .i64 0) 1 8 Tryz.underlying59 hi1 hy0 hy1 hy2 rfl (by decide) _ L.length (L.map (Value.int .i64)) rfl ?own ⟨wr.heap.size, 0, none⟩ 1 1 [.int .i64 (k : Nat)] rfl rfl (one_newI _ _ _) (one_cellI _) (by unfold maxLen; have := HLL.out; omega) (by have := HLL.out; omega) (by simp; omega) ?_)
      case own => exact Ze.OwnI.alloc O2.out _
      intro v' w5 hown' hgrow _
      have N5 : Hid (OwnI w5 w.heap.size v' (L ++ [(k : Int)])) := In.OwnI.snoc hown'
      have b5 := hideO (In.app_one GB2.out hsz2 (Nat.le_refl _) O2.out hgrow)
      clear hown' hgrow
      go_wp2_with fail
      go_roundw
      case rel => exact ⟨k + 1, by go_num, by omega, by rw [HN.out]; exact N5.out, b5.out⟩
      case measure => simp [intOf]; omega
     ·have hyb : (wrap64 ((y.toNat : Nat) : Int) == (b : Int)) = false := by rw [wrap_byte]; exact beq_eq_false_iff_ne.2 (by omega)
      have HN := hideO (HNB.out hq)
      clear hyt hq HYB HNB
      go_wp2_with fail
      go_roundw
      case rel => exact ⟨k + 1, by go_num, by omega, by rw [HN.out]; exact O2.out, GB2.out⟩
      case measure => simp [intOf]; omega
    ·obtain rfl : k = t.size := by omega
     have HN := hideO (plK_succ t b)
     go_wp2_with fail
     go_roundw
     case rel => exact ⟨b + 1, by go_num, by omega, by rw [HN.out]; exact O2.out, GB2.out⟩
     case measure => simp [intOf]; omega
  ·have hb3 : ¬ (b : Int) < 256 := by omega
   have ho : OwnI wr w.heap.size u5 (ints (pl t)) := by
    have h := hown
    rw [show b = 256 by omega] at h
    exact h
   obtain ⟨g, cap, rfl, hcap, hI⟩ := ho.ints
   have HI := hideO hI
   rw [ints_len, pl_len] at hcap ⊢
   obtain ⟨w1, hw1⟩ : ∃ w1, w1 = wr := ⟨_, rfl⟩
   rw [← hw1] at HI GB hsz ⊢
   clear hown ho hI O1 hw1 hb2 hb
   go_wp2_with fail
   go_loopw [9, 8, 1] (fun i u m wr => ∃ k : Nat, i = .int .i64 k ∧ k ≤ t.size ∧ m = .int .i64 (itR t a k : Nat) ∧ Own0B wr (w1.heap.size + 1) u (blK t a k) ∧ w1.heap.size < wr.heap.size ∧ Below w1.heap.size w1 wr) (fun i _ _ _ => t.size - (intOf i).toNat)
   case atStart => exact ⟨0, rfl, Nat.zero_le _, rfl, .inl ⟨_, rfl, rfl, rfl⟩, by simp, (Below.refl _ _).alloc (Nat.le_refl _) _⟩
   case round =>
    obtain ⟨k, rfl, hk, rfl, hown, hgs, hbel⟩ := hrel
    have O1 := hideO hown
    have GB3 := hideO hbel
    clear hbel
    by_cases hlt : k < t.size
    ·have hd0 : decide ((k : Int) < (t.size : Int)) = true := decide_eq_true (by omega)
     have hkz : (k : Int) < (t.size : Int) := by omega
     have hat : a < t.size := by omega
     have hr1 := itR_lt t a k hat
     have hr2 := itR_lt t a (k + 1) hat
     have e0 : itR t a (k + 1) = plF t (itR t a k) := rfl
     have hpl : (ints (pl t)).length = t.size := by rw [ints_len, pl_len]
     obtain ⟨gb, off, rfl, hb, hc⟩ := (HI.out.below GB3.out).some (by omega)
     have c1 := hc (itR t a k) (by omega)
     have ey : (ints (pl t))[itR t a k]'(by omega) = ((itR t a (k + 1) : Nat) : Int) := by
      rw [e0, ← plF_get t _ (by rw [pl_len]; exact hr1)]
      simp [ints]
     rw [ey] at c1
     have HN := hideO (blK_snoc t a k)
     obtain ⟨p, hp⟩ : ∃ p, p = itR t a k := ⟨_, rfl⟩
     obtain ⟨q, hq⟩ : ∃ q, q = itR t a (k + 1) := ⟨_, rfl⟩
     have HQ := hideO hq
     rw [← hp, ← hq] at c1
     rw [← hq] at hr2 HN
     rw [← hp] at hr1 ⊢
     have hpz : (p : Int) < (t.size : Int) := by omega
     have hqz : (q : Int) < (t.size : Int) := by omega
     obtain ⟨y, hy, hyt⟩ : ∃ y : UInt8, t[q] = y ∧ y.toNat = bt t q := ⟨_, rfl, bt_get _ _ hr2⟩
     rw [← hyt] at HN
     have HBL := hideO (blK_len t a k)
     have HY := hideO (UInt8.toNat_lt y)
     obtain ⟨bs, hbs⟩ : ∃ bs, bs = blK t a k := ⟨_, rfl⟩
     rw [← hbs] at O1 HN HBL
     clear hc ey hown e0 hp hq hyt hbs hpl ha
     go_wp2_with (at_builtin; refine wpList_append_own0 _ rfl (.tmp 42) (.tmp 46) 22 rfl (w1.heap.size + 1) 5 i0 (.int .u8 0) 1 1 Tryz.underlying22 hi0 hz0 hz1 hz2 rfl (by decide) _ bs.length (bs.map bv) rfl (Own0.alloc O1.out _) ⟨wr.heap.size, 0, none⟩ 1 1 [.int .u8 (y.toNat : Nat)] rfl rfl (one_newB _ _ _) (one_cellB _) (by decide) (by unfold maxLen; have := HBL.out; omega) (by have := HBL.out; omega) (by simp; omega) ?_)
     intro v' w5 hown' hb5
     have N5 := hideO (own0B_snoc (by omega) (by have := HY.out; omega) hown')
     have ba : Below (w1.heap.size + 1) wr w5 := ((Below.refl (w1.heap.size + 1) wr).alloc (by omega) _).trans (hb5 _ (Nat.le_refl _))
     have B5 := hideO (GB3.out.trans (ba.mono (by omega)))
     have z5 := ba.size
     clear hown' hb5 ba c1
     go_wp2_with fail
     go_roundw
     case rel => exact ⟨k + 1, by go_num, by omega, by rw [← HQ.out], by rw [HN.out]; exact N5.out, by omega, B5.out⟩
     case measure => simp [intOf]; omega
    ·have hd0 : decide ((k : Int) < (t.size : Int)) = false := decide_eq_false (by omega)
     obtain rfl : k = t.size := by omega
     have hcv := own0_string (P := Tryz.prog) (src := 22) (dst := 9) _ hown Tryz.underlying22 Tryz.underlying5 Tryz.underlying9
     rw [blK_all] at hcv
     have BZ := hideO (GB.out.trans (GB3.out.mono hsz))
     generalize itR t a t.size = m
     clear hown ha
     go_wp2_with fail
     go_ret
     exact ⟨rfl, BZ.out⟩
end Go.Proofs.YthbpenanelbbcaaGreatDoor.So

