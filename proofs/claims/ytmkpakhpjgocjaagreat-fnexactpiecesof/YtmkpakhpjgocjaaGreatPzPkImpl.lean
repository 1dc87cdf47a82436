/- The walks of shortForm and impl.BlockPack. -/
import Derived.Test.YtmkpakhpjgocjaaGreatPz13
import Derived.Test.YtmkpakhpjgocjaaGreatPz19
import Derived.Test.YtmkpakhpjgocjaaGreatPz17
import Derived.Test.YtmkpakhpjgocjaaGreatPz21
import Derived.Deep.RegionHeld3
import Derived.Deep.CutRange
namespace Go.Proofs.YtmkpakhpjgocjaaGreat.Pk
open Go.RowKit
open Go.Proofs.YtmkpakhpjgocjaaGreat.St (Strs IsS)
open Go.Proofs.YtmkpakhpjgocjaaGreat.In (Ints IsI OwnI)
open Go.Proofs.YtmkpakhpjgocjaaGreat.Hf (up up_length)
open Go.Proofs.YtmkpakhpjgocjaaGreat.Bi (above putR packR)
open Go.Proofs.YtmkpakhpjgocjaaGreat.So (bwtT bwtA bwtC sOut bwt_impl)
open Go.Proofs.YtmkpakhpjgocjaaGreat.Fr (frontR frontOf_impl frontR_len)
open Go.Proofs.YtmkpakhpjgocjaaGreat.Ze (zerosR zerosOf_impl)
open Go.Proofs.YtmkpakhpjgocjaaGreat.Se (sealV seal_impl)

theorem ints_keep {w w' : World} {a : Option Addr} {l : List Int} (h : Ints w w.heap.size a l) (hb : Below w.heap.size w w') : Ints w' w'.heap.size a l := (h.below hb).mono hb.size
theorem lt_blk {w : World} {g : Nat} {x : Obj} (h : w.heap[g]? = some x) : g < w.heap.size := (Array.getElem?_eq_some_iff.1 h).1
theorem blk_keep {w w' : World} {g : Nat} {x : Obj} (h : w.heap[g]? = some x) (hb : Below w.heap.size w w') : w'.heap[g]? = some x := (hb.block g (lt_blk h)).trans h
theorem low_keep {w0 w w' : World} (h : Below w0.heap.size w0 w) (hb : Below w.heap.size w w') : Below w0.heap.size w0 w' := h.trans (hb.mono h.size)
/-- a block of four numbers as a slice -/
theorem ints_four {W : World} {g : Nat} {a b c d : Int} {t : TypeId} (h : W.heap[g]? = some (.cells #[.int .i64 a, .int .i64 b, .int .i64 c, .int .i64 d] t (0, 0))) : Ints W W.heap.size (some ⟨g, 0, none⟩) [a, b, c, d] :=
  .inr ⟨g, 0, rfl, lt_blk h, fun j hj => by
    rw [Nat.zero_add, cell_of_row W g j _ _ _ h]
    match j, hj with
    | 0, _ => rfl
    | 1, _ => rfl
    | 2, _ => rfl
    | 3, _ => rfl⟩
theorem strs_four {W : World} {g : Nat} {a b c d : ByteArray} {t : TypeId} (h : W.heap[g]? = some (.cells #[.string a, .string b, .string c, .string d] t (0, 0))) : Strs W W.heap.size (some ⟨g, 0, none⟩) [a, b, c, d] :=
  .inr ⟨g, 0, rfl, lt_blk h, fun j hj => by
    rw [Nat.zero_add, cell_of_row W g j _ _ _ h]
    match j, hj with
    | 0, _ => rfl
    | 1, _ => rfl
    | 2, _ => rfl
    | 3, _ => rfl⟩
theorem strs_two {W : World} {g : Nat} {a b : ByteArray} {t : TypeId} (h : W.heap[g]? = some (.cells #[.string a, .string b] t (0, 0))) : Strs W W.heap.size (some ⟨g, 0, none⟩) [a, b] :=
  .inr ⟨g, 0, rfl, lt_blk h, fun j hj => by
    rw [Nat.zero_add, cell_of_row W g j _ _ _ h]
    match j, hj with
    | 0, _ => rfl
    | 1, _ => rfl⟩
theorem cat_two (b : ByteArray) : cat [⟨#[0]⟩, b] = 0 :: b.data.toList := by
  unfold cat
  simp
theorem cat_short (b : ByteArray) : cat [⟨#[1]⟩, ⟨(numsL (headS b)).toArray⟩, ⟨(numsL (rowT (lenS b) 257)).toArray⟩, bitsS b] = shortL b := by
  unfold cat shortL
  simp
theorem packR_size (t : ByteArray) (h : t.size ≤ 4800) : (packR t).size ≤ 4800 := by
  unfold packR
  split
  · decide
  · unfold Bi.packV
    rw [Sh.strF_size]
    omega
theorem bitsS_size (b : ByteArray) : (bitsS b).size ≤ 4800 := packR_size _ (bits_size b)
theorem bwtA_le (b : ByteArray) (h : b.size ≤ 48) : bwtA b ≤ 48 := by
  unfold bwtA
  rw [if_pos h]
  exact Nat.le_trans (So.atK_le _ _) h
theorem headS_mem (b : ByteArray) (h : b.size ≤ 48) : ∀ x ∈ headS b, -9223372036854775808 ≤ x ∧ x ≤ 9223372036854775807 := by
  have h1 := bwtA_le b h
  have h2 := symS_len b
  have h3 := Bi.above_le (up (lenS b))
  rw [up_length, (lenS_facts b).1] at h3
  intro x hx
  unfold headS at hx
  simp only [List.mem_cons, List.not_mem_nil, or_false] at hx
  omega
theorem shortL_le (b : ByteArray) : (shortL b).length ≤ 20000 := by
  have h1 := numsL_le (headS b)
  have h2 := numsL_le (rowT (lenS b) 257)
  have h3 := rowT_length (lenS b) 257
  have h4 := bitsS_size b
  have h5 : (bitsS b).data.toList.length = (bitsS b).size := by simp
  have h6 : (headS b).length = 4 := rfl
  unfold shortL
  rw [List.length_append, List.length_append, List.length_append]
  simp only [List.length_cons, List.length_nil]
  omega

set_option maxRecDepth 100000 in
set_option maxHeartbeats 2000000 in
theorem short_impl (b : ByteArray) (w : World) (hb : b.size ≤ 48) :
    Calls Tryz.prog 20 #[.string b] w fun e w' => e = .returned (.string (shortV b)) ∧ Below w.heap.size w w' := by
  obtain ⟨hf1, hf2, _, _⟩ := lenS_facts b
  have HSM := hideP (symS_mem b)
  have hsl := symS_len b
  have C1 : Hid (∀ W, Calls Tryz.prog 27 #[.string b] W fun e w' => e = .returned (.agg #[.string (bwtT b), .int .i64 (bwtA b : Nat), .int .i64 (bwtC b : Nat)]) ∧ Below W.heap.size W w') := fun W => bwt_impl b W (by omega)
  have C2 : Hid (∀ W, Calls Tryz.prog 29 #[.string (bwtT b)] W fun e w' => ∃ v, e = .returned v ∧ OwnI w' W.heap.size v (frontR (bwtT b).data.toList) ∧ Below W.heap.size W w') := fun W => frontOf_impl (bwtT b) W (by
    have : (bwtT b).size ≤ 48 := by
      by_cases h : b.size ≤ 48
      · unfold bwtT
        rw [if_pos h, Sh.strF_size]
        exact h
      · omega
    omega)
  have C3 : Hid (∀ W base v, OwnI W base v (frontR (bwtT b).data.toList) → Calls Tryz.prog 28 #[v] W fun e w' => ∃ v, e = .returned v ∧ OwnI w' W.heap.size v (symS b) ∧ Below W.heap.size W w') := fun W base v h => by
    obtain ⟨x, c, rfl, _, hi⟩ := h.ints
    exact zerosOf_impl _ x c W.heap.size W hi (Nat.le_refl _) (by have := frontR_len (bwtT b).data.toList; omega)
  obtain ⟨n, hn⟩ : ∃ n, n = (symS b).length := ⟨_, rfl⟩
  have HN := hideP hn
  have C4 : Hid (∀ W x c, Ints W W.heap.size x (symS b) → Calls Tryz.prog 31 #[.slice x n c] W fun e w' => e = .returned (.slice (some ⟨W.heap.size, 0, none⟩) 257 257) ∧ Ints w' w'.heap.size (some ⟨W.heap.size, 0, none⟩) (up (countsN (symS b))) ∧ Below W.heap.size W w') := fun W x c h => by
    refine (counts_impl (symS b) x c n W h hn.symm (by omega) HSM.out).mono ?_
    rintro e w' ⟨rfl, hi, hb⟩
    exact ⟨rfl, hi.ints hi.lt, hb⟩
  have C5 : Hid (∀ W x c, Ints W W.heap.size x (up (countsN (symS b))) → Calls Tryz.prog 30 #[.slice x 257 c] W fun e w' => ∃ a c', e = .returned (.slice a 257 c') ∧ Ints w' w'.heap.size a (up (lenS b)) ∧ Below W.heap.size W w') := fun W x c h => by
    have := Hf.lengths_impl x c (up (countsN (symS b))) W h (by rw [up_length, countsN_length]; decide)
    rw [up_length, countsN_length, lens_counts] at this
    refine this.mono ?_
    rintro e w' ⟨v, rfl, ho, hb⟩
    obtain ⟨a, c', rfl, _, hi⟩ := ho.ints
    rw [up_length, hf1]
    exact ⟨a, c', rfl, hi, hb⟩
  have C6 : Hid (∀ W x c, Ints W W.heap.size x (up (lenS b)) → Calls Tryz.prog 32 #[.slice x 257 c] W fun e w' => e = .returned (.int .i64 (above (up (lenS b)) : Nat)) ∧ w' = W) := fun W x c h => by
    have := Bi.count_impl (up (lenS b)) x c W.heap.size W h (by rw [up_length, hf1]; decide)
    rw [up_length, hf1] at this
    exact this
  have C7 : Hid (∀ W x c y d, Ints W W.heap.size x (up (lenS b)) → Ints W W.heap.size y (symS b) → Calls Tryz.prog 34 #[.slice x 257 c, .slice y n d] W fun e w' => e = .returned (.string (putR (up (lenS b)) (symS b))) ∧ Below W.heap.size W w') := fun W x c y d h1 h2 => by
    have := Bi.put_impl (up (lenS b)) (symS b) x y c d W h1 h2 (by rw [up_length, hf1]; decide) (by omega)
    rw [up_length, hf1, ← hn] at this
    exact this
  have C8 : Hid (∀ W, Calls Tryz.prog 33 #[.string (putR (up (lenS b)) (symS b))] W fun e w' => e = .returned (.string (bitsS b)) ∧ Below W.heap.size W w') := fun W => Bi.pack_impl _ W (by have := bits_size b; omega)
  have C9 : Hid (∀ W g t, W.heap[g]? = some (.cells #[.int .i64 (b.size : Nat), .int .i64 (bwtA b : Nat), .int .i64 n, .int .i64 (above (up (lenS b)) : Nat)] t (0, 0)) → Calls Tryz.prog 35 #[.slice (some ⟨g, 0, none⟩) 4 4] W fun e w' => e = .returned (.string ⟨(numsL (headS b)).toArray⟩) ∧ Below W.heap.size W w') := fun W g t h => by
    have h' := ints_four h
    rw [hn] at h'
    exact nums_any (headS b) (some ⟨g, 0, none⟩) 4 4 W h' rfl (by decide) (headS_mem b hb)
  have C10 : Hid (∀ W x c, Ints W W.heap.size x (up (lenS b)) → Calls Tryz.prog 36 #[.slice x 257 c] W fun e w' => e = .returned (.string ⟨(numsL (rowT (lenS b) 257)).toArray⟩) ∧ Below W.heap.size W w') := fun W x c h => table_impl (lenS b) x c 257 W h hf1 (by decide) hf2
  have C11 : Hid (∀ W g t, W.heap[g]? = some (.cells #[.string ⟨#[1]⟩, .string ⟨(numsL (headS b)).toArray⟩, .string ⟨(numsL (rowT (lenS b) 257)).toArray⟩, .string (bitsS b)] t (0, 0)) → Calls Tryz.prog 19 #[.slice (some ⟨g, 0, none⟩) 4 4] W fun e w' => e = .returned (.string (shortV b)) ∧ Below W.heap.size W w') := fun W g t h => by
    have := join_any _ (some ⟨g, 0, none⟩) 4 4 W (strs_four h) rfl (by decide) (by rw [cat_short]; have := shortL_le b; omega)
    rw [cat_short] at this
    exact this
  rw [← hn] at hsl
  have hn' := hn
  clear hn hn' hf1 hf2 HSM
  generalize bwtC b = kC at C1
  generalize shortV b = R at C11 ⊢
  generalize (⟨(numsL (headS b)).toArray⟩ : ByteArray) = T1 at C9 C11
  generalize (⟨(numsL (rowT (lenS b) 257)).toArray⟩ : ByteArray) = T2 at C10 C11
  generalize bitsS b = T3 at C8 C11
  generalize putR (up (lenS b)) (symS b) = T0 at C7 C8
  generalize above (up (lenS b)) = kV at C6 C9
  generalize bwtA b = kA at C1 C9
  generalize bwtT b = kT at C1 C2 C3
  go_enter Tryz.func20, Tryz.ntmps20
  go_wp2_with fail
  refine (C1.out _).mono ?_
  rintro e w1 ⟨rfl, hb1⟩
  have B1 := hideP hb1
  clear hb1
  go_wp2_with fail
  have X2 : Hid ((w1.alloc (.cells #[.string kT, .int .i64 (kA : Nat), .int .i64 (kC : Nat)] 43)).heap[w1.heap.size]? = some (.cells #[.string kT, .int .i64 (kA : Nat), .int .i64 (kC : Nat)] 43 (0, 0))) := heap_alloc_new w1 _
  have B2 := hideP (B1.out.alloc B1.out.size (.cells #[.string kT, .int .i64 (kA : Nat), .int .i64 (kC : Nat)] 43))
  generalize w1.alloc (.cells #[.string kT, .int .i64 (kA : Nat), .int .i64 (kC : Nat)] 43) = w2 at X2 B2 ⊢
  generalize w1.heap.size = gx at X2 ⊢
  clear B1
  refine (C2.out _).mono ?_
  rintro e w3 ⟨v3, rfl, ho3, hb3⟩
  have X3 := hideP (blk_keep X2.out hb3)
  have B3 := hideP (low_keep B2.out hb3)
  have O3 := hideP ho3
  clear ho3 hb3 X2 B2
  go_wp2_with fail
  refine (C3.out _ _ _ O3.out).mono ?_
  rintro e w4 ⟨v4, rfl, ho4, hb4⟩
  have X4 := hideP (blk_keep X3.out hb4)
  have B4 := hideP (low_keep B3.out hb4)
  obtain ⟨ay, cy, hv4, _, hi4⟩ := ho4.ints
  rw [← HN.out] at hv4
  subst hv4
  have Y4 := hideP hi4
  clear ho4 hb4 X3 B3 O3 hi4
  go_wp2_with fail
  refine (C4.out _ _ _ Y4.out).mono ?_
  rintro e w5 ⟨rfl, hi5, hb5⟩
  have X5 := hideP (blk_keep X4.out hb5)
  have B5 := hideP (low_keep B4.out hb5)
  have Y5 := hideP (ints_keep Y4.out hb5)
  have Z5 := hideP hi5
  clear hi5 hb5 X4 B4 Y4
  go_wp2_with fail
  refine (C5.out _ _ _ Z5.out).mono ?_
  rintro e w6 ⟨az, cz, rfl, hi6, hb6⟩
  have X6 := hideP (blk_keep X5.out hb6)
  have B6 := hideP (low_keep B5.out hb6)
  have Y6 := hideP (ints_keep Y5.out hb6)
  have Z6 := hideP hi6
  clear hi6 hb6 X5 B5 Y5 Z5
  have K0 : Hid (Below w6.heap.size w6 w6.drew) := (Below.refl _ _).drew
  have CX : Hid (∀ W, Below w6.heap.size w6 W → W.cell? ⟨gx, 1, none⟩ = some (.int .i64 (kA : Nat))) := fun W h => cell_of_row W gx 1 _ _ _ (blk_keep X6.out h)
  go_upto_region 4 with fail
  go_cut [6] from 17 to 25 (fun s6 wx => ∃ g : Nat, s6 = .pointer (some ⟨g, 0, none⟩) ∧ wx.heap[g]? = some (.cells #[.int .i64 (b.size : Nat), .int .i64 (kA : Nat), .int .i64 n, .int .i64 (kV : Nat)] 49 (0, 0)) ∧ Below w6.heap.size w6 wx)
  case first =>
    have hS0 := CX.out _ K0.out
    have KA : Hid (∀ o, Below w6.heap.size w6 (w6.drew.alloc o)) := fun o => (Below.refl _ _).drew.alloc (Nat.le_refl _) o
    have KB : Hid (∀ o, Below w6.heap.size w6 (w6.alloc o).drew) := fun o => ((Below.refl _ _).alloc (Nat.le_refl _) o).drew
    go_region_held3 (fun W => W.cell? ⟨gx, 1, none⟩ = some (.int .i64 (kA : Nat))) (first | assumption | exact CX.out _ (KB.out _) | exact CX.out _ (KA.out _)) (first | (go_at_call 32; (with_reducible refine (C6.out _ _ _ ?_).mono ?_); (· first | exact ints_keep Z6.out K0.out | exact ints_keep Z6.out (KB.out _) | exact ints_keep Z6.out (KA.out _)); rintro e w7 ⟨rfl, hw7⟩; subst w7))
    all_goals (try go_wp2_with fail)
    all_goals (go_meet; exact ⟨w6.heap.size, rfl, heap_alloc_new w6 _, KB.out _⟩)
  case rest =>
    obtain ⟨g, rfl, hr, hbc⟩ := hcut
    have G0 := hideP hr
    have Y0 := hideP (ints_keep Y6.out hbc)
    have Z0 := hideP (ints_keep Z6.out hbc)
    have B0 := hideP (low_keep B6.out hbc)
    clear hr hbc CX X6 Y6 Z6 B6 K0
    go_wp2_with fail
    refine (C7.out _ _ _ _ _ Z0.out Y0.out).mono ?_
    rintro e w8 ⟨rfl, hb8⟩
    have G8 := hideP (blk_keep G0.out hb8)
    have Z8 := hideP (ints_keep Z0.out hb8)
    have B8 := hideP (low_keep B0.out hb8)
    clear hb8 G0 Y0 Z0 B0
    go_wp2_with fail
    refine (C8.out _).mono ?_
    rintro e w9 ⟨rfl, hb9⟩
    have G9 := hideP (blk_keep G8.out hb9)
    have Z9 := hideP (ints_keep Z8.out hb9)
    have B9 := hideP (low_keep B8.out hb9)
    clear hb9 G8 Z8 B8
    go_wp2_with fail
    refine (C9.out _ _ _ G9.out).mono ?_
    rintro e w10 ⟨rfl, hb10⟩
    have Z10 := hideP (ints_keep Z9.out hb10)
    have B10 := hideP (low_keep B9.out hb10)
    clear hb10 G9 Z9 B9
    go_wp2_with fail
    refine (C10.out _ _ _ Z10.out).mono ?_
    rintro e w11 ⟨rfl, hb11⟩
    have B11 := hideP (low_keep B10.out hb11)
    clear hb11 Z10 B10
    go_wp2_with fail
    have H12 : Hid ((w11.alloc (.cells #[.string ⟨#[1]⟩, .string T1, .string T2, .string T3] 9)).heap[w11.heap.size]? = some (.cells #[.string ⟨#[1]⟩, .string T1, .string T2, .string T3] 9 (0, 0))) := heap_alloc_new w11 _
    have B12 := hideP (B11.out.alloc B11.out.size (.cells #[.string ⟨#[1]⟩, .string T1, .string T2, .string T3] 9))
    refine (C11.out _ _ _ H12.out).mono ?_
    rintro e w13 ⟨rfl, hb13⟩
    have B13 := hideP (low_keep B12.out hb13)
    clear hb13
    go_wp2_with fail
    go_ret
    exact ⟨rfl, B13.out⟩

set_option maxRecDepth 100000 in
set_option maxHeartbeats 1000000 in
theorem pack_impl (b : ByteArray) (w : World) (hb : b.size ≤ 1048576) :
    Calls Tryz.prog 12 #[.string b] w fun e w' => e = .returned (.string (packB b)) ∧ Below w.heap.size w w' := by
  by_cases h48 : 48 < b.size
  · have HR : Hid (packB b = ⟨#[]⟩) := if_pos h48
    have h48' : (48 : Int) < (b.size : Int) := by omega
    rw [HR.out]
    go_enter Tryz.func12, Tryz.ntmps12
    go_wp2_with fail
    go_ret
    exact ⟨rfl, Below.refl _ _⟩
  · have HR : Hid (packB b = sealV (innerV b)) := if_neg h48
    have h48' : decide ((48 : Int) < (b.size : Int)) = false := by simp; omega
    have HS := hideP (fun W => short_impl b W (by omega))
    have HP : Hid (∀ W g t, W.heap[g]? = some (.cells #[.string ⟨#[0]⟩, .string b] t (0, 0)) → Calls Tryz.prog 19 #[.slice (some ⟨g, 0, none⟩) 2 2] W fun e w' => e = .returned (.string (plainV b)) ∧ Below W.heap.size W w') := fun W g t h => by
      have := join_any _ (some ⟨g, 0, none⟩) 2 2 W (strs_two h) rfl (by decide) (by rw [cat_two]; simp; omega)
      rw [cat_two] at this
      exact this
    have hps := plainV_size b
    have hss : (shortV b).size ≤ 20000 := by
      have := shortL_le b
      show (shortL b).toArray.size ≤ 20000
      rw [List.size_toArray]
      exact this
    have HSE := hideP (fun (t : ByteArray) (W : World) (h : t.size ≤ 20000) => seal_impl t W (by unfold maxLen; omega))
    have HIN : Hid (innerV b = if (shortV b).size < (plainV b).size then shortV b else plainV b) := by
      unfold Hid innerV
      rw [hps]
    rw [HR.out, HIN.out]
    clear HR HIN
    generalize shortV b = S at HS hss ⊢
    generalize plainV b = P at HP hps ⊢
    have hpz : P.size ≤ 49 := by omega
    clear hps
    by_cases hlt : S.size < P.size
    · have hlt' : (S.size : Int) < (P.size : Int) := by omega
      rw [if_pos hlt]
      have HSE1 := hideP (fun W => HSE.out S W hss)
      generalize sealV S = R at HSE1 ⊢
      go_enter Tryz.func12, Tryz.ntmps12
      go_wp2_with fail
      have H1 : Hid ((w.alloc (.cells #[.string ⟨#[0]⟩, .string b] 9)).heap[w.heap.size]? = some (.cells #[.string ⟨#[0]⟩, .string b] 9 (0, 0))) := heap_alloc_new w _
      have B1 := hideP ((Below.refl w.heap.size w).alloc (Nat.le_refl _) (.cells #[.string ⟨#[0]⟩, .string b] 9))
      refine (HP.out _ _ _ H1.out).mono ?_
      rintro e w2 ⟨rfl, hb2⟩
      have B2 := hideP (low_keep B1.out hb2)
      clear hb2 H1 B1
      go_wp2_with fail
      refine (HS.out _).mono ?_
      rintro e w3 ⟨rfl, hb3⟩
      have B3 := hideP (low_keep B2.out hb3)
      clear hb3 B2
      go_wp2_with fail
      refine (HSE1.out _).mono ?_
      rintro e w4 ⟨rfl, hb4⟩
      have B4 := hideP (low_keep B3.out hb4)
      clear hb4
      go_wp2_with fail
      go_ret
      exact ⟨rfl, B4.out⟩
    · have hlt' : decide ((S.size : Int) < (P.size : Int)) = false := by simp; omega
      rw [if_neg hlt]
      have HSE1 := hideP (fun W => HSE.out P W (by omega))
      generalize sealV P = R at HSE1 ⊢
      go_enter Tryz.func12, Tryz.ntmps12
      go_wp2_with fail
      have H1 : Hid ((w.alloc (.cells #[.string ⟨#[0]⟩, .string b] 9)).heap[w.heap.size]? = some (.cells #[.string ⟨#[0]⟩, .string b] 9 (0, 0))) := heap_alloc_new w _
      have B1 := hideP ((Below.refl w.heap.size w).alloc (Nat.le_refl _) (.cells #[.string ⟨#[0]⟩, .string b] 9))
      refine (HP.out _ _ _ H1.out).mono ?_
      rintro e w2 ⟨rfl, hb2⟩
      have B2 := hideP (low_keep B1.out hb2)
      clear hb2 H1 B1
      go_wp2_with fail
      refine (HS.out _).mono ?_
      rintro e w3 ⟨rfl, hb3⟩
      have B3 := hideP (low_keep B2.out hb3)
      clear hb3 B2
      go_wp2_with fail
      refine (HSE1.out _).mono ?_
      rintro e w4 ⟨rfl, hb4⟩
      have B4 := hideP (low_keep B3.out hb4)
      clear hb4
      go_wp2_with fail
      go_ret
      exact ⟨rfl, B4.out⟩
end Go.Proofs.YtmkpakhpjgocjaaGreat.Pk
