/- Texts put together: JoinWalks, SealWalks, PkPlain, SoInsT. -/
import Derived.Test.YtjdlgpnhkfdehaaGreatDoorLo7
import Derived.Test.YtjdlgpnhkfdehaaGreatDoorLo31
import Derived.Test.YtjdlgpnhkfdehaaGreatDoorLo27
import Derived.Test.YtjdlgpnhkfdehaaGreatDoorLo28
import Derived.Test.YtjdlgpnhkfdehaaGreatDoorLo30
/- The walk of impl.joinTexts: it answers the two texts one behind the other, and writes nothing that was there. -/
namespace Go.Proofs.YtjdlgpnhkfdehaaGreatDoor.Nu
open Go.RowKit
set_option maxRecDepth 100000 in
set_option maxHeartbeats 1000000 in
theorem join_some (a b : ByteArray) (w : World) (h : a.size + b.size ≤ 1099511627776) (hb : ¬ b = ByteArray.empty) :
    Calls Tryz.prog 114 #[.string a, .string b] w fun e w' => e = .returned (.string (a ++ b)) ∧ Below w.heap.size w w' := by
  obtain ⟨i0, hi, hz0, hz1, hz2⟩ := info_parts Tryz.infoJ5
  go_enter Tryz.func114, Tryz.ntmps114
  go_wp2_with (at_make; refine wpList_make_full _ rfl (.tmp 10) (.tmp 10) 22 rfl w.heap.size 5 i0 (.int .u8 0) 1 Tryz.underlying22 hi hz0 hz1 .i64 .i64 _ _ (a.size + b.size) rfl rfl (by simp) (by simp) (by rw [hz2]; omega) (by unfold maxLen; omega) (Nat.le_refl _) ?_; intro w1 hown1 hgrow1; obtain ⟨cur, hblk, hlen⟩ := made_block hown1; have hbel1 := (Below.refl w.heap.size w).grown hgrow1 (Nat.le_refl _) (by simp); obtain ⟨w2, w3, c1, c2, c3, hb3⟩ := join_facts (P := Tryz.prog) (ty := 3) (sT := 9) (a := a) (b := b) (dp := some ⟨w.heap.size, a.size, none⟩) (dLen := b.size) (dCap := b.size) Tryz.underlying22 Tryz.underlying5 Tryz.underlying9 Tryz.sizeJ5 hblk hlen rfl hbel1 (fun _ => rfl) (Nat.le_refl _); clear hown1 hgrow1 hblk hlen hbel1)
  go_ret
  exact ⟨rfl, by assumption⟩
set_option maxRecDepth 100000 in
set_option maxHeartbeats 1000000 in
theorem join_none (a : ByteArray) (w : World) (h : a.size ≤ 1099511627776) :
    Calls Tryz.prog 114 #[.string a, .string ByteArray.empty] w fun e w' => e = .returned (.string (a ++ ByteArray.empty)) ∧ Below w.heap.size w w' := by
  obtain ⟨i0, hi, hz0, hz1, hz2⟩ := info_parts Tryz.infoJ5
  go_enter Tryz.func114, Tryz.ntmps114
  go_wp2_with (at_make; refine wpList_make_full _ rfl (.tmp 10) (.tmp 10) 22 rfl w.heap.size 5 i0 (.int .u8 0) 1 Tryz.underlying22 hi hz0 hz1 .i64 .i64 _ _ a.size rfl rfl (by simp) (by simp) (by rw [hz2]; omega) (by unfold maxLen; omega) (Nat.le_refl _) ?_; intro w1 hown1 hgrow1; obtain ⟨cur, hblk, hlen⟩ := made_block hown1; have hbel1 := (Below.refl w.heap.size w).grown hgrow1 (Nat.le_refl _) (by simp); obtain ⟨w2, w3, c1, c2, c3, hb3⟩ := join_facts (P := Tryz.prog) (ty := 3) (sT := 9) (a := a) (b := ByteArray.empty) (dp := some ⟨w.heap.size, 0, none⟩) (dLen := 0) (dCap := 0) Tryz.underlying22 Tryz.underlying5 Tryz.underlying9 Tryz.sizeJ5 hblk hlen (by simp) hbel1 (by simp) (by simp); clear hown1 hgrow1 hblk hlen hbel1)
  go_ret
  exact ⟨ret_strJ (by simp), by assumption⟩
theorem join_any (a b : ByteArray) (w : World) (h : a.size + b.size ≤ 1099511627776) :
    Calls Tryz.prog 114 #[.string a, .string b] w fun e w' => e = .returned (.string (a ++ b)) ∧ Below w.heap.size w w' := by
  by_cases hb : b = ByteArray.empty
  · subst hb
    exact join_none a w (by omega)
  · exact join_some a b w h hb
end Go.Proofs.YtjdlgpnhkfdehaaGreatDoor.Nu


/- The walks of the functions that seal a text: each answers Se.sealV of its text, and writes nothing that was there. -/
namespace Go.Proofs.YtjdlgpnhkfdehaaGreatDoor.Se
open Go.RowKit
open Go.Proofs.YtjdlgpnhkfdehaaGreatDoor.Nu (bv arr_string ret_strJ hideJ)
def crcOf (s : ByteArray) : Nat := Cr.fin (Cr.crcL (Cr.fin 0) s.data.toList)
def fourL (n : Nat) : List UInt8 := [UInt8.ofNat (n % 256), UInt8.ofNat (n / 256 % 256), UInt8.ofNat (n / 65536 % 256), UInt8.ofNat (n / 16777216)]
def fourS (n : Nat) : ByteArray := ⟨(fourL n).toArray⟩
def sealV (t : ByteArray) : ByteArray := if t.size ≤ 7996 then t ++ fourS (crcOf t) else ⟨#[]⟩
theorem crcOf_lt (s : ByteArray) : crcOf s < 4294967296 := Cr.fin_lt (Cr.crcL_lt _ _ (Cr.fin_lt (by decide)))
theorem fourS_size (n : Nat) : (fourS n).size = 4 := rfl
theorem moreV_crc (s : ByteArray) (h : s.size ≤ 8000) : Cr.moreV 0 s = (crcOf s : Nat) := Cr.moreV_yes 0 s h (by decide)
theorem bv_of (q : Nat) (x : Int) (hq : (q : Int) = x) (h : q < 256) : bv (UInt8.ofNat q) = .int .u8 x := by
  unfold bv
  rw [UInt8.toNat_ofNat', Nat.mod_eq_of_lt (by omega), hq]
theorem four_cells (n : Nat) (h : n < 4294967296) :
    (#[.int .u8 ((n : Int) % 256), .int .u8 ((n : Int) / 256 % 256), .int .u8 ((n : Int) / 65536 % 256), .int .u8 ((n : Int) / 16777216)] : Array Value).toList = (fourL n).map bv := by
  simp only [fourL, List.map_cons, List.map_nil]
  rw [bv_of (n % 256) ((n : Int) % 256) (by omega) (by omega), bv_of (n / 256 % 256) ((n : Int) / 256 % 256) (by omega) (by omega),
    bv_of (n / 65536 % 256) ((n : Int) / 65536 % 256) (by omega) (by omega), bv_of (n / 16777216) ((n : Int) / 16777216) (by omega) (by omega)]
theorem four_conv {P : Program} {src dst e : TypeId} (t : TypeId) (u : World) (n : Nat) (h : n < 4294967296) (hs : P.underlying src = some (.slice e)) (he : P.underlying e = some (.int .u8)) (hd : P.underlying dst = some .string) :
    (convert src dst (.slice (some ⟨u.heap.size, 0, none⟩) 4 4)).run P (u.alloc (.cells #[.int .u8 ((n : Int) % 256), .int .u8 ((n : Int) / 256 % 256), .int .u8 ((n : Int) / 65536 % 256), .int .u8 ((n : Int) / 16777216)] t)) =
      .ok (.string (fourS n)) (u.alloc (.cells #[.int .u8 ((n : Int) % 256), .int .u8 ((n : Int) / 256 % 256), .int .u8 ((n : Int) / 65536 % 256), .int .u8 ((n : Int) / 16777216)] t)) :=
  arr_string (P := P) (fourL n) 4 (heap_alloc_new u _) (by rw [four_cells n h]; rfl) hs he hd
set_option maxHeartbeats 400000 in
theorem four_any (n : Nat) (w : World) (hn : n < 4294967296) :
    Calls Tryz.prog 116 #[.int .i64 n] w fun e w' => e = .returned (.string (fourS n)) ∧ Below w.heap.size w w' := by
  have hcv := four_conv (P := Tryz.prog) 5 w n hn Tryz.underlying22 Tryz.underlying5 Tryz.underlying9
  go_enter Tryz.func116, Tryz.ntmps116
  go_wp2
  go_ret
  exact ⟨rfl, (Below.refl _ _).alloc (Nat.le_refl _) _⟩
set_option maxHeartbeats 400000 in
theorem sum_any (s : ByteArray) (w : World) (hs : s.size ≤ 8000) :
    Calls Tryz.prog 115 #[.string s] w fun e w' => e = .returned (.string (fourS (crcOf s))) ∧ Below w.heap.size w w' := by
  have HV := hideJ (moreV_crc s hs)
  have hn := crcOf_lt s
  generalize crcOf s = n at HV hn ⊢
  have hcv := four_conv (P := Tryz.prog) 173 w n hn Tryz.underlying22 Tryz.underlying5 Tryz.underlying9
  go_enter Tryz.func115, Tryz.ntmps115
  go_wp2_with fail
  refine (Cr.crc_impl0 s _ (by unfold maxLen; omega)).mono ?_
  rw [HV.out]
  rintro e w' ⟨rfl, hw⟩
  subst w'
  go_wp2
  refine wp_loop_rounds 5 ?_
  rw [rounds_succ]; go_wp2
  rw [rounds_succ]; go_wp2
  rw [rounds_succ]; go_wp2
  rw [rounds_succ]; go_wp2
  rw [rounds_succ]; go_wp2
  go_ret
  exact ⟨rfl, (Below.refl _ _).alloc (Nat.le_refl _) _⟩
set_option maxHeartbeats 400000 in
theorem seal_spec (t : ByteArray) (w : World) (ht : t.size ≤ maxLen) :
    Calls Tryz.prog 62 #[.string t] w fun e w' => e = .returned (.string (sealV t)) ∧ Below w.heap.size w w' := by
  unfold maxLen at ht
  by_cases h : 7996 < t.size
  · have HP := hideJ (show sealV t = ⟨#[]⟩ by unfold sealV; rw [if_neg (by omega)])
    go_enter Tryz.func62, Tryz.ntmps62
    go_wp2
    go_ret
    exact ⟨ret_strJ HP.out.symm, Below.refl _ _⟩
  · have HP := hideJ (show sealV t = t ++ fourS (crcOf t) by unfold sealV; rw [if_pos (by omega)])
    have hc := crcOf_lt t
    have hf := fourS_size (crcOf t)
    have HF := hideJ hf
    clear hf
    have hf4 : (fourS (crcOf t)).size ≤ 4 := by rw [HF.out]; omega
    go_enter Tryz.func62, Tryz.ntmps62
    go_wp2_with fail
    refine (Cr.crc_spec 0 t _ (by omega) (by omega)).mono ?_
    rintro e w' ⟨rfl, hw⟩
    subst w'
    go_wp2_with fail
    refine (four_any (crcOf t) _ hc).mono ?_
    rintro e w1 ⟨rfl, hb1⟩
    go_wp2
    go_ret
    exact ⟨ret_strJ HP.out.symm, hb1⟩
set_option maxHeartbeats 400000 in
theorem seal_impl (t : ByteArray) (w : World) (ht : t.size ≤ maxLen) :
    Calls Tryz.prog 58 #[.string t] w fun e w' => e = .returned (.string (sealV t)) ∧ Below w.heap.size w w' := by
  unfold maxLen at ht
  by_cases h : 7996 < t.size
  · have HP := hideJ (show sealV t = ⟨#[]⟩ by unfold sealV; rw [if_neg (by omega)])
    go_enter Tryz.func58, Tryz.ntmps58
    go_wp2
    go_ret
    exact ⟨ret_strJ HP.out.symm, Below.refl _ _⟩
  · have HP := hideJ (show sealV t = t ++ fourS (crcOf t) by unfold sealV; rw [if_pos (by omega)])
    have HF := hideJ (fourS_size (crcOf t))
    go_enter Tryz.func58, Tryz.ntmps58
    go_wp2_with fail
    refine (sum_any t _ (by omega)).mono ?_
    rintro e w1 ⟨rfl, hb1⟩
    go_wp2_with fail
    refine (Nu.join_any _ _ _ (by rw [HF.out]; omega)).mono ?_
    rintro e w2 ⟨rfl, hb2⟩
    go_wp2
    go_ret
    exact ⟨ret_strJ HP.out.symm, hb1.trans (hb2.mono hb1.size)⟩
end Go.Proofs.YtjdlgpnhkfdehaaGreatDoor.Se


/- Plain mathematics of BlockPack: what a block is made. -/
namespace Go.Proofs.YtjdlgpnhkfdehaaGreatDoor.Pk
open Go.Proofs.YtjdlgpnhkfdehaaGreatDoor.Hf (up up_length up_at incs incs_length dep lenOf lenOf_facts syms mem_syms nats)
open Go.Proofs.YtjdlgpnhkfdehaaGreatDoor.Bi (putR putR_yes putR_no putL okS whole whole_no above above_zero csum right right_yes packR)
open Go.Proofs.YtjdlgpnhkfdehaaGreatDoor.So (bwtT bwtA)
open Go.Proofs.YtjdlgpnhkfdehaaGreatDoor.Fr (frontR frontR_len)
open Go.Proofs.YtjdlgpnhkfdehaaGreatDoor.Ze (zerosR zerosR_len zerosR_no zeros_back backR_no numsR numsR_yes upTo_yes)
open Go.Proofs.YtjdlgpnhkfdehaaGreatDoor.Se (sealV)
theorem zerosR_mem (l : List Int) : ∀ x ∈ zerosR l, 0 ≤ x ∧ x ≤ 256 := by
  intro x hx
  cases h1 : numsR l 255 with
  | false =>
    rw [zerosR_no h1] at hx
    exact absurd hx (List.not_mem_nil)
  | true =>
    cases h2 : numsR (zerosR l) 256 with
    | true => exact upTo_yes (numsR_yes h2).2 x hx
    | false =>
      have h3 := zeros_back h1
      rw [backR_no h2] at h3
      subst h3
      have := zerosR_len []
      rw [List.eq_nil_of_length_eq_zero (show (zerosR []).length = 0 by simpa using this)] at hx
      exact absurd hx (List.not_mem_nil)
noncomputable def symS (b : ByteArray) : List Int := zerosR (frontR (bwtT b).data.toList)
theorem symS_mem (b : ByteArray) : ∀ x ∈ symS b, 0 ≤ x ∧ x ≤ 256 := zerosR_mem _
theorem symS_len (b : ByteArray) : (symS b).length ≤ 400 := Nat.le_trans (zerosR_len _) (frontR_len _)
noncomputable def lenS (b : ByteArray) : List Nat := lenOf (countsN (symS b))
noncomputable def headS (b : ByteArray) : List Int := [(b.size : Int), ((bwtA b : Nat) : Int), ((symS b).length : Int), ((above (up (lenS b)) : Nat) : Int)]
noncomputable def bitsS (b : ByteArray) : ByteArray := packR (putR (up (lenS b)) (symS b))
noncomputable def shortL (b : ByteArray) : List UInt8 := [1] ++ (numsL (headS b) ++ (numsL (rowT (lenS b) 257) ++ (bitsS b).data.toList))
noncomputable def shortV (b : ByteArray) : ByteArray := ⟨(shortL b).toArray⟩
noncomputable def plainV (b : ByteArray) : ByteArray := ⟨(0 :: b.data.toList).toArray⟩
noncomputable def innerV (b : ByteArray) : ByteArray := if (shortV b).size < b.size + 1 then shortV b else plainV b
noncomputable def packB (b : ByteArray) : ByteArray := if 48 < b.size then ⟨#[]⟩ else sealV (innerV b)
theorem plainV_size (b : ByteArray) : (plainV b).size = b.size + 1 := by
  show (0 :: b.data.toList).toArray.size = _
  simp
theorem lenS_facts (b : ByteArray) : (lenS b).length = 257 ∧ (∀ i, (lenS b).getD i 0 ≤ 12) ∧ (∀ i, 0 < (lenS b).getD i 0 ↔ i ∈ syms (countsN (symS b)) 257) ∧ (0 < (syms (countsN (symS b)) 257).length → whole (up (lenS b)) = true) := by
  have h := lenOf_facts (countsN (symS b)) (by rw [countsN_length]; decide)
  rw [countsN_length] at h
  exact h
theorem incs_mono (s : List Nat) : ∀ (d : List Nat) (j : Nat), (∀ k ∈ s, k < d.length) → d.getD j 0 ≤ (incs d s).getD j 0 := by
  unfold incs
  induction s with
  | nil => intro d j _; exact Nat.le_refl _
  | cons k s ih =>
    intro d j h
    have hk := h k (List.mem_cons_self ..)
    rw [List.foldl_cons]
    refine Nat.le_trans ?_ (ih (d.set k (d.getD k 0 + 1)) j fun x hx => by rw [List.length_set]; exact h x (List.mem_cons_of_mem _ hx))
    rw [Hf.getD_set _ _ _ _ hk]
    split
    · rename_i e
      subst e
      omega
    · exact Nat.le_refl _
theorem incs_pos (s : List Nat) : ∀ (d : List Nat) (j : Nat), (∀ k ∈ s, k < d.length) → j ∈ s → 0 < (incs d s).getD j 0 := by
  induction s with
  | nil => intro d j _ hj; exact absurd hj (List.not_mem_nil)
  | cons k s ih =>
    intro d j h hj
    have hk := h k (List.mem_cons_self ..)
    have hr : ∀ x ∈ s, x < (d.set k (d.getD k 0 + 1)).length := fun x hx => by rw [List.length_set]; exact h x (List.mem_cons_of_mem _ hx)
    have e : incs d (k :: s) = incs (d.set k (d.getD k 0 + 1)) s := rfl
    rw [e]
    rcases List.mem_cons.1 hj with rfl | hj
    · have := incs_mono s (d.set j (d.getD j 0 + 1)) j hr
      rw [Hf.getD_set _ _ _ _ hk, if_pos rfl] at this
      omega
    · exact ih _ j hr hj
theorem nats_lt (s : List Int) (h : ∀ x ∈ s, 0 ≤ x ∧ x ≤ 256) : ∀ k ∈ nats s, k < (Hf.zeros 257).length := by
  intro k hk
  obtain ⟨x, hx, rfl⟩ := List.mem_map.1 hk
  have := h x hx
  rw [zeros_length]
  omega
theorem symS_ok (b : ByteArray) : ∀ x ∈ symS b, okS (up (lenS b)) x := by
  intro x hx
  have h := symS_mem b x hx
  obtain ⟨h1, h2, h3, _⟩ := lenS_facts b
  refine ⟨h.1, by rw [up_length, h1]; omega, ?_⟩
  have hp : 0 < (lenS b).getD x.toNat 0 := (h3 x.toNat).2 (mem_syms.2 ⟨by omega, incs_pos (nats (symS b)) _ _ (nats_lt _ (symS_mem b)) (List.mem_map.2 ⟨x, hx, rfl⟩)⟩)
  have hl : x.toNat < (lenS b).length := by omega
  have := up_at (lenS b) x.toNat hl
  rw [List.getD_eq_getElem?_getD, List.getElem?_eq_getElem (show x.toNat < (up (lenS b)).length by rw [up_length]; exact hl), this]
  show (0 : Int) < (((lenS b).getD x.toNat 0 : Nat) : Int)
  omega
theorem above_pos {l : List Int} (h : 0 < above l) : ∃ x ∈ l, 0 < x := by
  refine Classical.byContradiction fun hn => ?_
  have : above l = 0 := by
    unfold above
    rw [List.countP_eq_zero]
    intro x hx
    simp only [decide_eq_true_eq]
    exact fun h0 => hn ⟨x, hx, h0⟩
  omega
theorem lenS_whole (b : ByteArray) (h : 0 < above (up (lenS b))) : whole (up (lenS b)) = true := by
  obtain ⟨_, _, h3, h4⟩ := lenS_facts b
  obtain ⟨x, hx, h0⟩ := above_pos h
  obtain ⟨j, hj, rfl⟩ := List.getElem_of_mem hx
  rw [up_length] at hj
  rw [up_at _ _ hj] at h0
  exact h4 (List.length_pos_of_mem ((h3 j).1 (by omega)))
theorem bits_none (b : ByteArray) (h : above (up (lenS b)) = 0) : putR (up (lenS b)) (symS b) = ⟨#[]⟩ := by
  refine putR_no (.inr ?_)
  obtain ⟨h1, _⟩ := above_zero _ h
  unfold whole
  rw [h, h1]
  simp
theorem bits_some (b : ByteArray) (h : 0 < above (up (lenS b))) : putR (up (lenS b)) (symS b) = ⟨(putL (up (lenS b)) (symS b)).toArray⟩ := putR_yes (by have := symS_len b; omega) (lenS_whole b h) (symS_ok b)
theorem bits_size (b : ByteArray) : (putR (up (lenS b)) (symS b)).size ≤ 4800 := by
  by_cases h : above (up (lenS b)) = 0
  · rw [bits_none b h]
    decide
  · rw [bits_some b (by omega)]
    have h1 := Bi.putL_le (up (lenS b)) (Bi.whole_ok (lenS_whole b (by omega))) (symS b)
    have h2 := symS_len b
    show (putL (up (lenS b)) (symS b)).toArray.size ≤ 4800
    rw [List.size_toArray]
    omega
theorem lens_counts (b : ByteArray) : Hf.lensR (up (countsN (symS b))) = up (lenS b) := by
  have hn : nats (up (countsN (symS b))) = countsN (symS b) := by
    unfold nats up
    rw [List.map_map]
    conv => rhs; rw [← List.map_id (countsN (symS b))]
    exact List.map_congr_left fun x _ => by simp
  unfold Hf.lensR
  rw [if_pos, hn]
  · rfl
  · refine Bi.within_of (by rw [up_length, countsN_length]; decide) fun x hx => ?_
    obtain ⟨y, hy, rfl⟩ := List.mem_map.1 hx
    obtain ⟨j, hj, rfl⟩ := List.getElem_of_mem hy
    have h1 := counts_le (symS b) (symS_mem b) (nats (symS b)).length j
    rw [List.take_length] at h1
    have h2 := symS_len b
    have e : (countsN (symS b)).getD j 0 = (countsN (symS b))[j] := by rw [List.getD_eq_getElem?_getD, List.getElem?_eq_getElem hj]; rfl
    have h3 : (countsN (symS b)).getD j 0 ≤ (symS b).length := h1
    omega
end Go.Proofs.YtjdlgpnhkfdehaaGreatDoor.Pk


/- The walk of a stable sort's insertion at turns. -/
namespace Go.Proofs.YtjdlgpnhkfdehaaGreatDoor.So
open Go.RowKit Go.Sort Go.Proofs
def cvT : Value := .func (.func 201) #[] #[]
set_option maxRecDepth 100000 in
set_option maxHeartbeats 2000000 in
theorem insertion_T (T : Nat → ByteArray) (blk cap a b : Nat) (d : Array Nat) (w : World) (hH : HoldsK (encT T) 2 w blk 0 d) (hblk : blk < w.heap.size) (hab : a ≤ b) (hb : b ≤ d.size) (hsz : d.size ≤ 1048576)
    (hrise : ∀ i j, a ≤ i → i < j → j < b → dF d i < dF d j) :
    Calls Tryz.prog 254 #[.slice (some ⟨blk, 0, none⟩) d.size cap, .int .i64 a, .int .i64 b, .func (.func 201) #[] #[]] w fun e w' =>
      e = .returned (.tuple #[]) ∧ ∃ n d' os, w' = sortWorldK (encT T) 2 w blk 0 n d' os ∧ d'.size = d.size ∧ PermF a b (dF d) (dF d') ∧ Ris (clT T) a b (dF d') := by
  have mixed := mixed
  have HST := hideO (world_self hH)
  have HH := hideO hH
  have HRI := hideO hrise
  clear hH hrise
  obtain ⟨z, hz⟩ : ∃ z, z = d.size := ⟨_, rfl⟩
  have HZ := hideO hz
  rw [← hz] at hb hsz ⊢
  clear hz
  by_cases hE : a = b
  · subst hE
    go_enter Tryz.func254, Tryz.ntmps254
    go_wp2_with fail
    go_loopw [8] (fun i wr => i = .int .i64 ((a : Int) + 1) ∧ wr = w) (fun _ _ => 0)
    case atStart => exact ⟨by go_num, rfl⟩
    case round =>
      obtain ⟨rfl, rfl⟩ := hrel
      go_wp2_with fail
      refine bodyPost_end (v := .tuple #[]) (by simp [results, Tryz.results254, go_sem]) rfl ⟨rfl, 0, d, #[], HST.out, HZ.out.symm, PermF.refl _ _ _, fun i j h1 h2 h3 => absurd h3 (by omega)⟩
  · have hlt0 : a < b := by omega
    clear hE hab
    go_enter Tryz.func254, Tryz.ntmps254
    go_wp2_with fail
    go_loopw [8] (fun vi wr => ∃ (i n : Nat) (dk : Array Nat) (os : Array Obj), vi = .int .i64 i ∧ a < i ∧ i ≤ b ∧ dk.size = z ∧ PermF a i (dF d) (dF dk) ∧ Ris (clT T) a i (dF dk) ∧ wr = sortWorldK (encT T) 2 w blk 0 n dk os) (fun vi _ => b - (intOf vi).toNat)
    case atStart => exact ⟨a + 1, 0, d, #[], by go_num, by omega, by omega, HZ.out.symm, PermF.refl _ _ _, fun i j h1 h2 h3 => absurd h3 (by omega), HST.out⟩
    case round =>
      obtain ⟨i, n, dk, os, rfl, hai, hib, hsk, hperm, hris, hwr⟩ := hrel
      have HSK := hideO hsk
      have HPM := hideO hperm
      have HRS := hideO hris
      have HW := hideO hwr
      clear hsk hperm hris hwr
      by_cases hlt : i < b
      · obtain ⟨f, hf⟩ : ∃ f, f = dF dk := ⟨_, rfl⟩
        rw [← hf] at HPM HRS
        have HFD := hideO hf
        have HPL : Hid (∀ k, a ≤ k → k < i → f k < f i) := fun k h1 h2 => by
          have e : f i = dF d i := HPM.out.2 i (Or.inr (Nat.le_refl _))
          rw [e]
          exact HPM.out.all (p := fun v => v < dF d i) (fun j h3 h4 => HRI.out j i h3 h4 hlt) k h1 h2
        clear hf
        go_wp2_with fail
        go_loopw [9] (fun vj wr2 => ∃ (j m : Nat) (dj : Array Nat) (oj : Array Obj), vj = .int .i64 j ∧ a ≤ j ∧ j ≤ i ∧ dj.size = z ∧ dF dj = rotF j i (i + 1) f ∧ (∀ k, j ≤ k → k < i → clT T (f i) (f k) = true) ∧ wr2 = sortWorldK (encT T) 2 w blk 0 m dj oj) (fun vj _ => (intOf vj).toNat)
        case atStart => exact ⟨i, n, dk, os, rfl, by omega, Nat.le_refl _, HSK.out, by rw [rot_down0]; exact HFD.out.symm, fun k h1 h2 => absurd h2 (by omega), HW.out⟩
        case round =>
          obtain ⟨j, m, dj, oj, rfl, haj, hji, hsj, hfj, hcl, hwr⟩ := hrel
          have HSJ := hideO hsj
          have HFJ := hideO hfj
          have HCL := hideO hcl
          have HWJ := hideO hwr
          -- the end of the inner loop
          have OUT : Hid ((∀ k, a ≤ k → k < j → lx (clT T) (f k) (f i)) → PermF a (i + 1) (dF d) (dF dj) ∧ Ris (clT T) a (i + 1) (dF dj)) := fun hlo => by
            rw [HFJ.out]
            refine ⟨?_, ?_⟩
            · have h1 := HPM.out.mono (Nat.le_refl a) (Nat.le_of_lt hai) (Nat.le_succ i)
              exact h1.trans ((rot_perm f hji (Nat.le_succ i)).mono haj (by omega) (Nat.le_refl _))
            · exact down_ris (clT_weak T) HRS.out haj hji hlo (fun k h1 h2 => lx_yes (HCL.out k h1 h2))
          clear hsj hfj hcl
          by_cases hja : a < j
          · obtain ⟨jp, hjp⟩ : ∃ jp, j = jp + 1 := ⟨j - 1, by omega⟩
            have HJP := hideO hjp
            have hHj : HoldsK (encT T) 2 wr blk 0 dj := by rw [hwr]; exact world_holds HH.out hblk m dj oj (HSJ.out.trans HZ.out)
            have hbw : blk < wr.heap.size := by rw [hwr]; exact Nat.lt_of_lt_of_le hblk (world_size m dj oj)
            obtain ⟨x0c, x0f, x1c, x1f⟩ := cells_T hHj (i := j) (by have := HSJ.out; omega)
            obtain ⟨y0c, y0f, y1c, y1f⟩ := cells_T hHj (i := jp) (by have := HSJ.out; omega)
            have ex : dj[j]! = f i := by
              have : dF dj j = f i := by
                rw [HFJ.out, rot_first f j (Nat.le_refl _) (by omega)]
                congr 1
                omega
              exact this
            have ey : dj[jp]! = f jp := by
              have : dF dj jp = f jp := by rw [HFJ.out, rot_out f jp (Or.inl (by omega)) hji (Nat.le_succ i)]
              exact this
            rw [ex] at x0c x1c
            rw [ey] at y0c y1c
            obtain ⟨x, hx⟩ : ∃ x, x = f i := ⟨_, rfl⟩
            obtain ⟨y, hy⟩ : ∃ y, y = f jp := ⟨_, rfl⟩
            have HXY : Hid (x = f i ∧ y = f jp) := ⟨hx, hy⟩
            rw [← hx] at x0c x1c
            rw [← hy] at y0c y1c
            have g0 := fun n' os' => cell_grown (a := ⟨blk, j * 2, none⟩) hbw x0c n' os'
            have g1 := fun n' os' => cell_grown (a := ⟨blk, j * 2 + 1, none⟩) hbw x1c n' os'
            have g2 := fun n' os' => cell_grown (a := ⟨blk, jp * 2, none⟩) hbw y0c n' os'
            have g3 := fun n' os' => cell_grown (a := ⟨blk, jp * 2 + 1, none⟩) hbw y1c n' os'
            have HCM : Hid (∀ W, Calls Tryz.prog 201 #[.agg #[.int .i64 x, .string (T x)], .agg #[.int .i64 y, .string (T y)]] W fun e w' => e = .returned (.int .i64 (cfT T x y)) ∧ ∃ q os', w' = grow (W.drewN q) os') := fun W => cmp_T T x y W
            have hneg := cfT_neg T x y
            obtain ⟨r, hr⟩ : ∃ r, r = cfT T x y := ⟨_, rfl⟩
            rw [← hr] at hneg HCM
            have e1 : (j : Int) - 1 = (jp : Int) := by omega
            have hwp : IntKind.i64.wrap (jp : Int) = (jp : Int) := by rw [IntKind.wrap_i64]; omega
            have jz : (j : Int) < (z : Int) := by omega
            have jz1 : (jp : Int) < (z : Int) := by omega
            have hjaz : (a : Int) < (j : Int) := by omega
            have hjad : decide ((a : Int) < (j : Int)) = true := decide_eq_true hjaz
            have HCLS := hideO (fun n' os' => sortWorldK_grown_c (encT T) 2 w blk 0 m n' dj oj os')
            rw [← hwr] at HCLS
            clear hr ex ey hx hy hjp hwr
            cases hcb : clT T x y with
            | true =>
              rw [hcb] at hneg
              have hlv : r < 0 := of_decide_eq_true hneg
              clear hneg
              go_wp2_with fail
              go_quiet_grown (first | (go_at_call 201; refine Calls.grown_of (HCM.out _)))
              have hW2 : grow (wr.drewN nq) osq = sortWorldK (encT T) 2 w blk 0 (m + nq) dj (oj ++ osq) := HCLS.out nq osq
              dsimp only
              clear g0 g1 g2 g3 x0c x0f x1c x1f y0c y0f y1c y1f hHj hbw
              generalize grow (wr.drewN nq) osq = W2 at hW2 ⊢
              have hH2 : HoldsK (encT T) 2 W2 blk 0 dj := by rw [hW2]; exact world_holds HH.out hblk (m + nq) dj (oj ++ osq) (HSJ.out.trans HZ.out)
              obtain ⟨x0c, x0f, x1c, x1f⟩ := cells_T hH2 (i := j) (by have := HSJ.out; omega)
              obtain ⟨y0c, y0f, y1c, y1f⟩ := cells_T hH2 (i := jp) (by have := HSJ.out; omega)
              have ex : dj[j]! = x := by
                have : dF dj j = x := by
                  rw [HXY.out.1, HFJ.out, rot_first f j (Nat.le_refl _) (by omega)]
                  congr 1
                  omega
                exact this
              have ey : dj[jp]! = y := by
                have : dF dj jp = y := by rw [HXY.out.2, HFJ.out, rot_out f jp (Or.inl (by have := HJP.out; omega)) hji (Nat.le_succ i)]
                exact this
              have hsw := sortWorldK_swp_c (encT T) 2 w blk 0 (encT_len T) (m + nq) dj (oj ++ osq) hblk j jp (by have := HSJ.out; omega) (by have := HSJ.out; omega)
              rw [ex, ey, ← hW2, Nat.zero_add, Nat.zero_add] at hsw
              rw [ex] at x0c x1c
              rw [ey] at y0c y1c
              have HSW := hideO hsw
              have hjne : jp < j := by have := HJP.out; omega
              have HROT : Hid (So.swp (rotF j i (i + 1) f) j jp = rotF jp i (i + 1) f) := by
                unfold Hid
                rw [HJP.out]
                exact rot_down jp i f (by have := HJP.out; omega)
              clear hW2 hH2 ex ey hsw
              go_wp2_with fail
              go_region
              all_goals (try go_wp2_with fail)
              all_goals go_roundw
              case rel =>
                refine ⟨jp, m + nq + 1, Go.Sort.swp dj j jp, oj ++ osq, rfl, by have := HJP.out; omega, by omega, by rw [Go.Sort.size_swp]; exact HSJ.out, ?_, fun k h1 h2 => ?_, HSW.out⟩
                · rw [dF_swp dj j jp (by have := HSJ.out; omega) (by have := HSJ.out; omega), HFJ.out]
                  exact HROT.out
                · rcases Nat.eq_or_lt_of_le h1 with e | e
                  · rw [← e, ← HXY.out.1, ← HXY.out.2]
                    exact hcb
                  · exact HCL.out k (by have := HJP.out; omega) h2
              case measure => have := HJP.out; simp [intOf]; omega
            | false =>
              rw [hcb] at hneg
              have hlv : ¬ r < 0 := of_decide_eq_false hneg
              have HO := hideO (OUT.out (fun k h1 h2 => by
                have hjx : lx (clT T) (f jp) (f i) := by
                  rw [← HXY.out.1, ← HXY.out.2]
                  refine lx_no hcb ?_
                  rw [HXY.out.1, HXY.out.2]
                  exact HPL.out jp (by have := HJP.out; omega) (by have := HJP.out; omega)
                exact HRS.out.le h1 (show k ≤ jp by have := HJP.out; omega) (by have := HJP.out; omega) (clT_weak T) hjx))
              clear hneg
              go_wp2_with fail
              go_quiet_grown (first | (go_at_call 201; refine Calls.grown_of (HCM.out _)))
              have HW2 : Hid (grow (wr.drewN nq) osq = sortWorldK (encT T) 2 w blk 0 (m + nq) dj (oj ++ osq)) := HCLS.out nq osq
              dsimp only
              clear g0 g1 g2 g3 x0c x0f x1c x1f y0c y0f y1c y1f hHj hbw
              go_wp2_with fail
              go_roundw
              case rel => exact ⟨i + 1, m + nq, dj, oj ++ osq, by go_num, by omega, by omega, HSJ.out, HO.out.1, HO.out.2, HW2.out⟩
              case measure => simp [intOf]; omega
          · have hjad : decide ((a : Int) < (j : Int)) = false := decide_eq_false (by omega)
            have hjaz : ¬ (a : Int) < (j : Int) := by omega
            have HO := hideO (OUT.out (fun k h1 h2 => absurd h2 (by omega)))
            have HDR : Hid (wr.drew = sortWorldK (encT T) 2 w blk 0 (m + 1) dj oj) := by
              unfold Hid
              rw [hwr]
              rfl
            clear hwr
            go_wp2_with fail
            go_region
            all_goals (try go_wp2_with fail)
            all_goals go_roundw
            case rel => exact ⟨i + 1, m + 1, dj, oj, by go_num, by omega, by omega, HSJ.out, HO.out.1, HO.out.2, HDR.out⟩
            case measure => simp [intOf]; omega
      · obtain rfl : i = b := by omega
        go_wp2_with fail
        refine bodyPost_end (v := .tuple #[]) (by simp [results, Tryz.results254, go_sem]) rfl ⟨rfl, n, dk, os, HW.out, HSK.out, HPM.out, HRS.out⟩
end Go.Proofs.YtjdlgpnhkfdehaaGreatDoor.So

