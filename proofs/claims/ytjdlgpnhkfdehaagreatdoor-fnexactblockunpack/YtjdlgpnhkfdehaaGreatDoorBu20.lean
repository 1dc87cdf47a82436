/- Texts put together: GetNumWalks, CutWalks, GetTextWalks, TextWalks. -/
import Derived.Test.YtjdlgpnhkfdehaaGreatDoorBu19
import Derived.Test.YtjdlgpnhkfdehaaGreatDoorBu1
import Derived.RegionTactic
import Derived.BigRegion
import Derived.Test.YtjdlgpnhkfdehaaGreatDoorBu0
import Derived.Test.YtjdlgpnhkfdehaaGreatDoorBu15
/- The walks of the functions round impl.readBits, up to impl.GetNum: it answers Gn.getV of its text and place, as spec.GetNum does. -/
namespace Go.Proofs.YtjdlgpnhkfdehaaGreatDoor.Gn
open Go.RowKit
theorem ret_int {k : IntKind} {a b : Int} (h : a = b) : Ending.returned (.int k a) = .returned (.int k b) := by rw [h]
theorem not_half (u : Nat) (h : u ≤ 18446744073709551615) : bits BinOp.xor IntKind.u64 IntKind.u64.max ((u : Int) / 2) = ((18446744073709551615 - u / 2 : Nat) : Int) := by
  have e : ((u : Int) / 2) = ((u / 2 : Nat) : Int) := by omega
  rw [e, show IntKind.u64.max = ((18446744073709551615 : Nat) : Int) from rfl, u64_xor_nat _ _ (by decide) (by omega)]
  have e := congrArg BitVec.toNat (BitVec.allOnes_xor (x := BitVec.ofNat 64 (u / 2)))
  rw [BitVec.toNat_xor, BitVec.toNat_not, BitVec.toNat_allOnes, BitVec.toNat_ofNat, Nat.mod_eq_of_lt (by omega)] at e
  exact congrArg (fun n : Nat => (n : Int)) e
theorem low_bit (u : Nat) (h : u ≤ 18446744073709551615) : bits BinOp.and IntKind.u64 (u : Int) 1 = ((u % 2 : Nat) : Int) := by
  have := u64_and_nat u 1 (by omega) (by decide)
  rw [nat_mask1] at this
  exact this
theorem unfold_any (u : Nat) (w : World) (h : u ≤ 18446744073709551615) :
    Calls Tryz.prog 212 #[.int .u64 u] w fun e w' => e = .returned (.int .i64 (unz u)) ∧ w' = w := by
  have hl := low_bit u h
  by_cases hodd : u % 2 = 1
  · have ht : (bits BinOp.and IntKind.u64 (u : Int) 1 == 1) = true := by rw [hl, hodd]; rfl
    obtain ⟨z, hz⟩ : ∃ z, z = 18446744073709551615 - u / 2 := ⟨_, rfl⟩
    have hn := not_half u h
    rw [← hz] at hn
    have HO := hide (unz_odd u hodd)
    have HZ := hide hz
    clear hl hodd hz
    go_enter Tryz.func212, Tryz.ntmps212
    go_wp2
    go_ret
    exact ⟨ret_int (by rw [HO.out, HZ.out]; simp [wrap64]; omega), rfl⟩
  · have ht : (bits BinOp.and IntKind.u64 (u : Int) 1 == 1) = false := by rw [hl]; simp; omega
    have HO := hide (unz_even' u hodd)
    clear hl hodd
    go_enter Tryz.func212, Tryz.ntmps212
    go_wp2
    go_ret
    exact ⟨ret_int HO.out, rfl⟩
theorem place_big (s : ByteArray) (a : Int) (w : World) (hs : s.size ≤ maxLen) (h : 8000 < s.size) :
    Calls Tryz.prog 210 #[.string s, .int .i64 a] w fun e w' => e = .returned (.iface 233 (.agg #[.int .i64 2])) ∧ w' = w := by
  unfold maxLen at hs
  go_enter Tryz.func210, Tryz.ntmps210
  go_wp2
  go_ret
  exact ⟨rfl, rfl⟩
theorem place_neg (s : ByteArray) (a : Int) (w : World) (hs : ¬ 8000 < s.size) (h : a < 0) :
    Calls Tryz.prog 210 #[.string s, .int .i64 a] w fun e w' => e = .returned (.iface 233 (.agg #[.int .i64 1])) ∧ w' = w := by
  go_enter Tryz.func210, Tryz.ntmps210
  go_wp2
  go_ret
  exact ⟨rfl, rfl⟩
theorem place_ok (s : ByteArray) (a : Int) (w : World) (hs : ¬ 8000 < s.size) (h : ¬ a < 0) :
    Calls Tryz.prog 210 #[.string s, .int .i64 a] w fun e w' => e = .returned .nilIface ∧ w' = w := by
  go_enter Tryz.func210, Tryz.ntmps210
  go_wp2
  go_ret
  exact ⟨rfl, rfl⟩
def rd (s : ByteArray) (a : Int) : Int × Nat × Int := if 8000 < s.size then (0, 0, 2) else if a < 0 then (0, 0, 1) else (unz (numR s a.toNat).1, (numR s a.toNat).2.1, (numR s a.toNat).2.2)
theorem run_bound (s : ByteArray) : ∀ f k p u, k ≤ 9 → u < 2 ^ (7 * k) → (run s f k p u).1 ≤ 18446744073709551615 := by
  intro f
  induction f with
  | zero => intro k p u _ _; exact Nat.zero_le _
  | succ f ih =>
    intro k p u hk hu
    rw [run]
    split
    · exact Nat.zero_le _
    · split
      · exact Nat.zero_le _
      · rename_i h9
        split
        · split
          · exact Nat.zero_le _
          · exact (next_small u (byteN s p) k hu hk h9).2
        · exact ih _ _ _ (by omega) (next_lt _ _ _ hu)
theorem run_place (s : ByteArray) : ∀ f k p u, (run s f k p u).2.1 ≤ s.size := by
  intro f
  induction f with
  | zero => intro k p u; exact Nat.zero_le _
  | succ f ih =>
    intro k p u
    rw [run]
    split
    · exact Nat.zero_le _
    · split
      · exact Nat.zero_le _
      · split
        · split
          · exact Nat.zero_le _
          · show p + 1 ≤ s.size; omega
        · exact ih _ _ _
theorem read_any (s : ByteArray) (a : Int) (w : World) (hs : s.size ≤ maxLen) :
    Calls Tryz.prog 168 #[.string s, .int .i64 a] w fun e w' => e = .returned (.tuple #[.int .i64 (rd s a).1, .int .i64 (rd s a).2.1, errV (rd s a).2.2]) ∧ w' = w := by
  by_cases h1 : 8000 < s.size
  · have HE : Hid (rd s a = (0, 0, 2)) := by unfold Hid rd; rw [if_pos h1]
    go_enter Tryz.func168, Tryz.ntmps168
    go_wp2_with fail
    refine (place_big s a _ hs h1).mono ?_
    rintro e w' ⟨rfl, hw⟩
    subst w'
    go_wp2
    go_ret3
    exact ⟨by rw [HE.out]; rfl, rfl⟩
  · by_cases h2 : a < 0
    · have HE : Hid (rd s a = (0, 0, 1)) := by unfold Hid rd; rw [if_neg h1, if_pos h2]
      go_enter Tryz.func168, Tryz.ntmps168
      go_wp2_with fail
      refine (place_neg s a _ h1 h2).mono ?_
      rintro e w' ⟨rfl, hw⟩
      subst w'
      go_wp2
      go_ret3
      exact ⟨by rw [HE.out]; rfl, rfl⟩
    · obtain ⟨n, rfl⟩ := Int.eq_ofNat_of_zero_le (show 0 ≤ a from by omega)
      have HE : Hid (rd s (n : Int) = (unz (numR s n).1, (numR s n).2.1, (numR s n).2.2)) := by unfold Hid rd; rw [if_neg h1, if_neg h2, Int.toNat_natCast]
      have hb : (numR s n).1 ≤ 18446744073709551615 := run_bound s 10 0 n 0 (by decide) (by decide)
      go_enter Tryz.func168, Tryz.ntmps168
      go_wp2_with fail
      refine (place_ok s n _ h1 (by omega)).mono ?_
      rintro e w' ⟨rfl, hw⟩
      subst w'
      go_wp2_with fail
      refine (bits_any s n _ (by omega)).mono ?_
      generalize numR s n = r at HE hb ⊢
      obtain ⟨u, p, c⟩ := r
      simp only [bitsV] at HE hb ⊢
      generalize hev : errV c = ev
      have HEV := hide hev
      clear hev
      rintro e w' ⟨rfl, hw⟩
      subst w'
      go_wp2_with fail
      refine (unfold_any u _ hb).mono ?_
      rintro e w' ⟨rfl, hw⟩
      subst w'
      go_wp2
      go_ret3
      exact ⟨by rw [HE.out, ← HEV.out]; rfl, rfl⟩
def handle : Value := .iface 178 (.agg #[.pointer (some ⟨4, 72, none⟩)])
set_option maxHeartbeats 1000000 in
theorem code_any (c : Int) (w : World) (hg : w.cell? ⟨3, 0, none⟩ = some handle) :
    Calls Tryz.prog 186 #[.iface 233 (.agg #[.int .i64 c])] w fun e w' => e = .returned (.int .i64 c) ∧ Below w.heap.size w w' := by
  have hlt : 3 < w.heap.size := by
    rcases Nat.lt_or_ge 3 w.heap.size with h | h
    · exact h
    · simp [World.cell?, Array.getElem?_eq_none h] at hg
  have hgA : (w.alloc (.cells #[.int .i64 0] 233)).cell? ⟨3, 0, none⟩ = some handle := by
    rw [World.cell?_alloc_lt _ _ ⟨3, 0, none⟩ hlt]; exact hg
  have htA : (w.alloc (.cells #[.int .i64 0] 233)).cell? ⟨w.heap.size, 0, none⟩ = some (.int .i64 0) := by simp
  have hfA : (w.alloc (.cells #[.int .i64 0] 233)).frozen? ⟨w.heap.size, 0, none⟩ = false := by simp
  go_enter Tryz.func186, Tryz.ntmps186
  go_wp2_with fail
  refine (as_hit c _ (.int .i64 0) _ hgA htA hfA).mono ?_
  rintro e w' ⟨rfl, rfl⟩
  go_wp2
  go_ret
  exact ⟨rfl, (((((Below.refl _ _).alloc (Nat.le_refl _) _).alloc (by simp) _).alloc (by simp; omega) _).alloc (by simp; omega) _).alloc (by simp; omega) _⟩
theorem getV_rd (s : ByteArray) (a : Int) : getV s a = if (rd s a).2.2 = 0 then outN (rd s a).1 (rd s a).2.1 0 else outN 0 0 (rd s a).2.2 := by
  unfold getV rd
  split
  · rfl
  · split
    · rfl
    · rfl
theorem bcell {W w1 : World} (hb : Below W.heap.size W w1) : (∀ b o, b < W.heap.size → w1.cell? ⟨b, o, none⟩ = W.cell? ⟨b, o, none⟩) ∧ (∀ b o, b < W.heap.size → w1.frozen? ⟨b, o, none⟩ = W.frozen? ⟨b, o, none⟩) :=
  ⟨fun b o h => hb.cell (p := ⟨b, o, none⟩) h, fun b o h => hb.frozen (p := ⟨b, o, none⟩) h⟩
theorem lt_of_handle {w : World} (hg : w.cell? ⟨3, 0, none⟩ = some handle) : 3 < w.heap.size := by
  rcases Nat.lt_or_ge 3 w.heap.size with h | h
  · exact h
  · simp [World.cell?, Array.getElem?_eq_none h] at hg
theorem handle_alloc {w : World} (o : Obj) (hg : w.cell? ⟨3, 0, none⟩ = some handle) : (w.alloc o).cell? ⟨3, 0, none⟩ = some handle := by
  rw [World.cell?_alloc_lt _ _ ⟨3, 0, none⟩ (lt_of_handle hg)]; exact hg
set_option maxHeartbeats 1000000 in
theorem get_impl (s : ByteArray) (a : Int) (w : World) (hs : s.size ≤ maxLen) (hg : w.cell? ⟨3, 0, none⟩ = some handle) :
    Calls Tryz.prog 134 #[.string s, .int .i64 a] w fun e w' => e = .returned (getV s a) ∧ Below w.heap.size w w' := by
  have HV := hide (getV_rd s a)
  have HG := hide hg
  clear hg
  by_cases h0 : (rd s a).2.2 = 0
  · go_enter Tryz.func134, Tryz.ntmps134
    go_wp2_with fail
    refine (read_any s a _ hs).mono ?_
    generalize rd s a = r at HV h0 ⊢
    obtain ⟨n, p, c⟩ := r
    simp only at HV h0 ⊢
    subst h0
    rintro e w' ⟨rfl, hw⟩
    subst w'
    simp only [errV, if_pos]
    go_wp2
    refine bodyPost_ret (v := outN n p 0) (by simp [results, outN, Tryz.results134, go_sem]) rfl ⟨by rw [HV.out]; rfl, (Below.refl _ _).alloc (Nat.le_refl _) _⟩
  · go_enter Tryz.func134, Tryz.ntmps134
    go_wp2_with fail
    refine (read_any s a _ hs).mono ?_
    generalize rd s a = r at HV h0 ⊢
    obtain ⟨n, p, c⟩ := r
    simp only at HV h0 ⊢
    have H0 := hide h0
    rintro e w' ⟨rfl, hw⟩
    subst w'
    simp only [errV, if_neg h0]
    clear h0
    go_wp2_with fail
    refine (code_any c _ (handle_alloc _ HG.out)).mono ?_
    rintro e w1 ⟨rfl, hb1⟩
    obtain ⟨hc1, hf1⟩ := bcell hb1
    go_wp2
    refine bodyPost_ret (v := outN 0 0 c) (by simp [results, outN, Tryz.results134, go_sem, hc1]) rfl ⟨by rw [HV.out, if_neg H0.out], ?_⟩
    exact ((((Below.refl w.heap.size w).alloc (Nat.le_refl _) _).trans (hb1.mono (by simp))).setCell (Nat.le_refl _) _ |>.setCell (Nat.le_refl _) _).setCell (Nat.le_refl _) _
end Go.Proofs.YtjdlgpnhkfdehaaGreatDoor.Gn


/- The walk of impl.cutText: it answers the piece of the text from a place to a place, and writes nothing that was there. -/
namespace Go.Proofs.YtjdlgpnhkfdehaaGreatDoor.Nu
open Go.RowKit
set_option maxRecDepth 100000 in
set_option maxHeartbeats 1000000 in
theorem cut_any (s : ByteArray) (i j : Nat) (w : World) (hs : s.size ≤ 1048576) (hij : i ≤ j) (hj : j ≤ s.size) :
    Calls Tryz.prog 67 #[.string s, .int .i64 i, .int .i64 j] w fun e w' => e = .returned (.string (s.extract i j)) ∧ Below w.heap.size w w' := by
  obtain ⟨i0, hi, hz0, hz1, hz2⟩ := info_parts Tryz.infoJ5
  go_enter Tryz.func67, Tryz.ntmps67
  go_wp2_with (at_make; refine wpList_make_full _ rfl (.tmp 10) (.tmp 10) 22 rfl w.heap.size 5 i0 (.int .u8 0) 1 Tryz.underlying22 hi hz0 hz1 .i64 .i64 _ _ (j - i) rfl rfl (by omega) (by omega) (by rw [hz2]; omega) (by unfold maxLen; omega) (Nat.le_refl _) ?_; intro w1 hown1 hgrow1; obtain ⟨cur, hblk, hlen⟩ := made_block hown1; have hbel1 := (Below.refl w.heap.size w).grown hgrow1 (Nat.le_refl _) (by simp); obtain ⟨w2, c1, c2, hb2⟩ := cut_facts (P := Tryz.prog) (ty := 3) (sT := 9) (a := s.extract i j) Tryz.underlying22 Tryz.underlying5 Tryz.underlying9 Tryz.sizeJ5 hblk hlen (by simp; omega) hbel1; clear hown1 hgrow1 hblk hlen hbel1)
  go_ret
  exact ⟨rfl, by assumption⟩
end Go.Proofs.YtjdlgpnhkfdehaaGreatDoor.Nu


/- The walk of impl.GetText: it answers Gn.textV of its text and place, and writes nothing that was there. -/
namespace Go.Proofs.YtjdlgpnhkfdehaaGreatDoor.Gn
open Go.RowKit
def rt (s : ByteArray) (a : Int) : ByteArray × Nat × Int :=
  if (rd s a).2.2 ≠ 0 then (⟨#[]⟩, 0, (rd s a).2.2)
  else if (rd s a).1 < 0 ∨ 8000 < (rd s a).1 then (⟨#[]⟩, 0, 3)
  else if s.size < (rd s a).2.1 + (rd s a).1.toNat then (⟨#[]⟩, 0, 4)
  else (s.extract (rd s a).2.1 ((rd s a).2.1 + (rd s a).1.toNat), (rd s a).2.1 + (rd s a).1.toNat, 0)
def outT (t : ByteArray) (at_ code : Int) : Value := .agg #[.string t, .int .i64 at_, .int .i64 code]
def textV (s : ByteArray) (a : Int) : Value := outT (rt s a).1 (rt s a).2.1 (rt s a).2.2
def tupV (r : ByteArray × Nat × Int) : Value := .tuple #[.string r.1, .int .i64 r.2.1, errV r.2.2]
end Go.Proofs.YtjdlgpnhkfdehaaGreatDoor.Gn


/- The walks of spec.PutText and impl.PutText (each answers Nu.putT of its text). -/
namespace Go.Proofs.YtjdlgpnhkfdehaaGreatDoor.Nu
open Go.RowKit
def putT (t : ByteArray) : ByteArray := if t.size ≤ 8000 then putS (t.size : Int) ++ t else ⟨#[]⟩
theorem putS_size (n : Int) : (putS n).size ≤ 10 := by
  have := (numB_length (zz n)).1
  simpa [putS, ByteArray.size] using this
end Go.Proofs.YtjdlgpnhkfdehaaGreatDoor.Nu

