/- Texts put together: FrontBS, BwtSpec, UnbSpec, UnbSpec2. -/
import Derived.Test.YtjdlgpnhkfdehaaGreatDoorBu33
import Derived.Test.YtjdlgpnhkfdehaaGreatDoorBu10
import Derived.Test.YtjdlgpnhkfdehaaGreatDoorBu37
import Derived.Test.YtjdlgpnhkfdehaaGreatDoorBu17
/- What the specification's FrontBack answers. -/
namespace Go.Proofs.YtjdlgpnhkfdehaaGreatDoor.Fr
open Go.RowKit
open Go.Proofs.YtjdlgpnhkfdehaaGreatDoor.Sh (IsB rowF upd made_row strF)
open Go.Proofs.YtjdlgpnhkfdehaaGreatDoor.Ze (hideZ numsR upTo upTo_yes numsR_of numsR_long numsR_yes nums_spec)
open Go.Proofs.YtjdlgpnhkfdehaaGreatDoor.St (Aft)
open Go.Proofs.YtjdlgpnhkfdehaaGreatDoor.In (Ints)
open Go.Proofs.YtjdlgpnhkfdehaaGreatDoor.Nu (ret_strJ bv own_string app_below)
open Go.Proofs.YtjdlgpnhkfdehaaGreatDoor.Ap (Own0 wpList_append_own0)
def Own0B (w : World) (base : Nat) (v : Value) (l : List UInt8) : Prop := Own0 w base 5 1 v l.length (l.map bv)
theorem own0_string {P : Program} {w : World} {base src dst : TypeId} {v : Value} (l : List UInt8) (h : Own0B w base v l)
    (hs : P.underlying src = some (.slice 5)) (he : P.underlying 5 = some (.int .u8)) (hd : P.underlying dst = some .string) :
    (convert src dst v).run P w = .ok (.string ⟨l.toArray⟩) w := by
  rcases h with ⟨b, rfl, h0, _⟩ | h
  · obtain rfl : l = [] := List.eq_nil_of_length_eq_zero h0
    exact run_convert_bytes_back w src dst 5 b 0 [] hs he hd (by intro j hj; exact absurd hj (Nat.not_lt_zero j))
  · exact own_string l h hs he hd
theorem one_newB (W : World) (s : Int) (t : TypeId) : ∀ (j : Nat) (u : Value), [(Value.int .u8) s][j]? = some u → (W.alloc (.cells #[.int .u8 s] t)).cell? ((⟨W.heap.size, 0, none⟩ : Addr).add j) = some u := by
  intro j u hj
  match j, hj with
  | 0, hj => simp at hj; subst hj; simp [Addr.add]
theorem one_cellB (s : Int) : ∀ u ∈ [(Value.int .u8) s], u.oneCell' = true := by
  intro u hu
  simp at hu
  subst hu
  rfl
theorem own0B_snoc {w : World} {base : Nat} {v : Value} {l : List UInt8} {x : Int} (h0 : 0 ≤ x) (h1 : x < 256) (h : w.ownsRow base 5 1 v (l.length + 1) (l.map bv ++ [.int .u8 x])) : Own0B w base v (l ++ [UInt8.ofNat x.toNat]) := by
  refine .inr ?_
  have e : bv (UInt8.ofNat x.toNat) = .int .u8 x := by
    simp [bv]
    omega
  rw [List.length_append, List.map_append, List.map_singleton, e]
  exact h
set_option maxRecDepth 100000 in
set_option maxHeartbeats 1000000 in
theorem frontBack_spec (l : List Int) (a : Option Addr) (cap B : Nat) (w : World) (hi : Ints w B a l) (hB : B ≤ w.heap.size) (hn : l.length ≤ 1048576) :
    Calls Tryz.prog 128 #[.slice a l.length cap] w fun e w' => e = .returned (.string ⟨(fbackR l).toArray⟩) ∧ Below w.heap.size w w' := by
  obtain ⟨i0, hi0, hz0, hz1, hz2⟩ := info_parts Nu.Tryz.infoJ5
  have HS := hideZ (hi.mono hB)
  have HU := hideZ (fun W (hW : Below w.heap.size w W) => nums_spec l 255 a cap w.heap.size W ((hi.mono hB).below hW) hn)
  have hb0 : Below w.heap.size w (w.alloc (.cells #[] 5)) := (Below.refl _ _).alloc (Nat.le_refl _) _
  have HB0 := hideZ hb0
  have HRS := hideZ (row_spec (w.alloc (.cells #[] 5)))
  have zs : (w.alloc (.cells #[] 5)).heap.size = w.heap.size + 1 := by simp
  rw [zs] at HRS
  clear hi hb0 zs
  cases hu : numsR l 255 with
  | false =>
    rw [fbackR_no hu]
    rw [hu] at HU
    clear hu
    generalize l.length = n at HU hn ⊢
    go_enter Tryz.func128, Tryz.ntmps128
    go_wp2_with fail
    refine HRS.out.mono ?_
    rintro e w1 ⟨rfl, hr1, hb1⟩
    have HB1 := hideZ (HB0.out.trans (hb1.mono (by omega)))
    have H0 : Hid (Own0B w1 (w.heap.size + 2) (.slice (some ⟨w.heap.size, 0, none⟩) 0 0) []) := .inl ⟨_, rfl, rfl, rfl⟩
    have hcv := own0_string (P := Tryz.prog) (src := 22) (dst := 9) [] H0.out Tryz.underlying22 Tryz.underlying5 Tryz.underlying9
    clear hr1 hb1
    by_cases h0 : 0 < n
    · have hd0 : decide ((0 : Int) < (n : Int)) = true := decide_eq_true (by omega)
      go_wp2_with fail
      go_loopw [5, 3] (fun i u wr => i = .int .i64 0 ∧ u = .slice (some ⟨w.heap.size, 0, none⟩) 0 0 ∧ wr = w1) (fun _ _ _ => 0)
      case atStart => exact ⟨rfl, rfl, rfl⟩
      case round =>
        obtain ⟨rfl, rfl, rfl⟩ := hrel
        go_wp2_with fail
        refine (HU.out _ HB1.out).mono ?_
        rintro e w' ⟨rfl, hw⟩
        subst w'
        go_wp2_with fail
        go_ret
        exact ⟨rfl, HB1.out⟩
    · have hd0 : decide ((0 : Int) < (n : Int)) = false := decide_eq_false (by omega)
      go_wp2_with fail
      go_loopw [5, 3] (fun i u wr => i = .int .i64 0 ∧ u = .slice (some ⟨w.heap.size, 0, none⟩) 0 0 ∧ wr = w1) (fun _ _ _ => 0)
      case atStart => exact ⟨rfl, rfl, rfl⟩
      case round =>
        obtain ⟨rfl, rfl, rfl⟩ := hrel
        go_wp2_with fail
        go_ret
        exact ⟨rfl, HB1.out⟩
  | true =>
    rw [fbackR_yes hu]
    have HUP := hideZ (upTo_yes (numsR_yes hu).2)
    have hlong := (numsR_yes hu).1
    rw [hu] at HU
    clear hu
    obtain ⟨n, hln⟩ : ∃ n, n = l.length := ⟨_, rfl⟩
    have HLN := hideZ hln
    rw [← hln] at HU hlong ⊢
    clear hln hn
    go_enter Tryz.func128, Tryz.ntmps128
    go_wp2_with fail
    refine HRS.out.mono ?_
    rintro e w1 ⟨rfl, hr1, hb1⟩
    have HB1 := hideZ (HB0.out.trans (hb1.mono (by omega)))
    have HR1 := hideZ hr1
    have hg1 := hr1.lt
    clear hr1 hb1 HRS
    go_wp2_with fail
    go_loopw [5, 3] (fun i u wr => ∃ k : Nat, i = .int .i64 k ∧ k ≤ n ∧ IsB wr (w.heap.size + 1) 5 .u8 256 (kst (l.take k)).2 ∧ Own0B wr (w.heap.size + 2) u (kst (l.take k)).1 ∧ Below w.heap.size w wr) (fun i _ _ => n - (intOf i).toNat)
    case atStart => exact ⟨0, rfl, Nat.zero_le _, HR1.out, .inl ⟨_, rfl, rfl, rfl⟩, HB1.out⟩
    case round =>
      obtain ⟨k, rfl, hk, hrow, hown, hbel⟩ := hrel
      obtain ⟨hfull, hlen⟩ := kst_full l HUP.out k (by have := HLN.out; omega)
      have R1 := hideZ hrow
      have O1 := hideZ hown
      have GB := hideZ hbel
      have hgs := hrow.lt
      clear hbel
      by_cases hlt : k < n
      · have hd0 : decide ((k : Int) < (n : Int)) = true := decide_eq_true (by omega)
        have hkl : k < l.length := by rw [← HLN.out]; exact hlt
        obtain ⟨b, off, rfl, hb, hc⟩ := (HS.out.below GB.out).some (by omega)
        have ci := hc k hkl
        have HC : Hid (∀ W : World, Below w.heap.size w W → W.cell? ⟨b, off + k, none⟩ = some (.int .i64 l[k])) := fun W hW => by
          obtain ⟨b', off', e1, _, hc'⟩ := ((HS.out.below hW).some (by omega : 0 < l.length))
          cases e1
          exact hc' k hkl
        have hx255 := HUP.out _ (List.getElem_mem hkl)
        have HM := hideZ (kst_more hkl)
        obtain ⟨x, hx⟩ : ∃ x, x = l[k] := ⟨_, rfl⟩
        rw [← hx] at ci hx255 HM HC
        obtain ⟨p, rfl⟩ : ∃ p : Nat, x = p := ⟨x.toNat, by omega⟩
        have hp : p < 256 := by omega
        have hfp := hfull.2 p hp
        rw [Int.toNat_natCast] at HM
        obtain ⟨f, hf⟩ : ∃ f, f = (kst (l.take k)).2 := ⟨_, rfl⟩
        obtain ⟨bs, hbs⟩ : ∃ bs, bs = (kst (l.take k)).1 := ⟨_, rfl⟩
        rw [← hf] at R1 HM hrow hfp
        rw [← hbs] at O1 HM hlen hown
        have c1 := hrow.cell (j := p) hp
        obtain ⟨y, hy⟩ : ∃ y, y = f p := ⟨_, rfl⟩
        rw [← hy] at c1 hfp HM
        have HFP := hideZ hfp
        have HL := hideZ hlen
        clear hc hx hf hbs hrow hown hfull hlen hy hfp
        go_wp2_with fail
        refine (HU.out _ GB.out).mono ?_
        rintro e w' ⟨rfl, hw⟩
        subst w'
        go_wp2_with (at_builtin; refine wpList_append_own0 _ rfl (.tmp 18) (.tmp 26) 22 rfl (w.heap.size + 2) 5 i0 (.int .u8 0) 1 1 Tryz.underlying22 hi0 hz0 hz1 hz2 rfl (by decide) _ bs.length (bs.map bv) rfl (Own0.alloc O1.out _) ⟨wr.heap.size, 0, none⟩ 1 1 [.int .u8 y] rfl rfl (one_newB _ _ _) (one_cellB _) (by decide) (by unfold maxLen; have := HL.out; omega) (by have := HL.out; omega) (by simp; omega) ?_)
        intro v' w5 hown' hb5
        have N5 := hideZ (own0B_snoc HFP.out.1 HFP.out.2 hown')
        have ba : Below (w.heap.size + 2) wr w5 := ((Below.refl (w.heap.size + 2) wr).alloc (by omega) _).trans (hb5 _ (Nat.le_refl _))
        have R5 := hideZ (R1.out.below ba (by omega))
        have B5 := hideZ (GB.out.trans (ba.mono (by omega)))
        have c5 := HC.out w5 B5.out
        have HFS := hideZ (front_spec (w.heap.size + 1) p 256 5 f w5 R5.out hp)
        have z5 := ba.size
        clear hown' hb5 ba ci c1
        go_wp2_with fail
        refine HFS.out.mono ?_
        rintro e w6 ⟨rfl, hr6, ha6⟩
        have R6 := hideZ hr6
        have N6 := hideZ (N5.out.keep (fun j hj1 hj2 => ha6.2.2.2.2 j hj2 (by omega)))
        have B6 := hideZ (Aft.below B5.out ha6 (by omega) (by omega))
        clear hr6 ha6
        go_wp2_with fail
        go_roundw
        case rel => exact ⟨k + 1, by go_num, by omega, by rw [HM.out]; exact R6.out, by rw [HM.out]; exact N6.out, B6.out⟩
        case measure => simp [intOf]; omega
      · have hd0 : decide ((k : Int) < (n : Int)) = false := decide_eq_false (by omega)
        obtain rfl : k = n := by omega
        have HT : Hid (l.take k = l) := by
          unfold Hid
          rw [HLN.out, List.take_length]
        rw [HT.out] at hown
        have hcv := own0_string (P := Tryz.prog) (src := 22) (dst := 9) _ hown Tryz.underlying22 Tryz.underlying5 Tryz.underlying9
        clear hrow hown hfull hlen
        go_wp2_with fail
        go_ret
        exact ⟨rfl, GB.out⟩
end Go.Proofs.YtjdlgpnhkfdehaaGreatDoor.Fr


/- What the specification's Bwt answers. -/
namespace Go.Proofs.YtjdlgpnhkfdehaaGreatDoor.So
open Go.RowKit Go.Sort Go.Proofs
open Go.Proofs.YtjdlgpnhkfdehaaGreatDoor.Sh (bt bt_get bt_lt strF IsB made_row)
open Go.Proofs.YtjdlgpnhkfdehaaGreatDoor.In (OwnI Ints)
open Go.Proofs.YtjdlgpnhkfdehaaGreatDoor.Nu (bv)
open Go.Proofs.YtjdlgpnhkfdehaaGreatDoor.Ap (Own0 wpList_append_own0)
open Go.Proofs.YtjdlgpnhkfdehaaGreatDoor.Fr (Own0B own0_string one_newB one_cellB own0B_snoc)
def blB (t : ByteArray) (f : Nat → Nat) (k : Nat) : List UInt8 := (List.range k).map fun j => UInt8.ofNat (lastB t (f j))
theorem blB_len (t : ByteArray) (f : Nat → Nat) (k : Nat) : (blB t f k).length = k := by simp [blB]
theorem blB_snoc (t : ByteArray) (f : Nat → Nat) (k : Nat) : blB t f (k + 1) = blB t f k ++ [UInt8.ofNat (((lastB t (f k) : Nat) : Int)).toNat] := by
  unfold blB
  rw [List.range_succ, List.map_append]
  rfl
set_option maxRecDepth 100000 in
set_option maxHeartbeats 1000000 in
theorem l05Bwt_spec (t : ByteArray) (w : World) (ht : t.size ≤ 48) :
    Calls Tryz.prog 170 #[.string t] w fun e w' => e = .returned (.tuple #[.string (bwtT t), .int .i64 (bwtA t : Nat)]) ∧ Below w.heap.size w w' := by
  obtain ⟨i0, hi0, hz0, hz1, hz2⟩ := info_parts Nu.Tryz.infoJ5
  have HOS := hideO (order_spec t w ht)
  go_enter Tryz.func170, Tryz.ntmps170
  go_wp2_with fail
  refine HOS.out.mono ?_
  rintro e w1 ⟨v, l, rfl, ho, hok, _, hb⟩
  have HE := hideO (bwt_yes ht (fun j hj => rfl) (f := ordF t))
  have hlen : l.length = t.size := by have := hok.1.length_eq; simpa using this
  have HLen := hideO hlen
  have HOR : Hid (∀ k (h : k < l.length), ordF t k = l[k] ∧ l[k] < t.size) := fun k h => ⟨ordF_list hok k h, by
    have := hok.1.mem_iff.1 (List.getElem_mem h)
    simpa using this⟩
  obtain ⟨a, cap, rfl, hcap, hI⟩ := ho.ints
  have HI := hideO hI
  rw [ints_len, hlen] at hcap ⊢
  have HB1 := hideO hb
  have z1 := hb.size
  clear ho hok hb hI hlen
  go_wp2_with fail
  go_loopw [7, 5, 6] (fun i u m wr => ∃ k : Nat, i = .int .i64 k ∧ k ≤ t.size ∧ m = .int .i64 (atK (ordF t) k : Nat) ∧ Own0B wr (w1.heap.size + 1) u (blB t (ordF t) k) ∧ w1.heap.size < wr.heap.size ∧ Below w1.heap.size w1 wr) (fun i _ _ _ => t.size - (intOf i).toNat)
  case atStart => exact ⟨0, rfl, Nat.zero_le _, rfl, .inl ⟨_, rfl, rfl, rfl⟩, by simp, (Below.refl _ _).alloc (Nat.le_refl _) _⟩
  case round =>
    obtain ⟨k, rfl, hk, rfl, hown, hgs, hbel⟩ := hrel
    have O1 := hideO hown
    have GB := hideO hbel
    clear hbel
    by_cases hlt : k < t.size
    · have hd0 : decide ((k : Int) < (t.size : Int)) = true := decide_eq_true (by omega)
      have hkz : (k : Int) < (t.size : Int) := by omega
      have hkl : k < l.length := by rw [HLen.out]; exact hlt
      have hkl' : k < (ints l).length := by rw [ints_len]; exact hkl
      obtain ⟨b, off, rfl, hb, hc⟩ := (HI.out.below GB.out).some (by omega)
      have ci := hc k hkl'
      have HC : Hid (∀ W : World, Below w1.heap.size w1 W → W.cell? ⟨b, off + k, none⟩ = some (.int .i64 (ints l)[k])) := fun W hW => by
        obtain ⟨b', off', e1, _, hc'⟩ := ((HI.out.below hW).some (by omega : 0 < (ints l).length))
        cases e1
        exact hc' k hkl'
      have ey : (ints l)[k] = ((l[k] : Nat) : Int) := by simp [ints]
      rw [ey] at ci HC
      obtain ⟨ho1, hxt⟩ := HOR.out k hkl
      have HN := hideO (blB_snoc t (ordF t) k)
      have HA := hideO (atK_next (ordF t) k)
      rw [ho1] at HN HA
      obtain ⟨x, hx⟩ : ∃ x, x = l[k] := ⟨_, rfl⟩
      rw [← hx] at ci HC hxt HN HA
      obtain ⟨s, hs⟩ : ∃ s, s = x + t.size - 1 := ⟨_, rfl⟩
      obtain ⟨r, hr⟩ : ∃ r, r = s % t.size := ⟨_, rfl⟩
      have hrt : r < t.size := by rw [hr]; exact Nat.mod_lt _ (by omega)
      have e1 : (x : Int) + (t.size : Int) - 1 = (s : Int) := by omega
      have e2 : (s : Int).tmod (t.size : Int) = (r : Int) := by rw [Int.tmod_eq_emod_of_nonneg (by omega), hr, Int.natCast_emod]
      have hwp : IntKind.i64.wrap (s : Int) = (s : Int) := by rw [IntKind.wrap_i64]; omega
      have hwr : IntKind.i64.wrap (r : Int) = (r : Int) := by rw [IntKind.wrap_i64]; omega
      have hrz : (r : Int) < (t.size : Int) := by omega
      have htn : ¬ ((t.size : Int) = 0) := by omega
      obtain ⟨y, hy, hyt⟩ : ∃ y : UInt8, t[r] = y ∧ y.toNat = lastB t x := ⟨_, rfl, by rw [bt_get]; unfold lastB; rw [hr, hs]⟩
      rw [← hyt] at HN
      have HBL := hideO (blB_len t (ordF t) k)
      obtain ⟨bs, hbs⟩ : ∃ bs, bs = blB t (ordF t) k := ⟨_, rfl⟩
      rw [← hbs] at O1 HN HBL
      obtain ⟨m, hm⟩ : ∃ m, m = atK (ordF t) k := ⟨_, rfl⟩
      rw [← hm] at HA ⊢
      have hmk : m ≤ k := by rw [hm]; exact atK_le _ _
      clear hc ey hown ho1 hx hs hr hyt hbs hm
      have HY := hideO (UInt8.toNat_lt y)
      go_wp2_with (at_builtin; refine wpList_append_own0 _ rfl (.tmp 17) (.tmp 31) 22 rfl (w1.heap.size + 1) 5 i0 (.int .u8 0) 1 1 Tryz.underlying22 hi0 hz0 hz1 hz2 rfl (by decide) _ bs.length (bs.map bv) rfl (Own0.alloc O1.out _) ⟨wr.heap.size, 0, none⟩ 1 1 [.int .u8 (y.toNat : Nat)] rfl rfl (one_newB _ _ _) (one_cellB _) (by decide) (by unfold maxLen; have := HBL.out; omega) (by have := HBL.out; omega) (by simp; omega) ?_)
      intro v' w5 hown' hb5
      have N5 := hideO (own0B_snoc (by omega) (by have := HY.out; omega) hown')
      have ba : Below (w1.heap.size + 1) wr w5 := ((Below.refl (w1.heap.size + 1) wr).alloc (by omega) _).trans (hb5 _ (Nat.le_refl _))
      have B5 := hideO (GB.out.trans (ba.mono (by omega)))
      have c5 := HC.out w5 B5.out
      have z5 := ba.size
      clear hown' hb5 ba ci
      by_cases hx0 : x = 0
      · subst hx0
        have HM := hideO (HA.out.1 rfl)
        go_wp2_with fail
        go_roundw
        case rel => exact ⟨k + 1, by go_num, by omega, by rw [HM.out], by rw [HN.out]; exact N5.out, by omega, B5.out⟩
        case measure => simp [intOf]; omega
      · have HM := hideO (HA.out.2 hx0)
        have hxz : ((x : Int) == 0) = false := by simpa using hx0
        go_wp2_with fail
        go_roundw
        case rel => exact ⟨k + 1, by go_num, by omega, by rw [HM.out], by rw [HN.out]; exact N5.out, by omega, B5.out⟩
        case measure => simp [intOf]; omega
    · have hd0 : decide ((k : Int) < (t.size : Int)) = false := decide_eq_false (by omega)
      obtain rfl : k = t.size := by omega
      have hcv := own0_string (P := Tryz.prog) (src := 22) (dst := 9) _ hown Tryz.underlying22 Tryz.underlying5 Tryz.underlying9
      have HQ : Hid ((⟨(blB t (ordF t) t.size).toArray⟩ : ByteArray) = bwtT t) := HE.out.1.symm
      have HQ2 : Hid (atK (ordF t) t.size = bwtA t) := HE.out.2.1.symm
      rw [HQ.out] at hcv
      rw [HQ2.out]
      have BZ := hideO (HB1.out.trans (GB.out.mono z1))
      clear hown
      go_wp2_with fail
      refine bodyPost_ret (v := .tuple #[.string (bwtT t), .int .i64 (bwtA t : Nat)]) (by simp [results, Tryz.results170, go_sem]) rfl ⟨rfl, BZ.out⟩
end Go.Proofs.YtjdlgpnhkfdehaaGreatDoor.So


/- What the specification's l05Back answers. -/
namespace Go.Proofs.YtjdlgpnhkfdehaaGreatDoor.So
open Go.RowKit Go.Sort Go.Proofs
open Go.Proofs.YtjdlgpnhkfdehaaGreatDoor.Sh (bt bt_get bt_lt strF IsB)
open Go.Proofs.YtjdlgpnhkfdehaaGreatDoor.In (OwnI Ints one_newI one_cellI)
open Go.Proofs.YtjdlgpnhkfdehaaGreatDoor.In.Tryz (infoI2)
open Go.Proofs.YtjdlgpnhkfdehaaGreatDoor.Nu (bv)
open Go.Proofs.YtjdlgpnhkfdehaaGreatDoor.Ap (Own0 wpList_append_own0)
open Go.Proofs.YtjdlgpnhkfdehaaGreatDoor.Fr (Own0B own0_string one_newB one_cellB own0B_snoc)
theorem wrap_byte (y : UInt8) : wrap64 ((y.toNat : Nat) : Int) = ((y.toNat : Nat) : Int) := by
  have h := UInt8.toNat_lt y
  generalize y.toNat = n at h
  simp only [wrap64]
  omega
set_option maxRecDepth 100000 in
set_option maxHeartbeats 2000000 in
theorem l05Back_spec (t : ByteArray) (a : Nat) (w : World) (ht : t.size ≤ 48) (ha : a < t.size ∨ t.size = 0) :
    Calls Tryz.prog 179 #[.string t, .int .i64 a] w fun e w' => e = .returned (.string (backT t a)) ∧ Below w.heap.size w w' := by
  obtain ⟨i0, hi0, hz0, hz1, hz2⟩ := info_parts Nu.Tryz.infoJ5
  obtain ⟨i1, hi1, hy0, hy1, hy2⟩ := info_parts infoI2
  have HW := hideO (Ze.OwnI.empty w)
  go_enter Tryz.func179, Tryz.ntmps179
  go_wp2_with fail
  go_loopw [6, 5] (fun i u wr => ∃ b : Nat, i = .int .i64 b ∧ b ≤ 256 ∧ OwnI wr w.heap.size u (ints (plK t b)) ∧ Below w.heap.size w wr) (fun i _ _ => 256 - (intOf i).toNat)
  case atStart => exact ⟨0, rfl, by omega, HW.out, (Below.refl _ _).alloc (Nat.le_refl _) _⟩
  case round =>
    obtain ⟨b, rfl, hb, hown, hbel⟩ := hrel
    have O1 := hideO hown
    have GB := hideO hbel
    have hsz := hbel.size
    clear hbel
    by_cases hb2 : b < 256
    · have hbz : (b : Int) < 256 := by omega
      clear hown
      go_wp2_with fail
      go_loopw [7, 5] (fun i u wr => ∃ k : Nat, i = .int .i64 k ∧ k ≤ t.size ∧ OwnI wr w.heap.size u (ints (plK t b ++ plB t b k)) ∧ Below w.heap.size w wr) (fun i _ _ => t.size - (intOf i).toNat)
      case atStart => exact ⟨0, rfl, Nat.zero_le _, by rw [show plK t b ++ plB t b 0 = plK t b by simp [plB]]; exact O1.out, GB.out⟩
      case round =>
        obtain ⟨k, rfl, hk, hown, hbel⟩ := hrel
        have O2 := hideO hown
        have GB2 := hideO hbel
        have hsz2 := hbel.size
        obtain ⟨a', cap', rfl, _, _⟩ := hown.ints
        have HLL : Hid ((ints (plK t b ++ plB t b k)).length ≤ 256 * 48 + 48) := by
          unfold Hid
          rw [ints_len, List.length_append]
          have h1 := plK_len t b
          have h2 := plB_len t b k
          have h3 : b * t.size ≤ 256 * 48 := Nat.mul_le_mul hb ht
          omega
        have HYB := hideO (plB_yes t b k)
        have HNB := hideO (plB_no t b k)
        clear hown hbel
        by_cases hlt : k < t.size
        · have hkz : (k : Int) < (t.size : Int) := by omega
          obtain ⟨y, hy, hyt⟩ : ∃ y : UInt8, t[k] = y ∧ y.toNat = bt t k := ⟨_, rfl, bt_get _ _ hlt⟩
          by_cases hq : bt t k = b
          · have hyb : (wrap64 ((y.toNat : Nat) : Int) == (b : Int)) = true := by rw [wrap_byte]; exact beq_iff_eq.2 (by omega)
            have HN : Hid (ints (plK t b ++ plB t b (k + 1)) = ints (plK t b ++ plB t b k) ++ [(k : Int)]) := by
              unfold Hid
              rw [HYB.out hq, ← List.append_assoc, ints_snoc]
            obtain ⟨L, hL⟩ : ∃ L, L = ints (plK t b ++ plB t b k) := ⟨_, rfl⟩
            rw [← hL] at O2 HLL HN ⊢
            clear hyt hq hL HYB HNB
            go_wp2_with (at_builtin; refine wpList_append_own _ rfl (.tmp 27) (.tmp 29) 97 rfl w.heap.size 2 i1 (.int .i64 0) 1 8 Tryz.underlying97 hi1 hy0 hy1 hy2 rfl (by decide) _ L.length (L.map (Value.int .i64)) rfl ?own ⟨wr.heap.size, 0, none⟩ 1 1 [.int .i64 (k : Nat)] rfl rfl (one_newI _ _ _) (one_cellI _) (by unfold maxLen; have := HLL.out; omega) (by have := HLL.out; omega) (by simp; omega) ?_)
            case own => exact Ze.OwnI.alloc O2.out _
            intro v' w5 hown' hgrow _
            have N5 : Hid (OwnI w5 w.heap.size v' (L ++ [(k : Int)])) := In.OwnI.snoc hown'
            have b5 := hideO (In.app_one GB2.out hsz2 (Nat.le_refl _) O2.out hgrow)
            clear hown' hgrow
            go_wp2_with fail
            go_roundw
            case rel => exact ⟨k + 1, by go_num, by omega, by rw [HN.out]; exact N5.out, b5.out⟩
            case measure => simp [intOf]; omega
          · have hyb : (wrap64 ((y.toNat : Nat) : Int) == (b : Int)) = false := by rw [wrap_byte]; exact beq_eq_false_iff_ne.2 (by omega)
            have HN := hideO (HNB.out hq)
            clear hyt hq HYB HNB
            go_wp2_with fail
            go_roundw
            case rel => exact ⟨k + 1, by go_num, by omega, by rw [HN.out]; exact O2.out, GB2.out⟩
            case measure => simp [intOf]; omega
        · obtain rfl : k = t.size := by omega
          have HN := hideO (plK_succ t b)
          go_wp2_with fail
          go_roundw
          case rel => exact ⟨b + 1, by go_num, by omega, by rw [HN.out]; exact O2.out, GB2.out⟩
          case measure => simp [intOf]; omega
    · have hb3 : ¬ (b : Int) < 256 := by omega
      have ho : OwnI wr w.heap.size u5 (ints (pl t)) := by
        have h := hown
        rw [show b = 256 by omega] at h
        exact h
      obtain ⟨g, cap, rfl, hcap, hI⟩ := ho.ints
      have HI := hideO hI
      rw [ints_len, pl_len] at hcap ⊢
      obtain ⟨w1, hw1⟩ : ∃ w1, w1 = wr := ⟨_, rfl⟩
      rw [← hw1] at HI GB hsz ⊢
      clear hown ho hI O1 hw1 hb2 hb
      go_wp2_with fail
      go_loopw [9, 8, 1] (fun i u m wr => ∃ k : Nat, i = .int .i64 k ∧ k ≤ t.size ∧ m = .int .i64 (itR t a k : Nat) ∧ Own0B wr (w1.heap.size + 1) u (blK t a k) ∧ w1.heap.size < wr.heap.size ∧ Below w1.heap.size w1 wr) (fun i _ _ _ => t.size - (intOf i).toNat)
      case atStart => exact ⟨0, rfl, Nat.zero_le _, rfl, .inl ⟨_, rfl, rfl, rfl⟩, by simp, (Below.refl _ _).alloc (Nat.le_refl _) _⟩
      case round =>
        obtain ⟨k, rfl, hk, rfl, hown, hgs, hbel⟩ := hrel
        have O1 := hideO hown
        have GB3 := hideO hbel
        clear hbel
        by_cases hlt : k < t.size
        · have hd0 : decide ((k : Int) < (t.size : Int)) = true := decide_eq_true (by omega)
          have hkz : (k : Int) < (t.size : Int) := by omega
          have hat : a < t.size := by omega
          have hr1 := itR_lt t a k hat
          have hr2 := itR_lt t a (k + 1) hat
          have e0 : itR t a (k + 1) = plF t (itR t a k) := rfl
          have hpl : (ints (pl t)).length = t.size := by rw [ints_len, pl_len]
          obtain ⟨gb, off, rfl, hb, hc⟩ := (HI.out.below GB3.out).some (by omega)
          have c1 := hc (itR t a k) (by omega)
          have ey : (ints (pl t))[itR t a k]'(by omega) = ((itR t a (k + 1) : Nat) : Int) := by
            rw [e0, ← plF_get t _ (by rw [pl_len]; exact hr1)]
            simp [ints]
          rw [ey] at c1
          have HN := hideO (blK_snoc t a k)
          obtain ⟨p, hp⟩ : ∃ p, p = itR t a k := ⟨_, rfl⟩
          obtain ⟨q, hq⟩ : ∃ q, q = itR t a (k + 1) := ⟨_, rfl⟩
          have HQ := hideO hq
          rw [← hp, ← hq] at c1
          rw [← hq] at hr2 HN
          rw [← hp] at hr1 ⊢
          have hpz : (p : Int) < (t.size : Int) := by omega
          have hqz : (q : Int) < (t.size : Int) := by omega
          obtain ⟨y, hy, hyt⟩ : ∃ y : UInt8, t[q] = y ∧ y.toNat = bt t q := ⟨_, rfl, bt_get _ _ hr2⟩
          rw [← hyt] at HN
          have HBL := hideO (blK_len t a k)
          have HY := hideO (UInt8.toNat_lt y)
          obtain ⟨bs, hbs⟩ : ∃ bs, bs = blK t a k := ⟨_, rfl⟩
          rw [← hbs] at O1 HN HBL
          clear hc ey hown e0 hp hq hyt hbs hpl ha
          go_wp2_with (at_builtin; refine wpList_append_own0 _ rfl (.tmp 42) (.tmp 46) 22 rfl (w1.heap.size + 1) 5 i0 (.int .u8 0) 1 1 Tryz.underlying22 hi0 hz0 hz1 hz2 rfl (by decide) _ bs.length (bs.map bv) rfl (Own0.alloc O1.out _) ⟨wr.heap.size, 0, none⟩ 1 1 [.int .u8 (y.toNat : Nat)] rfl rfl (one_newB _ _ _) (one_cellB _) (by decide) (by unfold maxLen; have := HBL.out; omega) (by have := HBL.out; omega) (by simp; omega) ?_)
          intro v' w5 hown' hb5
          have N5 := hideO (own0B_snoc (by omega) (by have := HY.out; omega) hown')
          have ba : Below (w1.heap.size + 1) wr w5 := ((Below.refl (w1.heap.size + 1) wr).alloc (by omega) _).trans (hb5 _ (Nat.le_refl _))
          have B5 := hideO (GB3.out.trans (ba.mono (by omega)))
          have z5 := ba.size
          clear hown' hb5 ba c1
          go_wp2_with fail
          go_roundw
          case rel => exact ⟨k + 1, by go_num, by omega, by rw [← HQ.out], by rw [HN.out]; exact N5.out, by omega, B5.out⟩
          case measure => simp [intOf]; omega
        · have hd0 : decide ((k : Int) < (t.size : Int)) = false := decide_eq_false (by omega)
          obtain rfl : k = t.size := by omega
          have hcv := own0_string (P := Tryz.prog) (src := 22) (dst := 9) _ hown Tryz.underlying22 Tryz.underlying5 Tryz.underlying9
          rw [blK_all] at hcv
          have BZ := hideO (GB.out.trans (GB3.out.mono hsz))
          generalize itR t a t.size = m
          clear hown ha
          go_wp2_with fail
          go_ret
          exact ⟨rfl, BZ.out⟩
end Go.Proofs.YtjdlgpnhkfdehaaGreatDoor.So


/- What the specification's Unbwt answers. -/
namespace Go.Proofs.YtjdlgpnhkfdehaaGreatDoor.So
open Go.RowKit Go.Sort Go.Proofs
set_option maxRecDepth 100000 in
set_option maxHeartbeats 8000000 in
theorem unbwt_spec (t : ByteArray) (a : Int) (w : World) (hn : t.size ≤ 1048576) :
    Calls Tryz.prog 127 #[.string t, .int .i64 a] w fun e w' => e = .returned (unR t a) ∧ Below w.heap.size w w' := by
  by_cases hbig : 8000 < t.size
  · have HV := hideO (unR_big (a := a) hbig)
    go_enter Tryz.func127, Tryz.ntmps127
    go_wp2_with fail
    refine bodyPost_ret (v := tOut ⟨#[]⟩ 0 2) (by simp [results, tOut, Tryz.results127, go_sem]) rfl ⟨by rw [HV.out], ?_⟩
    exact (Below.refl _ _).alloc (Nat.le_refl _) _
  · have hbig' : ¬ (8000 : Int) < (t.size : Int) := by omega
    obtain ⟨w0, hw0⟩ : ∃ w0, w0 = w.alloc (.cells #[.string ⟨#[]⟩, .int .i64 0, .int .i64 0] 26) := ⟨_, rfl⟩
    have z0 : w0.heap.size = w.heap.size + 1 := by rw [hw0]; simp
    have HR0 : Hid (IsX w0 w.heap.size) := by unfold Hid; rw [hw0]; exact heap_alloc_last w _
    have HB0 : Hid (Below w.heap.size w w0) := by unfold Hid; rw [hw0]; exact (Below.refl _ _).alloc (Nat.le_refl _) _
    have HIP := hideO (block_spec t w0 hn)
    by_cases hlong : 48 < t.size
    · have HV := hideO (unR_form (a := a) hbig (Or.inl hlong))
      rw [decide_eq_false (by omega : ¬ t.size ≤ 48)] at HIP
      go_enter Tryz.func127, Tryz.ntmps127
      go_wp2_with fail
      rw [← hw0]
      refine HIP.out.mono ?_
      rintro e w' ⟨rfl, hw⟩
      subst w'
      subst hw0
      go_wp2_with fail
      refine bodyPost_ret (v := tOut ⟨#[]⟩ 0 1) (by simp [results, tOut, Tryz.results127, go_sem]) rfl ⟨by rw [HV.out], ?_⟩
      exact (Below.refl _ _).alloc (Nat.le_refl _) _
    · rw [decide_eq_true (by omega : t.size ≤ 48)] at HIP
      by_cases hbad : a < 0 ∨ ((t.size : Int) ≤ a ∧ 0 < a)
      · have HV := hideO (unR_form hbig (Or.inr hbad))
        by_cases hneg : a < 0
        · have hd1 : decide (a < 0) = true := decide_eq_true hneg
          clear hbad
          go_enter Tryz.func127, Tryz.ntmps127
          go_wp2_with fail
          rw [← hw0]
          refine HIP.out.mono ?_
          rintro e w' ⟨rfl, hw⟩
          subst w'
          subst hw0
          go_wp2_with fail
          refine bodyPost_ret (v := tOut ⟨#[]⟩ 0 1) (by simp [results, tOut, Tryz.results127, go_sem]) rfl ⟨by rw [HV.out], ?_⟩
          exact (Below.refl _ _).alloc (Nat.le_refl _) _
        · have hd1 : decide (a < 0) = false := decide_eq_false hneg
          have hd2 : decide ((t.size : Int) ≤ a) = true := decide_eq_true (by omega)
          have hd3 : decide (0 < a) = true := decide_eq_true (by omega)
          have hd4 : decide (a < (t.size : Int)) = false := decide_eq_false (by omega)
          have p2 : (t.size : Int) ≤ a := by omega
          have p3 : 0 < a := by omega
          clear hbad
          go_enter Tryz.func127, Tryz.ntmps127
          go_wp2_with fail
          rw [← hw0]
          refine HIP.out.mono ?_
          rintro e w' ⟨rfl, hw⟩
          subst w'
          subst hw0
          go_wp2_with fail
          refine bodyPost_ret (v := tOut ⟨#[]⟩ 0 1) (by simp [results, tOut, Tryz.results127, go_sem]) rfl ⟨by rw [HV.out], ?_⟩
          exact (Below.refl _ _).alloc (Nat.le_refl _) _
      · obtain ⟨m, rfl⟩ : ∃ m : Nat, a = m := ⟨a.toNat, by omega⟩
        have hd1 : decide ((m : Int) < 0) = false := decide_eq_false (by omega)
        have HTB := hideO (l05Back_spec t m w0 (by omega) (by omega))
        have hbz := backT_size t m
        have HBW := hideO (fun W => l05Bwt_spec (backT t m) W (by omega))
        have HY := hideO (fun h => unR_yes (t := t) (a := m) (by omega) (by omega) h)
        have HNO := hideO (fun h => unR_no (t := t) (a := m) (by omega) (by omega) h)
        obtain ⟨b, hb⟩ : ∃ b, b = backT t m := ⟨_, rfl⟩
        obtain ⟨bt', hbt⟩ : ∃ bt', bt' = bwtT b := ⟨_, rfl⟩
        obtain ⟨ba, hba⟩ : ∃ ba, ba = bwtA b := ⟨_, rfl⟩
        rw [← hb] at HTB HBW HY HNO
        rw [← hbt, ← hba] at HBW HY HNO
        have hcase : (¬ t.size ≤ m) ∨ (t.size ≤ m ∧ ¬ 0 < m) := by omega
        clear hb hbt hba hbz hbad
        have HALL : Hid (∀ w1 : World, Below w0.heap.size w0 w1 → ∀ w2 : World, Below w1.heap.size w1 w2 → IsX w2 w.heap.size ∧ Below w.heap.size w w2 ∧ w.heap.size < w2.heap.size) := fun w1 h1 w2 h2 => by
          have z1 := h1.size
          have z2 := h2.size
          exact ⟨(h2.block w.heap.size (by omega)).trans ((h1.block w.heap.size (by omega)).trans HR0.out), (HB0.out.trans (h1.mono (by omega))).trans (h2.mono (by omega)), by omega⟩
        by_cases hq : bt' = t ∧ ba = m
        · obtain ⟨rfl, rfl⟩ := hq
          have HV := hideO (HY.out ⟨rfl, rfl⟩)
          clear HY HNO
          rcases hcase with p2 | ⟨p2, p3⟩
          · have q2 : ¬ (bt'.size : Int) ≤ (ba : Int) := by omega
            have d2 : decide (bt'.size ≤ ba) = false := decide_eq_false p2
            have d2z : decide ((bt'.size : Int) ≤ (ba : Int)) = false := decide_eq_false q2
            go_enter Tryz.func127, Tryz.ntmps127
            go_wp2_with fail
            rw [← hw0]
            refine HIP.out.mono ?_
            rintro e w' ⟨rfl, hw⟩
            subst w'
            go_wp2_with fail
            rw [← hw0]
            refine HTB.out.mono ?_
            rintro e w1 ⟨rfl, hb1⟩
            have HB1 := hideO hb1
            clear hb1
            go_wp2_with fail
            refine (HBW.out w1).mono ?_
            rintro e w2 ⟨rfl, hb2⟩
            obtain ⟨hr2, hg2, z2⟩ := HALL.out w1 HB1.out w2 hb2
            have GB := hideO hg2
            obtain ⟨c0, c1, c2, f0⟩ := hr2.cells
            clear hr2 hb2 hg2
            go_wp2_with fail
            refine bodyPost_ret (v := tOut b 0 0) (by simp [results, tOut, Tryz.results127, go_sem, c0, c1, c2]) rfl ⟨by rw [HV.out], ?_⟩
            exact ((GB.out.setCell (Nat.le_refl _) _).setCell (Nat.le_refl _) _).setCell (Nat.le_refl _) _
          · have q2 : (bt'.size : Int) ≤ (ba : Int) := by omega
            have d2 : decide (bt'.size ≤ ba) = true := decide_eq_true p2
            have d2z : decide ((bt'.size : Int) ≤ (ba : Int)) = true := decide_eq_true q2
            have q3 : ¬ (0 : Int) < (ba : Int) := by omega
            have d3 : decide (0 < ba) = false := decide_eq_false p3
            have d3z : decide ((0 : Int) < (ba : Int)) = false := decide_eq_false q3
            go_enter Tryz.func127, Tryz.ntmps127
            go_wp2_with fail
            rw [← hw0]
            refine HIP.out.mono ?_
            rintro e w' ⟨rfl, hw⟩
            subst w'
            go_wp2_with fail
            rw [← hw0]
            refine HTB.out.mono ?_
            rintro e w1 ⟨rfl, hb1⟩
            have HB1 := hideO hb1
            clear hb1
            go_wp2_with fail
            refine (HBW.out w1).mono ?_
            rintro e w2 ⟨rfl, hb2⟩
            obtain ⟨hr2, hg2, z2⟩ := HALL.out w1 HB1.out w2 hb2
            have GB := hideO hg2
            obtain ⟨c0, c1, c2, f0⟩ := hr2.cells
            clear hr2 hb2 hg2
            go_wp2_with fail
            refine bodyPost_ret (v := tOut b 0 0) (by simp [results, tOut, Tryz.results127, go_sem, c0, c1, c2]) rfl ⟨by rw [HV.out], ?_⟩
            exact ((GB.out.setCell (Nat.le_refl _) _).setCell (Nat.le_refl _) _).setCell (Nat.le_refl _) _
        · have HV := hideO (HNO.out hq)
          by_cases hqt : bt' = t
          · subst hqt
            have hqm : ((ba : Int) != (m : Int)) = true := bne_iff_ne.2 (fun e => hq ⟨rfl, by omega⟩)
            clear hq HY HNO
            rcases hcase with p2 | ⟨p2, p3⟩
            · have q2 : ¬ (bt'.size : Int) ≤ (m : Int) := by omega
              have d2 : decide (bt'.size ≤ m) = false := decide_eq_false p2
              have d2z : decide ((bt'.size : Int) ≤ (m : Int)) = false := decide_eq_false q2
              go_enter Tryz.func127, Tryz.ntmps127
              go_wp2_with fail
              rw [← hw0]
              refine HIP.out.mono ?_
              rintro e w' ⟨rfl, hw⟩
              subst w'
              go_wp2_with fail
              rw [← hw0]
              refine HTB.out.mono ?_
              rintro e w1 ⟨rfl, hb1⟩
              have HB1 := hideO hb1
              clear hb1
              go_wp2_with fail
              refine (HBW.out w1).mono ?_
              rintro e w2 ⟨rfl, hb2⟩
              obtain ⟨hr2, hg2, z2⟩ := HALL.out w1 HB1.out w2 hb2
              have GB := hideO hg2
              obtain ⟨c0, c1, c2, f0⟩ := hr2.cells
              clear hr2 hb2 hg2
              go_wp2_with fail
              refine bodyPost_ret (v := tOut ⟨#[]⟩ 0 3) (by simp [results, tOut, Tryz.results127, go_sem, c0, c1, c2]) rfl ⟨by rw [HV.out], ?_⟩
              exact ((GB.out.setCell (Nat.le_refl _) _).setCell (Nat.le_refl _) _).setCell (Nat.le_refl _) _
            · have q2 : (bt'.size : Int) ≤ (m : Int) := by omega
              have d2 : decide (bt'.size ≤ m) = true := decide_eq_true p2
              have d2z : decide ((bt'.size : Int) ≤ (m : Int)) = true := decide_eq_true q2
              have q3 : ¬ (0 : Int) < (m : Int) := by omega
              have d3 : decide (0 < m) = false := decide_eq_false p3
              have d3z : decide ((0 : Int) < (m : Int)) = false := decide_eq_false q3
              go_enter Tryz.func127, Tryz.ntmps127
              go_wp2_with fail
              rw [← hw0]
              refine HIP.out.mono ?_
              rintro e w' ⟨rfl, hw⟩
              subst w'
              go_wp2_with fail
              rw [← hw0]
              refine HTB.out.mono ?_
              rintro e w1 ⟨rfl, hb1⟩
              have HB1 := hideO hb1
              clear hb1
              go_wp2_with fail
              refine (HBW.out w1).mono ?_
              rintro e w2 ⟨rfl, hb2⟩
              obtain ⟨hr2, hg2, z2⟩ := HALL.out w1 HB1.out w2 hb2
              have GB := hideO hg2
              obtain ⟨c0, c1, c2, f0⟩ := hr2.cells
              clear hr2 hb2 hg2
              go_wp2_with fail
              refine bodyPost_ret (v := tOut ⟨#[]⟩ 0 3) (by simp [results, tOut, Tryz.results127, go_sem, c0, c1, c2]) rfl ⟨by rw [HV.out], ?_⟩
              exact ((GB.out.setCell (Nat.le_refl _) _).setCell (Nat.le_refl _) _).setCell (Nat.le_refl _) _
          · have hqe : (bt'.toList == t.toList) = false := by rw [list_eq_iff]; exact decide_eq_false hqt
            clear hq hqt HY HNO
            rcases hcase with p2 | ⟨p2, p3⟩
            · have q2 : ¬ (t.size : Int) ≤ (m : Int) := by omega
              have d2 : decide (t.size ≤ m) = false := decide_eq_false p2
              have d2z : decide ((t.size : Int) ≤ (m : Int)) = false := decide_eq_false q2
              go_enter Tryz.func127, Tryz.ntmps127
              go_wp2_with fail
              rw [← hw0]
              refine HIP.out.mono ?_
              rintro e w' ⟨rfl, hw⟩
              subst w'
              go_wp2_with fail
              rw [← hw0]
              refine HTB.out.mono ?_
              rintro e w1 ⟨rfl, hb1⟩
              have HB1 := hideO hb1
              clear hb1
              go_wp2_with fail
              refine (HBW.out w1).mono ?_
              rintro e w2 ⟨rfl, hb2⟩
              obtain ⟨hr2, hg2, z2⟩ := HALL.out w1 HB1.out w2 hb2
              have GB := hideO hg2
              obtain ⟨c0, c1, c2, f0⟩ := hr2.cells
              clear hr2 hb2 hg2
              go_wp2_with fail
              refine bodyPost_ret (v := tOut ⟨#[]⟩ 0 3) (by simp [results, tOut, Tryz.results127, go_sem, c0, c1, c2]) rfl ⟨by rw [HV.out], ?_⟩
              exact ((GB.out.setCell (Nat.le_refl _) _).setCell (Nat.le_refl _) _).setCell (Nat.le_refl _) _
            · have q2 : (t.size : Int) ≤ (m : Int) := by omega
              have d2 : decide (t.size ≤ m) = true := decide_eq_true p2
              have d2z : decide ((t.size : Int) ≤ (m : Int)) = true := decide_eq_true q2
              have q3 : ¬ (0 : Int) < (m : Int) := by omega
              have d3 : decide (0 < m) = false := decide_eq_false p3
              have d3z : decide ((0 : Int) < (m : Int)) = false := decide_eq_false q3
              go_enter Tryz.func127, Tryz.ntmps127
              go_wp2_with fail
              rw [← hw0]
              refine HIP.out.mono ?_
              rintro e w' ⟨rfl, hw⟩
              subst w'
              go_wp2_with fail
              rw [← hw0]
              refine HTB.out.mono ?_
              rintro e w1 ⟨rfl, hb1⟩
              have HB1 := hideO hb1
              clear hb1
              go_wp2_with fail
              refine (HBW.out w1).mono ?_
              rintro e w2 ⟨rfl, hb2⟩
              obtain ⟨hr2, hg2, z2⟩ := HALL.out w1 HB1.out w2 hb2
              have GB := hideO hg2
              obtain ⟨c0, c1, c2, f0⟩ := hr2.cells
              clear hr2 hb2 hg2
              go_wp2_with fail
              refine bodyPost_ret (v := tOut ⟨#[]⟩ 0 3) (by simp [results, tOut, Tryz.results127, go_sem, c0, c1, c2]) rfl ⟨by rw [HV.out], ?_⟩
              exact ((GB.out.setCell (Nat.le_refl _) _).setCell (Nat.le_refl _) _).setCell (Nat.le_refl _) _
end Go.Proofs.YtjdlgpnhkfdehaaGreatDoor.So

