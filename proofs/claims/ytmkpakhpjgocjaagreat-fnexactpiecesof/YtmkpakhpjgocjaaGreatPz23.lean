/- Texts put together: FrontBS, BwtSpec, FrontOS, ZeroSpec2. -/
import Derived.Test.YtmkpakhpjgocjaaGreatPz18
import Derived.Test.YtmkpakhpjgocjaaGreatPz7
import Derived.Test.YtmkpakhpjgocjaaGreatPz19
import Derived.Test.YtmkpakhpjgocjaaGreatPz22
import Derived.Test.YtmkpakhpjgocjaaGreatPz17
/- What the specification's FrontBack answers. -/
namespace Go.Proofs.YtmkpakhpjgocjaaGreat.Fr
open Go.RowKit
open Go.Proofs.YtmkpakhpjgocjaaGreat.Sh (IsB rowF upd made_row upd_same upd_other strF)
open Go.Proofs.YtmkpakhpjgocjaaGreat.Ze (hideZ numsR upTo upTo_yes numsR_of numsR_long numsR_yes nums_spec)
open Go.Proofs.YtmkpakhpjgocjaaGreat.St (Aft)
open Go.Proofs.YtmkpakhpjgocjaaGreat.In (Ints)
open Go.Proofs.YtmkpakhpjgocjaaGreat.Nu (ret_strJ bv own_string app_below)
open Go.Proofs.YtmkpakhpjgocjaaGreat.Ap (Own0 wpList_append_own0)

def Own0B (w : World) (base : Nat) (v : Value) (l : List UInt8) : Prop := Own0 w base 5 1 v l.length (l.map bv)
theorem own0_string {P : Program} {w : World} {base src dst : TypeId} {v : Value} (l : List UInt8) (h : Own0B w base v l)
    (hs : P.underlying src = some (.slice 5)) (he : P.underlying 5 = some (.int .u8)) (hd : P.underlying dst = some .string) :
    (convert src dst v).run P w = .ok (.string ⟨l.toArray⟩) w := by
  rcases h with ⟨b, rfl, h0, _⟩ | h
  · obtain rfl : l = [] := List.eq_nil_of_length_eq_zero h0
    exact run_convert_bytes_back w src dst 5 b 0 [] hs he hd (by intro j hj; exact absurd hj (Nat.not_lt_zero j))
  · exact own_string l h hs he hd
theorem one_newB (W : World) (s : Int) (t : TypeId) : ∀ (j : Nat) (u : Value), [(Value.int .u8) s][j]? = some u → (W.alloc (.cells #[.int .u8 s] t)).cell? ((⟨W.heap.size, 0, none⟩ : Addr).add j) = some u := by
  intro j u hj
  match j, hj with
  | 0, hj => simp at hj; subst hj; simp [Addr.add]
theorem one_cellB (s : Int) : ∀ u ∈ [(Value.int .u8) s], u.oneCell' = true := by
  intro u hu
  simp at hu
  subst hu
  rfl
theorem own0B_snoc {w : World} {base : Nat} {v : Value} {l : List UInt8} {x : Int} (h0 : 0 ≤ x) (h1 : x < 256) (h : w.ownsRow base 5 1 v (l.length + 1) (l.map bv ++ [.int .u8 x])) : Own0B w base v (l ++ [UInt8.ofNat x.toNat]) := by
  refine .inr ?_
  have e : bv (UInt8.ofNat x.toNat) = .int .u8 x := by
    simp [bv]
    omega
  rw [List.length_append, List.map_append, List.map_singleton, e]
  exact h

end Go.Proofs.YtmkpakhpjgocjaaGreat.Fr

/- What the specification's Bwt answers. -/
namespace Go.Proofs.YtmkpakhpjgocjaaGreat.So
open Go.RowKit Go.Sort Go.Proofs
open Go.Proofs.YtmkpakhpjgocjaaGreat.Sh (bt bt_get bt_lt strF IsB made_row)
open Go.Proofs.YtmkpakhpjgocjaaGreat.In (OwnI Ints)
open Go.Proofs.YtmkpakhpjgocjaaGreat.Nu (bv)
open Go.Proofs.YtmkpakhpjgocjaaGreat.Ap (Own0 wpList_append_own0)
open Go.Proofs.YtmkpakhpjgocjaaGreat.Fr (Own0B own0_string one_newB one_cellB own0B_snoc)

def blB (t : ByteArray) (f : Nat → Nat) (k : Nat) : List UInt8 := (List.range k).map fun j => UInt8.ofNat (lastB t (f j))
theorem blB_len (t : ByteArray) (f : Nat → Nat) (k : Nat) : (blB t f k).length = k := by simp [blB]
theorem blB_snoc (t : ByteArray) (f : Nat → Nat) (k : Nat) : blB t f (k + 1) = blB t f k ++ [UInt8.ofNat (((lastB t (f k) : Nat) : Int)).toNat] := by
  unfold blB
  rw [List.range_succ, List.map_append]
  rfl

set_option maxRecDepth 100000 in
set_option maxHeartbeats 1000000 in
theorem l05Bwt_spec (t : ByteArray) (w : World) (ht : t.size ≤ 48) :
    Calls Tryz.prog 39 #[.string t] w fun e w' => e = .returned (.tuple #[.string (bwtT t), .int .i64 (bwtA t : Nat)]) ∧ Below w.heap.size w w' := by
  obtain ⟨i0, hi0, hz0, hz1, hz2⟩ := info_parts Nu.Tryz.infoJ5
  have HOS := hideO (order_spec t w ht)
  go_enter Tryz.func39, Tryz.ntmps39
  go_wp2_with fail
  refine HOS.out.mono ?_
  rintro e w1 ⟨v, l, rfl, ho, hok, _, hb⟩
  have HE := hideO (bwt_yes ht (fun j hj => rfl) (f := ordF t))
  have hlen : l.length = t.size := by have := hok.1.length_eq; simpa using this
  have HLen := hideO hlen
  have HOR : Hid (∀ k (h : k < l.length), ordF t k = l[k] ∧ l[k] < t.size) := fun k h => ⟨ordF_list hok k h, by
    have := hok.1.mem_iff.1 (List.getElem_mem h)
    simpa using this⟩
  obtain ⟨a, cap, rfl, hcap, hI⟩ := ho.ints
  have HI := hideO hI
  rw [ints_len, hlen] at hcap ⊢
  have HB1 := hideO hb
  have z1 := hb.size
  clear ho hok hb hI hlen
  go_wp2_with fail
  go_loopw [7, 5, 6] (fun i u m wr => ∃ k : Nat, i = .int .i64 k ∧ k ≤ t.size ∧ m = .int .i64 (atK (ordF t) k : Nat) ∧ Own0B wr (w1.heap.size + 1) u (blB t (ordF t) k) ∧ w1.heap.size < wr.heap.size ∧ Below w1.heap.size w1 wr) (fun i _ _ _ => t.size - (intOf i).toNat)
  case atStart => exact ⟨0, rfl, Nat.zero_le _, rfl, .inl ⟨_, rfl, rfl, rfl⟩, by simp, (Below.refl _ _).alloc (Nat.le_refl _) _⟩
  case round =>
    obtain ⟨k, rfl, hk, rfl, hown, hgs, hbel⟩ := hrel
    have O1 := hideO hown
    have GB := hideO hbel
    clear hbel
    by_cases hlt : k < t.size
    · have hd0 : decide ((k : Int) < (t.size : Int)) = true := decide_eq_true (by omega)
      have hkz : (k : Int) < (t.size : Int) := by omega
      have hkl : k < l.length := by rw [HLen.out]; exact hlt
      have hkl' : k < (ints l).length := by rw [ints_len]; exact hkl
      obtain ⟨b, off, rfl, hb, hc⟩ := (HI.out.below GB.out).some (by omega)
      have ci := hc k hkl'
      have HC : Hid (∀ W : World, Below w1.heap.size w1 W → W.cell? ⟨b, off + k, none⟩ = some (.int .i64 (ints l)[k])) := fun W hW => by
        obtain ⟨b', off', e1, _, hc'⟩ := ((HI.out.below hW).some (by omega : 0 < (ints l).length))
        cases e1
        exact hc' k hkl'
      have ey : (ints l)[k] = ((l[k] : Nat) : Int) := by simp [ints]
      rw [ey] at ci HC
      obtain ⟨ho1, hxt⟩ := HOR.out k hkl
      have HN := hideO (blB_snoc t (ordF t) k)
      have HA := hideO (atK_next (ordF t) k)
      rw [ho1] at HN HA
      obtain ⟨x, hx⟩ : ∃ x, x = l[k] := ⟨_, rfl⟩
      rw [← hx] at ci HC hxt HN HA
      obtain ⟨s, hs⟩ : ∃ s, s = x + t.size - 1 := ⟨_, rfl⟩
      obtain ⟨r, hr⟩ : ∃ r, r = s % t.size := ⟨_, rfl⟩
      have hrt : r < t.size := by rw [hr]; exact Nat.mod_lt _ (by omega)
      have e1 : (x : Int) + (t.size : Int) - 1 = (s : Int) := by omega
      have e2 : (s : Int).tmod (t.size : Int) = (r : Int) := by rw [Int.tmod_eq_emod_of_nonneg (by omega), hr, Int.natCast_emod]
      have hwp : IntKind.i64.wrap (s : Int) = (s : Int) := by rw [IntKind.wrap_i64]; omega
      have hwr : IntKind.i64.wrap (r : Int) = (r : Int) := by rw [IntKind.wrap_i64]; omega
      have hrz : (r : Int) < (t.size : Int) := by omega
      have htn : ¬ ((t.size : Int) = 0) := by omega
      obtain ⟨y, hy, hyt⟩ : ∃ y : UInt8, t[r] = y ∧ y.toNat = lastB t x := ⟨_, rfl, by rw [bt_get]; unfold lastB; rw [hr, hs]⟩
      rw [← hyt] at HN
      have HBL := hideO (blB_len t (ordF t) k)
      obtain ⟨bs, hbs⟩ : ∃ bs, bs = blB t (ordF t) k := ⟨_, rfl⟩
      rw [← hbs] at O1 HN HBL
      obtain ⟨m, hm⟩ : ∃ m, m = atK (ordF t) k := ⟨_, rfl⟩
      rw [← hm] at HA ⊢
      have hmk : m ≤ k := by rw [hm]; exact atK_le _ _
      clear hc ey hown ho1 hx hs hr hyt hbs hm
      have HY := hideO (UInt8.toNat_lt y)
      go_wp2_with (at_builtin; refine wpList_append_own0 _ rfl (.tmp 17) (.tmp 31) 33 rfl (w1.heap.size + 1) 5 i0 (.int .u8 0) 1 1 Tryz.underlying33 hi0 hz0 hz1 hz2 rfl (by decide) _ bs.length (bs.map bv) rfl (Own0.alloc O1.out _) ⟨wr.heap.size, 0, none⟩ 1 1 [.int .u8 (y.toNat : Nat)] rfl rfl (one_newB _ _ _) (one_cellB _) (by decide) (by unfold maxLen; have := HBL.out; omega) (by have := HBL.out; omega) (by simp; omega) ?_)
      intro v' w5 hown' hb5
      have N5 := hideO (own0B_snoc (by omega) (by have := HY.out; omega) hown')
      have ba : Below (w1.heap.size + 1) wr w5 := ((Below.refl (w1.heap.size + 1) wr).alloc (by omega) _).trans (hb5 _ (Nat.le_refl _))
      have B5 := hideO (GB.out.trans (ba.mono (by omega)))
      have c5 := HC.out w5 B5.out
      have z5 := ba.size
      clear hown' hb5 ba ci
      by_cases hx0 : x = 0
      · subst hx0
        have HM := hideO (HA.out.1 rfl)
        go_wp2_with fail
        go_roundw
        case rel => exact ⟨k + 1, by go_num, by omega, by rw [HM.out], by rw [HN.out]; exact N5.out, by omega, B5.out⟩
        case measure => simp [intOf]; omega
      · have HM := hideO (HA.out.2 hx0)
        have hxz : ((x : Int) == 0) = false := by simpa using hx0
        go_wp2_with fail
        go_roundw
        case rel => exact ⟨k + 1, by go_num, by omega, by rw [HM.out], by rw [HN.out]; exact N5.out, by omega, B5.out⟩
        case measure => simp [intOf]; omega
    · have hd0 : decide ((k : Int) < (t.size : Int)) = false := decide_eq_false (by omega)
      obtain rfl : k = t.size := by omega
      have hcv := own0_string (P := Tryz.prog) (src := 33) (dst := 9) _ hown Tryz.underlying33 Tryz.underlying5 Tryz.underlying9
      have HQ : Hid ((⟨(blB t (ordF t) t.size).toArray⟩ : ByteArray) = bwtT t) := HE.out.1.symm
      have HQ2 : Hid (atK (ordF t) t.size = bwtA t) := HE.out.2.1.symm
      rw [HQ.out] at hcv
      rw [HQ2.out]
      have BZ := hideO (HB1.out.trans (GB.out.mono z1))
      clear hown
      go_wp2_with fail
      refine bodyPost_ret (v := .tuple #[.string (bwtT t), .int .i64 (bwtA t : Nat)]) (by simp [results, Tryz.results39, go_sem]) rfl ⟨rfl, BZ.out⟩

end Go.Proofs.YtmkpakhpjgocjaaGreat.So

/- What the specification's FrontOf answers. -/
namespace Go.Proofs.YtmkpakhpjgocjaaGreat.Fr
open Go.RowKit
open Go.Proofs.YtmkpakhpjgocjaaGreat.Sh (IsB rowF upd made_row bt bt_get)
open Go.Proofs.YtmkpakhpjgocjaaGreat.Ze (hideZ)
open Go.Proofs.YtmkpakhpjgocjaaGreat.St (Aft)
open Go.Proofs.YtmkpakhpjgocjaaGreat.In (Ints IsI OwnI one_newI one_cellI)
open Go.Proofs.YtmkpakhpjgocjaaGreat.In.Tryz (infoI2)
open Go.Proofs.YtmkpakhpjgocjaaGreat.Ap (Own0 wpList_append_own0)

/-- an empty list that was written out, or a row above a mark -/
def Own0I (w : World) (lit base : Nat) (v : Value) (l : List Int) : Prop :=
  w.heap[lit]? = some (.cells #[] 2 (0, 0)) ∧ ((v = .slice (some ⟨lit, 0, none⟩) 0 0 ∧ l = []) ∨ OwnI w base v l)
theorem Own0I.own0 {w : World} {lit base : Nat} {v : Value} {l : List Int} (h : Own0I w lit base v l) : Own0 w base 2 1 v l.length (l.map (Value.int .i64)) := by
  rcases h.2 with ⟨rfl, rfl⟩ | h
  · exact .inl ⟨_, rfl, rfl, rfl⟩
  · exact .inr h
theorem Own0I.done {w : World} {lit base : Nat} {v : Value} {l : List Int} (h : Own0I w lit base v l) (hb : lit ≤ base) : OwnI w lit v l := by
  obtain ⟨he, ⟨rfl, rfl⟩ | h⟩ := h
  · exact ⟨rfl, .inr ⟨lit, 0, #[], rfl, Nat.le_refl _, he, Nat.le_refl _, by decide, rfl, rfl⟩⟩
  · exact h.mono hb
theorem Own0I.keep {w w' : World} {lit base : Nat} {v : Value} {l : List Int} (h : Own0I w lit base v l) (hl : w'.heap[lit]? = w.heap[lit]?) (b : ∀ k, base ≤ k → k < w.heap.size → w'.heap[k]? = w.heap[k]?) : Own0I w' lit base v l := by
  refine ⟨hl.trans h.1, ?_⟩
  rcases h.2 with h | ⟨hl, h⟩
  · exact .inl h
  · refine .inr ⟨hl, ?_⟩
    rcases h with h | ⟨g, cap, cur, hv, hg, hb, rest⟩
    · exact .inl h
    · exact .inr ⟨g, cap, cur, hv, hg, by rw [b g hg (Array.getElem?_eq_some_iff.1 hb).1]; exact hb, rest⟩

set_option maxRecDepth 100000 in
set_option maxHeartbeats 1000000 in
theorem frontOf_spec (t : ByteArray) (w : World) (hn : t.size ≤ 1048576) :
    Calls Tryz.prog 41 #[.string t] w fun e w' => ∃ v, e = .returned v ∧ OwnI w' w.heap.size v (frontR t.data.toList) ∧ Below w.heap.size w w' := by
  obtain ⟨i0, hi0, hz0, hz1, hz2⟩ := info_parts infoI2
  have hdl : t.data.toList.length = t.size := by simp
  have HB0 : Hid (Below w.heap.size w (w.alloc (.cells #[] 2))) := (Below.refl _ _).alloc (Nat.le_refl _) _
  have HRS := hideZ (row_spec (w.alloc (.cells #[] 2)))
  have HE0 : Hid ((w.alloc (.cells #[] 2)).heap[w.heap.size]? = some (.cells #[] 2 (0, 0))) := heap_alloc_last w _
  have zs : (w.alloc (.cells #[] 2)).heap.size = w.heap.size + 1 := by simp
  rw [zs] at HRS
  clear zs
  by_cases hlong : 400 < t.size
  · rw [frontR_no (by omega)]
    clear hdl
    have hd4 : decide ((t.size : Int) ≤ 400) = false := decide_eq_false (by omega)
    have hd0 : decide ((0 : Int) < (t.size : Int)) = true := decide_eq_true (by omega)
    go_enter Tryz.func41, Tryz.ntmps41
    go_wp2_with fail
    refine HRS.out.mono ?_
    rintro e w1 ⟨rfl, hr1, hb1⟩
    have HB1 := hideZ (HB0.out.trans (hb1.mono (by omega)))
    have HV : Hid (Own0I w1 w.heap.size (w.heap.size + 2) (.slice (some ⟨w.heap.size, 0, none⟩) 0 0) []) := ⟨(hb1.block _ (by omega)).trans HE0.out, .inl ⟨rfl, rfl⟩⟩
    clear hr1 hb1
    go_wp2_with fail
    go_loopw [5, 3] (fun i u wr => i = .int .i64 0 ∧ u = .slice (some ⟨w.heap.size, 0, none⟩) 0 0 ∧ wr = w1) (fun _ _ _ => 0)
    case atStart => exact ⟨rfl, rfl, rfl⟩
    case round =>
      obtain ⟨rfl, rfl, rfl⟩ := hrel
      go_wp2_with fail
      go_ret
      exact ⟨_, rfl, HV.out.done (by omega), HB1.out⟩
  · rw [frontR_yes (by omega)]
    have hd4 : decide ((t.size : Int) ≤ 400) = true := decide_eq_true (by omega)
    have HDL := hideZ hdl
    clear hdl
    go_enter Tryz.func41, Tryz.ntmps41
    go_wp2_with fail
    refine HRS.out.mono ?_
    rintro e w1 ⟨rfl, hr1, hb1⟩
    have HB1 := hideZ (HB0.out.trans (hb1.mono (by omega)))
    have HV : Hid (Own0I w1 w.heap.size (w.heap.size + 2) (.slice (some ⟨w.heap.size, 0, none⟩) 0 0) []) := ⟨(hb1.block _ (by omega)).trans HE0.out, .inl ⟨rfl, rfl⟩⟩
    have HR1 := hideZ hr1
    clear hr1 hb1 HRS HE0
    obtain ⟨l, hl⟩ : ∃ l, l = t.data.toList := ⟨_, rfl⟩
    rw [← hl] at HDL
    have HL := hideZ hl
    clear hl
    go_wp2_with fail
    go_loopw [5, 3] (fun i u wr => ∃ k : Nat, i = .int .i64 k ∧ k ≤ t.size ∧ IsB wr (w.heap.size + 1) 5 .u8 256 (fst' (l.take k)).2 ∧ Own0I wr w.heap.size (w.heap.size + 2) u (fst' (l.take k)).1 ∧ Below w.heap.size w wr) (fun i _ _ => t.size - (intOf i).toNat)
    case atStart => exact ⟨0, rfl, Nat.zero_le _, HR1.out, HV.out, HB1.out⟩
    case round =>
      obtain ⟨k, rfl, hk, hrow, hown, hbel⟩ := hrel
      obtain ⟨hfull, hlen⟩ := fst_full l k (by have := HDL.out; omega)
      have R1 := hideZ hrow
      have O1 := hideZ hown
      have GB := hideZ hbel
      have hgs := hrow.lt
      clear hbel
      by_cases hlt : k < t.size
      · have hd0 : decide ((k : Int) < (t.size : Int)) = true := decide_eq_true (by omega)
        obtain ⟨hkl', hget⟩ := list_get t k hlt
        have hkl : k < l.length := by rw [HDL.out]; exact hlt
        have hge : l[k] = t[k] := by
          have := HL.out
          subst this
          exact hget
        have HM := hideZ (fst_more hkl)
        rw [hge] at HM
        obtain ⟨c, hc⟩ : ∃ c : UInt8, t[k] = c := ⟨_, rfl⟩
        rw [hc] at HM
        obtain ⟨f, hf⟩ : ∃ f, f = (fst' (l.take k)).2 := ⟨_, rfl⟩
        obtain ⟨ps, hps⟩ : ∃ ps, ps = (fst' (l.take k)).1 := ⟨_, rfl⟩
        rw [← hf] at R1 HM hfull
        rw [← hps] at O1 HM hlen
        have hlk := look_some hfull (c := c.toNat) (UInt8.toNat_lt _)
        obtain ⟨q, hq⟩ : ∃ q, q = look f c.toNat := ⟨_, rfl⟩
        rw [← hq] at hlk HM
        have hq256 := hlk.1
        have HLK := hideZ hlk.2
        have HLE := hideZ hlen
        have HFU := hideZ hfull
        clear hget hge hf hps hrow hown hfull hlen hlk hq
        go_wp2_with fail
        go_loopw [6] (fun i wr2 => ∃ p : Nat, i = .int .i64 p ∧ p ≤ q ∧ IsB wr2 (w.heap.size + 1) 5 .u8 256 f ∧ Own0I wr2 w.heap.size (w.heap.size + 2) u3 ps ∧ Below w.heap.size w wr2) (fun i _ => q - (intOf i).toNat)
        case atStart => exact ⟨0, rfl, Nat.zero_le _, R1.out, O1.out, GB.out⟩
        case round =>
          obtain ⟨p, rfl, hp, hrow2, hown2, hbel2⟩ := hrel
          have R2 := hideZ hrow2
          have O2 := hideZ hown2
          have GB2 := hideZ hbel2
          have hgs2 := hrow2.lt
          have c1 := hrow2.cell (j := p) (by omega)
          have hbnd := HFU.out.2 p (by omega)
          obtain ⟨y, hy⟩ : ∃ y, y = f p := ⟨_, rfl⟩
          rw [← hy] at c1 hbnd
          have HY := hideZ hy
          clear hrow2 hown2 hbel2 hy
          by_cases hpq : p = q
          · have hyc : (y == ((c.toNat : Nat) : Int)) = true := beq_iff_eq.2 (by rw [HY.out, hpq]; exact HLK.out.1)
            have hq1 : q < 256 := hq256
            have HR3 : Hid (∀ nq, IsB (wr.drewN nq) (w.heap.size + 1) 5 .u8 256 f) := fun nq => R2.out
            have HO3 : Hid (∀ nq, Own0I (wr.drewN nq) w.heap.size (w.heap.size + 2) u3 ps) := fun nq => O2.out.keep rfl (fun _ _ _ => rfl)
            have HB3 : Hid (∀ nq, Below w.heap.size w (wr.drewN nq)) := fun nq => below_drewN GB2.out nq
            rw [← hpq] at HM
            clear hpq
            go_wp2_with fail
            go_quiet (fail)
            have R4 := HR3.out nq
            have O4 := HO3.out nq
            have B4 := HB3.out nq
            have z4 : w.heap.size + 1 < (wr.drewN nq).heap.size := hgs2
            generalize wr.drewN nq = W at R4 O4 B4 z4 ⊢
            have HR4 := hideZ R4
            have HO4 := hideZ O4
            have HB4 := hideZ B4
            clear R4 O4 B4 HR3 HO3 HB3 c1
            go_wp2_with (at_builtin; refine wpList_append_own0 _ rfl (.tmp 30) (.tmp 32) 45 rfl (w.heap.size + 2) 2 i0 (.int .i64 0) 1 8 Tryz.underlying45 hi0 hz0 hz1 hz2 rfl (by decide) _ ps.length (ps.map (Value.int .i64)) rfl (Own0.alloc HO4.out.own0 _) ⟨W.heap.size, 0, none⟩ 1 1 [.int .i64 (p : Int)] rfl rfl (one_newI _ _ _) (one_cellI _) (by decide) (by unfold maxLen; have := HLE.out; omega) (by have := HLE.out; omega) (by simp; omega) ?_)
            intro v' w5 hown' hb5
            have ba : Below (w.heap.size + 2) W w5 := ((Below.refl (w.heap.size + 2) W).alloc (by omega) _).trans (hb5 _ (Nat.le_refl _))
            have N5 : Hid (Own0I w5 w.heap.size (w.heap.size + 2) v' (ps ++ [(p : Int)])) := ⟨(ba.block _ (by omega)).trans HO4.out.1, .inr (In.OwnI.snoc hown')⟩
            have R5 := hideZ (HR4.out.below ba (by omega))
            have B5 := hideZ (HB4.out.trans (ba.mono (by omega)))
            have HFS := hideZ (front_spec (w.heap.size + 1) p 256 5 f w5 R5.out (by omega))
            have z5 := ba.size
            clear hown' hb5 ba
            go_wp2_with fail
            refine HFS.out.mono ?_
            rintro e w6 ⟨rfl, hr6, ha6⟩
            have R6 := hideZ hr6
            have N6 := hideZ (N5.out.keep (ha6.2.2.2.2 _ (by omega) (by omega)) (fun j hj1 hj2 => ha6.2.2.2.2 j hj2 (by omega)))
            have B6 := hideZ (Aft.below B5.out ha6 (by omega) (by omega))
            clear hr6 ha6
            go_wp2_with fail
            go_roundw
            case rel => exact ⟨k + 1, by go_num, by omega, by rw [HM.out]; exact R6.out, by rw [HM.out]; exact N6.out, B6.out⟩
            case measure => simp [intOf]; omega
          · have hyc : (y == ((c.toNat : Nat) : Int)) = false := beq_eq_false_iff_ne.2 (by rw [HY.out]; exact HLK.out.2 p (by omega))
            go_wp2_with fail
            go_quiet (fail)
            all_goals (try go_wp2_with fail)
            go_roundw
            case rel => exact ⟨p + 1, by go_num, by omega, R2.out, O2.out.keep rfl (fun _ _ _ => rfl), below_drewN GB2.out _⟩
            case measure => simp [intOf]; omega
      · have hd0 : decide ((k : Int) < (t.size : Int)) = false := decide_eq_false (by omega)
        obtain rfl : k = t.size := by omega
        have HT : Hid (l.take t.size = l) := by
          unfold Hid
          rw [← HDL.out, List.take_length]
        rw [HT.out, HL.out] at hown
        have HVV := hideZ (hown.done (by omega))
        clear hrow hown hfull hlen
        go_wp2_with fail
        go_ret
        exact ⟨_, rfl, HVV.out, GB.out⟩
end Go.Proofs.YtmkpakhpjgocjaaGreat.Fr

/- What the specification's ZerosOf answers, in whole. -/
namespace Go.Proofs.YtmkpakhpjgocjaaGreat.Ze
open Go.RowKit
open Go.Proofs.YtmkpakhpjgocjaaGreat.In (Ints OwnI IsO one_newI one_cellI app_one)
open Go.Proofs.YtmkpakhpjgocjaaGreat.In.Tryz (infoI2)

set_option maxRecDepth 100000 in
set_option maxHeartbeats 1000000 in
theorem zerosOf_spec (l : List Int) (a : Option Addr) (cap B : Nat) (w : World) (hi : Ints w B a l) (hB : B ≤ w.heap.size) (hn : l.length ≤ 1048576) :
    Calls Tryz.prog 40 #[.slice a l.length cap] w fun e w' => ∃ v, e = .returned v ∧ OwnI w' w.heap.size v (zerosR l) ∧ Below w.heap.size w w' := by
  obtain ⟨i0, hi0, hz0, hz1, hz2⟩ := info_parts infoI2
  have hb0 : Below w.heap.size w (w.alloc (.cells #[] 2)) := (Below.refl _ _).alloc (Nat.le_refl _) _
  have HU := hideZ (nums_spec l 255 a cap w.heap.size (w.alloc (.cells #[] 2)) ((hi.mono hB).below hb0) hn)
  have HW := hideZ (OwnI.empty w)
  have HB0 := hideZ hb0
  cases hu : numsR l 255 with
  | false =>
    rw [zerosR_no hu]
    rw [hu] at HU
    clear hi hu hb0
    generalize l.length = n at HU hn ⊢
    go_enter Tryz.func40, Tryz.ntmps40
    go_wp2_with fail
    refine HU.out.mono ?_
    rintro e w' ⟨rfl, hw⟩
    subst w'
    go_wp2_with fail
    go_ret
    exact ⟨_, rfl, HW.out, HB0.out⟩
  | true =>
    rw [zerosR_yes hu]
    have HUP := hideZ (upTo_yes (numsR_yes hu).2)
    have hlong := (numsR_yes hu).1
    rw [hu] at HU
    have HS := hideZ (hi.mono hB)
    clear hi hu hb0
    obtain ⟨n, hln⟩ : ∃ n, n = l.length := ⟨_, rfl⟩
    have HLN := hideZ hln
    rw [← hln] at HU hlong ⊢
    clear hln hn
    go_enter Tryz.func40, Tryz.ntmps40
    go_wp2_with fail
    refine HU.out.mono ?_
    rintro e w' ⟨rfl, hw⟩
    subst w'
    go_wp2_with fail
    go_loopw [5, 3, 4] (fun i u m wr => ∃ k z : Nat, i = .int .i64 k ∧ m = .int .i64 z ∧ k ≤ n ∧ z = (zst (l.take k)).2 ∧ OwnI wr w.heap.size u (zst (l.take k)).1 ∧ Below w.heap.size w wr) (fun i _ _ _ => n - (intOf i).toNat)
    case atStart => exact ⟨0, 0, rfl, rfl, Nat.zero_le _, rfl, HW.out, HB0.out⟩
    case round =>
      obtain ⟨k, z, rfl, rfl, hk, hz, hown, hbel⟩ := hrel
      have hzl := zst_len (l.take k)
      rw [List.length_take] at hzl
      have hzk : (zst (l.take k)).1.length + z ≤ k := by omega
      have GB := hideZ hbel
      have HZ := hideZ hz
      have hsz := hbel.size
      have hrl := zrun_len z
      obtain ⟨a', cap', rfl, _, _⟩ := hown.ints
      obtain ⟨lk, hlk⟩ : ∃ lk, lk = (zst (l.take k)).1 := ⟨_, rfl⟩
      rw [← hlk] at hown hzk ⊢
      have G1 := hideZ hown
      have HLK := hideZ hlk
      clear hz hown hbel hlk hzl
      have HRS := hideZ (fun W => run_spec z W (by omega))
      by_cases hlt : k < n
      · have hkl : k < l.length := by rw [← HLN.out]; exact hlt
        obtain ⟨b, off, rfl, hb, hc⟩ := (HS.out.below GB.out).some (by omega)
        have ci := hc k hkl
        have hx255 := HUP.out _ (List.getElem_mem hkl)
        obtain ⟨x, hx⟩ : ∃ x, x = l[k] := ⟨_, rfl⟩
        have HX := hideZ hx
        rw [← hx] at ci hx255
        clear hc hx
        by_cases h0 : x = 0
        · have HZ1 : Hid (zst (l.take (k + 1)) = (lk, z + 1)) := by
            unfold Hid
            rw [zst_zero hkl (by rw [← HX.out]; exact h0), HZ.out, HLK.out]
          have hbx : (x == 0) = true := beq_iff_eq.2 h0
          clear h0
          go_wp2_with fail
          go_roundw
          case rel => exact ⟨k + 1, z + 1, by go_num, by go_num, by omega, by rw [HZ1.out], by rw [HZ1.out]; exact G1.out, GB.out⟩
          case measure => simp [intOf]; omega
        · have HZ1 : Hid (zst (l.take (k + 1)) = (lk ++ zrun z ++ [x + 1], 0)) := by
            unfold Hid
            rw [zst_other hkl (by rw [← HX.out]; exact h0), HZ.out, HX.out, HLK.out]
          have hbx : (x == 0) = false := beq_eq_false_iff_ne.2 h0
          clear h0
          go_wp2_with fail
          refine (HRS.out wr).mono ?_
          rintro e w4 ⟨v4, rfl, hown4, hne4, hbel4⟩
          have G4 := hideZ (G1.out.below hbel4)
          have B4 := hideZ (GB.out.trans (hbel4.mono hsz))
          have z4 := hbel4.size
          obtain ⟨g4, cap4, rfl, hg4, hg4', ho4⟩ := own_some hown4 hne4
          have O4 := hideZ ho4
          clear hown4 hbel4 hne4 ho4
          obtain ⟨rl, hrl2⟩ : ∃ rl, rl = zrun z := ⟨_, rfl⟩
          rw [← hrl2] at O4 hrl HZ1 ⊢
          clear hrl2 HRS
          go_wp2_with (at_builtin; refine wpList_append_own _ rfl (.tmp 24) (.tmp 26) 45 rfl w.heap.size 2 i0 (.int .i64 0) 1 8 Tryz.underlying45 hi0 hz0 hz1 hz2 rfl (by decide) _ _ _ rfl G4.out ⟨g4, 0, none⟩ _ cap4 (rl.map (Value.int .i64)) rfl (by simp) (own_news O4.out) (own_cells rl) (by unfold maxLen; omega) (by omega) (by omega) ?_)
          intro v' w5 hown' hgrow _
          have hown5 := OwnI.joined hown'
          have b5 := app_row B4.out (by omega) (Nat.le_refl _) G4.out hgrow
          have HL4 : Hid ((lk ++ rl).length ≤ 400) := by
            unfold Hid
            rw [List.length_append]
            omega
          obtain ⟨l4, hl4⟩ : ∃ l4, l4 = lk ++ rl := ⟨_, rfl⟩
          rw [← hl4] at hown5 HZ1 HL4
          have N5 := hideZ hown5
          have B5 := hideZ b5
          have z5 := b5.size
          obtain ⟨a5, cap5, rfl, _, _⟩ := hown5.ints
          have c5 : w5.cell? ⟨b, off + k, none⟩ = some (.int .i64 x) := by
            have h1 := ((HS.out.below b5).some (by omega : 0 < l.length))
            obtain ⟨b', off', e1, _, hc'⟩ := h1
            cases e1
            rw [hc' k hkl, HX.out]
          clear hown' hgrow hown5 b5 hl4 ci
          go_wp2_with (at_builtin; refine wpList_append_own _ rfl (.tmp 28) (.tmp 34) 45 rfl w.heap.size 2 i0 (.int .i64 0) 1 8 Tryz.underlying45 hi0 hz0 hz1 hz2 rfl (by decide) _ _ _ rfl (OwnI.alloc N5.out _) ⟨w5.heap.size, 0, none⟩ 1 1 [.int .i64 (x + 1)] rfl rfl (one_newI _ _ _) (one_cellI _) (by unfold maxLen; have := HL4.out; omega) (by have := HL4.out; omega) (by simp; omega) ?_)
          intro v' w6 hown' hgrow _
          have N6 := hideZ (OwnI.snoc hown')
          have b6 := hideZ (app_one B5.out (by omega) (Nat.le_refl _) N5.out hgrow)
          clear hown' hgrow
          go_wp2_with fail
          go_roundw
          case rel => exact ⟨k + 1, 0, by go_num, rfl, by omega, by rw [HZ1.out], by rw [HZ1.out]; exact N6.out, b6.out⟩
          case measure => simp [intOf]; omega
      · have hkn : k = l.length := by have := HLN.out; omega
        have HT : Hid (l.take k = l) := by
          unfold Hid
          rw [hkn, List.take_length]
        have HR : Hid ((zst l).1 ++ zrun (zst l).2 = lk ++ zrun z) := by
          unfold Hid
          rw [HLK.out, HZ.out, HT.out]
        clear hkn
        go_wp2_with fail
        refine (HRS.out wr).mono ?_
        rintro e w4 ⟨v4, rfl, hown4, hne4, hbel4⟩
        have G4 := hideZ (G1.out.below hbel4)
        have B4 := hideZ (GB.out.trans (hbel4.mono hsz))
        have z4 := hbel4.size
        obtain ⟨g4, cap4, rfl, hg4, hg4', ho4⟩ := own_some hown4 hne4
        have O4 := hideZ ho4
        clear hown4 hbel4 hne4 ho4
        obtain ⟨rl, hrl2⟩ : ∃ rl, rl = zrun z := ⟨_, rfl⟩
        rw [← hrl2] at O4 hrl HR ⊢
        clear hrl2 HRS
        go_wp2_with (at_builtin; refine wpList_append_own _ rfl (.tmp 36) (.tmp 38) 45 rfl w.heap.size 2 i0 (.int .i64 0) 1 8 Tryz.underlying45 hi0 hz0 hz1 hz2 rfl (by decide) _ _ _ rfl G4.out ⟨g4, 0, none⟩ _ cap4 (rl.map (Value.int .i64)) rfl (by simp) (own_news O4.out) (own_cells rl) (by unfold maxLen; omega) (by omega) (by omega) ?_)
        intro v' w5 hown' hgrow _
        have N5 := hideZ (OwnI.joined hown')
        have B5 := hideZ (app_row B4.out (by omega) (Nat.le_refl _) G4.out hgrow)
        clear hown' hgrow
        go_wp2_with fail
        go_ret
        exact ⟨_, rfl, by rw [HR.out]; exact N5.out, B5.out⟩
end Go.Proofs.YtmkpakhpjgocjaaGreat.Ze
