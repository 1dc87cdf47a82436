/- Texts put together: FrontOS, DrawFb. -/
import Derived.Test.YtmkpakhpjgocjaaFs32
import Derived.Test.YtmkpakhpjgocjaaFs30
import Derived.Test.YtmkpakhpjgocjaaFs22
import Derived.Test.YtmkpakhpjgocjaaFs15
/- What the specification's FrontOf answers. -/
namespace Go.Proofs.Ytmkpakhpjgocjaa.Fr
open Go.RowKit
open Go.Proofs.Ytmkpakhpjgocjaa.Sh (IsB rowF upd made_row bt bt_get)
open Go.Proofs.Ytmkpakhpjgocjaa.Ze (hideZ)
open Go.Proofs.Ytmkpakhpjgocjaa.St (Aft)
open Go.Proofs.Ytmkpakhpjgocjaa.In (Ints IsI OwnI one_newI one_cellI)
open Go.Proofs.Ytmkpakhpjgocjaa.In.Try (infoI2)
open Go.Proofs.Ytmkpakhpjgocjaa.Ap (Own0 wpList_append_own0)

/-- an empty list that was written out, or a row above a mark -/
def Own0I (w : World) (lit base : Nat) (v : Value) (l : List Int) : Prop :=
  w.heap[lit]? = some (.cells #[] 2 (0, 0)) ∧ ((v = .slice (some ⟨lit, 0, none⟩) 0 0 ∧ l = []) ∨ OwnI w base v l)
theorem Own0I.own0 {w : World} {lit base : Nat} {v : Value} {l : List Int} (h : Own0I w lit base v l) : Own0 w base 2 1 v l.length (l.map (Value.int .i64)) := by
  rcases h.2 with ⟨rfl, rfl⟩ | h
  · exact .inl ⟨_, rfl, rfl, rfl⟩
  · exact .inr h
theorem Own0I.done {w : World} {lit base : Nat} {v : Value} {l : List Int} (h : Own0I w lit base v l) (hb : lit ≤ base) : OwnI w lit v l := by
  obtain ⟨he, ⟨rfl, rfl⟩ | h⟩ := h
  · exact ⟨rfl, .inr ⟨lit, 0, #[], rfl, Nat.le_refl _, he, Nat.le_refl _, by decide, rfl, rfl⟩⟩
  · exact h.mono hb
theorem Own0I.keep {w w' : World} {lit base : Nat} {v : Value} {l : List Int} (h : Own0I w lit base v l) (hl : w'.heap[lit]? = w.heap[lit]?) (b : ∀ k, base ≤ k → k < w.heap.size → w'.heap[k]? = w.heap[k]?) : Own0I w' lit base v l := by
  refine ⟨hl.trans h.1, ?_⟩
  rcases h.2 with h | ⟨hl, h⟩
  · exact .inl h
  · refine .inr ⟨hl, ?_⟩
    rcases h with h | ⟨g, cap, cur, hv, hg, hb, rest⟩
    · exact .inl h
    · exact .inr ⟨g, cap, cur, hv, hg, by rw [b g hg (Array.getElem?_eq_some_iff.1 hb).1]; exact hb, rest⟩

set_option maxRecDepth 100000 in
set_option maxHeartbeats 1000000 in
theorem frontOf_spec (t : ByteArray) (w : World) (hn : t.size ≤ 1048576) :
    Calls Try.prog 46 #[.string t] w fun e w' => ∃ v, e = .returned v ∧ OwnI w' w.heap.size v (frontR t.data.toList) ∧ Below w.heap.size w w' := by
  obtain ⟨i0, hi0, hz0, hz1, hz2⟩ := info_parts infoI2
  have hdl : t.data.toList.length = t.size := by simp
  have HB0 : Hid (Below w.heap.size w (w.alloc (.cells #[] 2))) := (Below.refl _ _).alloc (Nat.le_refl _) _
  have HRS := hideZ (row_spec (w.alloc (.cells #[] 2)))
  have HE0 : Hid ((w.alloc (.cells #[] 2)).heap[w.heap.size]? = some (.cells #[] 2 (0, 0))) := heap_alloc_last w _
  have zs : (w.alloc (.cells #[] 2)).heap.size = w.heap.size + 1 := by simp
  rw [zs] at HRS
  clear zs
  by_cases hlong : 400 < t.size
  · rw [frontR_no (by omega)]
    clear hdl
    have hd4 : decide ((t.size : Int) ≤ 400) = false := decide_eq_false (by omega)
    have hd0 : decide ((0 : Int) < (t.size : Int)) = true := decide_eq_true (by omega)
    go_enter Try.func46, Try.ntmps46
    go_wp2_with fail
    refine HRS.out.mono ?_
    rintro e w1 ⟨rfl, hr1, hb1⟩
    have HB1 := hideZ (HB0.out.trans (hb1.mono (by omega)))
    have HV : Hid (Own0I w1 w.heap.size (w.heap.size + 2) (.slice (some ⟨w.heap.size, 0, none⟩) 0 0) []) := ⟨(hb1.block _ (by omega)).trans HE0.out, .inl ⟨rfl, rfl⟩⟩
    clear hr1 hb1
    go_wp2_with fail
    go_loopw [5, 3] (fun i u wr => i = .int .i64 0 ∧ u = .slice (some ⟨w.heap.size, 0, none⟩) 0 0 ∧ wr = w1) (fun _ _ _ => 0)
    case atStart => exact ⟨rfl, rfl, rfl⟩
    case round =>
      obtain ⟨rfl, rfl, rfl⟩ := hrel
      go_wp2_with fail
      go_ret
      exact ⟨_, rfl, HV.out.done (by omega), HB1.out⟩
  · rw [frontR_yes (by omega)]
    have hd4 : decide ((t.size : Int) ≤ 400) = true := decide_eq_true (by omega)
    have HDL := hideZ hdl
    clear hdl
    go_enter Try.func46, Try.ntmps46
    go_wp2_with fail
    refine HRS.out.mono ?_
    rintro e w1 ⟨rfl, hr1, hb1⟩
    have HB1 := hideZ (HB0.out.trans (hb1.mono (by omega)))
    have HV : Hid (Own0I w1 w.heap.size (w.heap.size + 2) (.slice (some ⟨w.heap.size, 0, none⟩) 0 0) []) := ⟨(hb1.block _ (by omega)).trans HE0.out, .inl ⟨rfl, rfl⟩⟩
    have HR1 := hideZ hr1
    clear hr1 hb1 HRS HE0
    obtain ⟨l, hl⟩ : ∃ l, l = t.data.toList := ⟨_, rfl⟩
    rw [← hl] at HDL
    have HL := hideZ hl
    clear hl
    go_wp2_with fail
    go_loopw [5, 3] (fun i u wr => ∃ k : Nat, i = .int .i64 k ∧ k ≤ t.size ∧ IsB wr (w.heap.size + 1) 5 .u8 256 (fst' (l.take k)).2 ∧ Own0I wr w.heap.size (w.heap.size + 2) u (fst' (l.take k)).1 ∧ Below w.heap.size w wr) (fun i _ _ => t.size - (intOf i).toNat)
    case atStart => exact ⟨0, rfl, Nat.zero_le _, HR1.out, HV.out, HB1.out⟩
    case round =>
      obtain ⟨k, rfl, hk, hrow, hown, hbel⟩ := hrel
      obtain ⟨hfull, hlen⟩ := fst_full l k (by have := HDL.out; omega)
      have R1 := hideZ hrow
      have O1 := hideZ hown
      have GB := hideZ hbel
      have hgs := hrow.lt
      clear hbel
      by_cases hlt : k < t.size
      · have hd0 : decide ((k : Int) < (t.size : Int)) = true := decide_eq_true (by omega)
        obtain ⟨hkl', hget⟩ := list_get t k hlt
        have hkl : k < l.length := by rw [HDL.out]; exact hlt
        have hge : l[k] = t[k] := by
          have := HL.out
          subst this
          exact hget
        have HM := hideZ (fst_more hkl)
        rw [hge] at HM
        obtain ⟨c, hc⟩ : ∃ c : UInt8, t[k] = c := ⟨_, rfl⟩
        rw [hc] at HM
        obtain ⟨f, hf⟩ : ∃ f, f = (fst' (l.take k)).2 := ⟨_, rfl⟩
        obtain ⟨ps, hps⟩ : ∃ ps, ps = (fst' (l.take k)).1 := ⟨_, rfl⟩
        rw [← hf] at R1 HM hfull
        rw [← hps] at O1 HM hlen
        have hlk := look_some hfull (c := c.toNat) (UInt8.toNat_lt _)
        obtain ⟨q, hq⟩ : ∃ q, q = look f c.toNat := ⟨_, rfl⟩
        rw [← hq] at hlk HM
        have hq256 := hlk.1
        have HLK := hideZ hlk.2
        have HLE := hideZ hlen
        have HFU := hideZ hfull
        clear hget hge hf hps hrow hown hfull hlen hlk hq
        go_wp2_with fail
        go_loopw [6] (fun i wr2 => ∃ p : Nat, i = .int .i64 p ∧ p ≤ q ∧ IsB wr2 (w.heap.size + 1) 5 .u8 256 f ∧ Own0I wr2 w.heap.size (w.heap.size + 2) u3 ps ∧ Below w.heap.size w wr2) (fun i _ => q - (intOf i).toNat)
        case atStart => exact ⟨0, rfl, Nat.zero_le _, R1.out, O1.out, GB.out⟩
        case round =>
          obtain ⟨p, rfl, hp, hrow2, hown2, hbel2⟩ := hrel
          have R2 := hideZ hrow2
          have O2 := hideZ hown2
          have GB2 := hideZ hbel2
          have hgs2 := hrow2.lt
          have c1 := hrow2.cell (j := p) (by omega)
          have hbnd := HFU.out.2 p (by omega)
          obtain ⟨y, hy⟩ : ∃ y, y = f p := ⟨_, rfl⟩
          rw [← hy] at c1 hbnd
          have HY := hideZ hy
          clear hrow2 hown2 hbel2 hy
          by_cases hpq : p = q
          · have hyc : (y == ((c.toNat : Nat) : Int)) = true := beq_iff_eq.2 (by rw [HY.out, hpq]; exact HLK.out.1)
            have hq1 : q < 256 := hq256
            have HR3 : Hid (∀ nq, IsB (wr.drewN nq) (w.heap.size + 1) 5 .u8 256 f) := fun nq => R2.out
            have HO3 : Hid (∀ nq, Own0I (wr.drewN nq) w.heap.size (w.heap.size + 2) u3 ps) := fun nq => O2.out.keep rfl (fun _ _ _ => rfl)
            have HB3 : Hid (∀ nq, Below w.heap.size w (wr.drewN nq)) := fun nq => below_drewN GB2.out nq
            rw [← hpq] at HM
            clear hpq
            go_wp2_with fail
            go_quiet (fail)
            have R4 := HR3.out nq
            have O4 := HO3.out nq
            have B4 := HB3.out nq
            have z4 : w.heap.size + 1 < (wr.drewN nq).heap.size := hgs2
            generalize wr.drewN nq = W at R4 O4 B4 z4 ⊢
            have HR4 := hideZ R4
            have HO4 := hideZ O4
            have HB4 := hideZ B4
            clear R4 O4 B4 HR3 HO3 HB3 c1
            go_wp2_with (at_builtin; refine wpList_append_own0 _ rfl (.tmp 30) (.tmp 32) 23 rfl (w.heap.size + 2) 2 i0 (.int .i64 0) 1 8 Try.underlying23 hi0 hz0 hz1 hz2 rfl (by decide) _ ps.length (ps.map (Value.int .i64)) rfl (Own0.alloc HO4.out.own0 _) ⟨W.heap.size, 0, none⟩ 1 1 [.int .i64 (p : Int)] rfl rfl (one_newI _ _ _) (one_cellI _) (by decide) (by unfold maxLen; have := HLE.out; omega) (by have := HLE.out; omega) (by simp; omega) ?_)
            intro v' w5 hown' hb5
            have ba : Below (w.heap.size + 2) W w5 := ((Below.refl (w.heap.size + 2) W).alloc (by omega) _).trans (hb5 _ (Nat.le_refl _))
            have N5 : Hid (Own0I w5 w.heap.size (w.heap.size + 2) v' (ps ++ [(p : Int)])) := ⟨(ba.block _ (by omega)).trans HO4.out.1, .inr (In.OwnI.snoc hown')⟩
            have R5 := hideZ (HR4.out.below ba (by omega))
            have B5 := hideZ (HB4.out.trans (ba.mono (by omega)))
            have HFS := hideZ (front_spec (w.heap.size + 1) p 256 5 f w5 R5.out (by omega))
            have z5 := ba.size
            clear hown' hb5 ba
            go_wp2_with fail
            refine HFS.out.mono ?_
            rintro e w6 ⟨rfl, hr6, ha6⟩
            have R6 := hideZ hr6
            have N6 := hideZ (N5.out.keep (ha6.2.2.2.2 _ (by omega) (by omega)) (fun j hj1 hj2 => ha6.2.2.2.2 j hj2 (by omega)))
            have B6 := hideZ (Aft.below B5.out ha6 (by omega) (by omega))
            clear hr6 ha6
            go_wp2_with fail
            go_roundw
            case rel => exact ⟨k + 1, by go_num, by omega, by rw [HM.out]; exact R6.out, by rw [HM.out]; exact N6.out, B6.out⟩
            case measure => simp [intOf]; omega
          · have hyc : (y == ((c.toNat : Nat) : Int)) = false := beq_eq_false_iff_ne.2 (by rw [HY.out]; exact HLK.out.2 p (by omega))
            go_wp2_with fail
            go_quiet (fail)
            all_goals (try go_wp2_with fail)
            go_roundw
            case rel => exact ⟨p + 1, by go_num, by omega, R2.out, O2.out.keep rfl (fun _ _ _ => rfl), below_drewN GB2.out _⟩
            case measure => simp [intOf]; omega
      · have hd0 : decide ((k : Int) < (t.size : Int)) = false := decide_eq_false (by omega)
        obtain rfl : k = t.size := by omega
        have HT : Hid (l.take t.size = l) := by
          unfold Hid
          rw [← HDL.out, List.take_length]
        rw [HT.out, HL.out] at hown
        have HVV := hideZ (hown.done (by omega))
        clear hrow hown hfull hlen
        go_wp2_with fail
        go_ret
        exact ⟨_, rfl, HVV.out, GB.out⟩
end Go.Proofs.Ytmkpakhpjgocjaa.Fr

/- What is drawn for FrontBack: some numbers. -/
namespace Go.Proofs.Ytmkpakhpjgocjaa.Dr
open Go.RowKit
open Go.Proofs.Ytmkpakhpjgocjaa.In (OwnI one_newI one_cellI)
open Go.Proofs.Ytmkpakhpjgocjaa.In.Try (infoI2)
open Go.Proofs.Ytmkpakhpjgocjaa.Fr (frontOf_spec frontR frontR_len)

def vals4 (j : Nat) : Int := if j = 0 then -1 else if j = 1 then 0 else if j = 2 then 255 else 256
theorem n_four (B : Nat) (a : Option Addr) (len cap : Nat) (w : World) (hl : len ≤ 1048576) (hs : Src w B a len cap) :
    Calls Try.prog 71 #[.pointer (some ⟨B, 0, none⟩), .int .i64 4] (w.alloc (.cells #[.int .i64 (-1), .int .i64 0, .int .i64 255, .int .i64 256] 2)) fun e w' =>
      ∃ (j : Nat) (u : Int), e = .returned (.int .i64 j) ∧ (j : Int) < 4 ∧ w'.cell? ⟨w.heap.size, j, none⟩ = some (.int .i64 u) ∧ Only B (w.alloc (.cells #[.int .i64 (-1), .int .i64 0, .int .i64 255, .int .i64 256] 2)) w' := by
  refine (n_any B a len cap 4 _ hl (by omega) (hs.below ((Below.refl _ _).alloc (Nat.le_refl _) _))).mono ?_
  rintro e w' ⟨r, rfl, x0, x1, hsN, ho⟩
  obtain ⟨j, rfl⟩ := Int.eq_ofNat_of_zero_le x0
  have hj : j < 4 := by omega
  refine ⟨j, vals4 j, rfl, by omega, ?_, ho⟩
  refine (World.cell?_of_block (w := w.alloc _) (a := ⟨w.heap.size, j, none⟩) (ho.2.2.2.2 w.heap.size (by have := hs.lt; omega))).trans ?_
  rw [cell_of_row _ _ j _ _ _ (heap_alloc_last w _)]
  obtain rfl | rfl | rfl | rfl : j = 0 ∨ j = 1 ∨ j = 2 ∨ j = 3 := by omega
  all_goals rfl

set_option maxRecDepth 100000 in
set_option maxHeartbeats 2000000 in
theorem drawFb_any (a : Option Addr) (len cap : Nat) (w : World) (hl : len ≤ 1048576) (hr : Row w w.heap.size a len) :
    Calls Try.prog 39 #[.slice a len cap] w fun e w' => ∃ (v : Value) (l : List Int), e = .returned v ∧ OwnI w' w.heap.size v l ∧ l.length ≤ 500 ∧ Below w.heap.size w w' := by
  obtain ⟨i1, hi1, hy0, hy1, hy2⟩ := info_parts infoI2
  have HR := hideD hr
  clear hr
  go_enter Try.func39, Try.ntmps39
  go_wp2_with fail
  refine (source_any a len cap _ hl HR.out).mono ?_
  rintro e w1 ⟨rfl, hs1, hb1, hz⟩
  have HS1 := hideD hs1
  have HB1 := hideD hb1
  have z1 := hb1.size
  clear hs1 hb1 hz
  go_wp2_with fail
  refine (text5_any w.heap.size a len cap _ hl HS1.out).mono ?_
  rintro e w2 ⟨s, hs, rfl, hs2, ha2⟩
  have HS2 := hideD hs2
  have HB2 := hideD (ha2.below HB1.out (Nat.le_refl _) z1)
  have z2 := HB2.out.size
  have hB2 := hs2.lt
  have HW := hideD (frontOf_spec s w2 (by omega))
  have HL := hideD (frontR_len s.data.toList)
  clear hs2 ha2
  generalize frontR s.data.toList = L at HW HL
  go_wp2_with fail
  refine HW.out.mono ?_
  rintro e w3 ⟨v, rfl, ho3, hb3⟩
  have HO3 := hideD ho3
  have HS3 := hideD (HS2.out.below hb3)
  have HB3 := hideD (HB2.out.trans (hb3.mono z2))
  have z3 := hb3.size
  clear ho3 hb3
  go_wp2_with fail
  refine (one_any w.heap.size a len cap 4 _ hl (by omega) HS3.out).mono ?_
  rintro e w4 ⟨r4, rfl, hs4, ho4⟩
  have HO4 : Hid (OwnI w4 w2.heap.size v L) := owns_only HO3.out ho4 hB2
  have HB4 := hideD (ho4.below HB3.out (Nat.le_refl _))
  have HN := hideD (n_four w.heap.size a len cap w4 hl hs4)
  have z4 : w3.heap.size = w4.heap.size := ho4.2.2.2.1.symm
  have z24 : w2.heap.size ≤ w4.heap.size := by omega
  clear hs4 ho4 z4
  cases r4 with
  | false =>
    go_wp2_with fail
    go_ret
    exact ⟨v, L, rfl, HO4.out.mono (by omega), by have := HL.out; omega, HB4.out⟩
  | true =>
    obtain ⟨a', cap', rfl, _, _⟩ := HO4.out.ints
    go_wp2_with fail
    refine HN.out.mono ?_
    rintro e w5 ⟨j, u, rfl, hj, hc, ho5⟩
    have HO5 : Hid (OwnI w5 w2.heap.size (.slice a' L.length cap') L) := owns_only (Ze.OwnI.alloc HO4.out _) ho5 hB2
    have HB5 := hideD (ho5.below (HB4.out.alloc (by omega) _) (Nat.le_refl _))
    have z5 : w4.heap.size + 1 = w5.heap.size := by have := ho5.2.2.2.1; simp at this; omega
    have z25 : w2.heap.size ≤ w5.heap.size := by omega
    clear ho5 z5
    go_wp2_with (at_builtin; refine wpList_append_own _ rfl (.tmp 12) (.tmp 18) 23 rfl w2.heap.size 2 i1 (.int .i64 0) 1 8 Try.underlying23 hi1 hy0 hy1 hy2 rfl (by decide) _ L.length (L.map (Value.int .i64)) rfl ?own ⟨w5.heap.size, 0, none⟩ 1 1 [.int .i64 u] rfl rfl (one_newI _ _ _) (one_cellI _) (by unfold maxLen; have := HL.out; omega) (by have := HL.out; omega) (by simp; omega) ?_)
    case own => exact Ze.OwnI.alloc HO5.out _
    intro v' w6 hown' hgrow _
    have N6 : Hid (OwnI w6 w2.heap.size v' (L ++ [u])) := In.OwnI.snoc hown'
    have b6 := hideD (In.app_one HB5.out (by omega) (by omega) (HO5.out.mono (by omega)) (by exact hgrow))
    clear hown' hgrow
    go_wp2_with fail
    go_ret
    exact ⟨v', L ++ [u], rfl, N6.out.mono (by omega), by have := HL.out; simp; omega, b6.out⟩
end Go.Proofs.Ytmkpakhpjgocjaa.Dr
