/- What both RangeRoot answer. -/
import Derived.Test.YteiicafjjcnioaaDoorRangeRight
import Derived.Test.YteiicafjjcnioaaDoorTreeTop
import Derived.Test.YteiicafjjcnioaaDoorTreeLen
import Derived.Test.YteiicafjjcnioaaDoorTreeWalks
namespace Go.Proofs.YteiicafjjcnioaaDoor.Tr
open Go.RowKit
open Go.Proofs.YteiicafjjcnioaaDoor.St
open Go.Proofs.YteiicafjjcnioaaDoor.Sh (Vars nodeV nodeV_size nodeR nodeR_yes node_impl digest_impl all_any l03Node_any sha)

/-- the nodes of a range put together, the last one first -/
def fold (p : List ByteArray) : Nat → ByteArray → ByteArray
  | 0, h => h
  | m + 1, h => fold p m (nodeV (p.getD m ⟨#[]⟩) h)
theorem fold_zero (p : List ByteArray) (h : ByteArray) : fold p 0 h = h := rfl
theorem fold_succ (p : List ByteArray) (m : Nat) (h : ByteArray) (hm : m < p.length) : fold p (m + 1) h = fold p m (nodeV p[m] h) := by
  show fold p m (nodeV (p.getD m ⟨#[]⟩) h) = _
  rw [List.getD_eq_getElem?_getD, List.getElem?_eq_getElem hm]
  rfl
def rootR (n : Int) (p : List ByteArray) : ByteArray :=
  if rngB n p = true then (if n = 0 then sha ⟨#[]⟩ else fold p (p.length - 1) (p.getD (p.length - 1) ⟨#[]⟩)) else ⟨#[]⟩
theorem rootR_no (n : Int) (p : List ByteArray) (h : rngB n p = false) : rootR n p = ⟨#[]⟩ := if_neg (by rw [h]; decide)
theorem rootR_zero (p : List ByteArray) (h : rngB 0 p = true) : rootR 0 p = sha ⟨#[]⟩ := by
  unfold rootR
  rw [if_pos h, if_pos rfl]
theorem rootR_yes (n : Int) (p : List ByteArray) (h : rngB n p = true) (h0 : ¬ n = 0) (hp : 0 < p.length) : rootR n p = fold p (p.length - 1) (p[p.length - 1]'(by omega)) := by
  unfold rootR
  rw [if_pos h, if_neg h0, List.getD_eq_getElem?_getD, List.getElem?_eq_getElem (by omega)]
  rfl
theorem ones_pos (n : Nat) (h : 0 < n) : 0 < ones n := by
  induction n using Nat.strongRecOn with
  | ind n ih =>
    rw [ones_step]
    by_cases h1 : n % 2 = 1
    · omega
    · have := ih (n / 2) (by omega) (by omega)
      omega
theorem rngB_facts (n : Int) (p : List ByteArray) (h : rngB n p = true) : 0 ≤ n ∧ n ≤ 1000000 ∧ p.length = ones n.toNat ∧ wide p = true := by
  unfold rngB at h
  simp only [Bool.and_eq_true, decide_eq_true_eq] at h
  exact ⟨h.1.1.1, h.1.1.2, h.1.2, h.2⟩

set_option maxRecDepth 100000 in
set_option maxHeartbeats 4000000 in
theorem root_impl (n : Int) (p : List ByteArray) (a : Option Addr) (cap B : Nat) (w : World) (hp : p.length ≤ 1048576) (hcap : p.length ≤ cap) (hs : Strs w B a p) (hB : B ≤ w.heap.size) (hV : Vars w) :
    Calls Tryd.prog 36 #[.agg #[.int .i64 n, .slice a p.length cap]] w fun e w' => e = .returned (.string (rootR n p)) ∧ Below w.heap.size w w' := by
  have HRt := hideT (fun (W : World) (hW : Below w.heap.size w W) => rng_impl n p a cap B W hp (hs.after hW hB) (Nat.le_trans hB hW.size))
  have HS := hideT hs
  have HV := hideT hV
  have hv2 := hV.two
  clear hs hV
  cases hr : rngB n p with
  | false =>
    have HE := hideT (rootR_no n p hr)
    rw [hr] at HRt
    generalize p.length = m at hp hcap HRt ⊢
    go_enter Tryd.func36, Tryd.ntmps36
    go_wp2_with fail
    refine (HRt.out _ ((Below.refl _ _).alloc (Nat.le_refl _) _)).mono ?_
    rintro e w1 ⟨rfl, hb1⟩
    have HB1 := hideT (below2 ((Below.refl _ _).alloc (Nat.le_refl _) _) hb1)
    clear hb1
    go_wp2_with fail
    go_ret
    exact ⟨Nu.ret_strJ HE.out.symm, HB1.out⟩
  | true =>
    obtain ⟨n0, n1, hl, hwd⟩ := rngB_facts n p hr
    obtain ⟨k, rfl⟩ : ∃ k : Nat, n = k := ⟨n.toNat, by omega⟩
    by_cases h0 : k = 0
    · subst h0
      have HE := hideT (rootR_zero p hr)
      have HD := hideT empty_dig
      rw [hr] at HRt
      clear hl hwd n0 n1
      generalize p.length = m at hp hcap HRt ⊢
      go_enter Tryd.func36, Tryd.ntmps36
      go_wp2_with fail
      refine (HRt.out _ ((Below.refl _ _).alloc (Nat.le_refl _) _)).mono ?_
      rintro e w1 ⟨rfl, hb1⟩
      have HB1 := hideT (below2 ((Below.refl _ _).alloc (Nat.le_refl _) _) hb1)
      have c0 : w1.cell? ⟨w.heap.size, 0, none⟩ = some (.int .i64 0) := (hb1.cell (p := ⟨w.heap.size, 0, none⟩) (by simp)).trans (by simp)
      clear hb1
      go_wp2_with fail
      refine (digest_impl ⟨#[]⟩ _ (by decide) (HV.out.below HB1.out hv2)).mono ?_
      rw [HD.out]
      rintro e w2 ⟨rfl, hb2⟩
      have HB2 := hideT (below2 HB1.out hb2)
      clear hb2
      go_wp2_with fail
      go_ret
      exact ⟨Nu.ret_strJ HE.out.symm, HB2.out⟩
    · have hpl : 0 < p.length := by rw [hl]; exact ones_pos _ (by omega)
      have HE := hideT (rootR_yes k p hr (by omega) hpl)
      rw [hr] at HRt
      have HW := hideT ((wide_yes p).1 hwd)
      have HFS := hideT (fold_succ p)
      clear hl hwd hr
      obtain ⟨b, off, rfl, hb, hc⟩ := HS.out.some hpl
      have HC := hideT (fun (W : World) (hW : Below w.heap.size w W) (j : Nat) (h : j < p.length) => (hW.cell (p := ⟨b, off + j, none⟩) (Nat.lt_of_lt_of_le hb hB)).trans (hc j h))
      clear hc
      obtain ⟨m, hm⟩ : ∃ m, m = p.length := ⟨_, rfl⟩
      have HM := hideT hm
      obtain ⟨tl, htl⟩ : ∃ tl, tl = p[p.length - 1]'(by omega) := ⟨_, rfl⟩
      rw [← htl] at HE
      have HTS : Hid (tl.size = 32) := by unfold Hid; rw [htl]; exact HW.out _ _
      have HTC : Hid (∀ W : World, Below w.heap.size w W → W.cell? ⟨b, off + (m - 1), none⟩ = some (.string tl)) := fun W hW => by
        have hh := HC.out W hW (p.length - 1) (by omega)
        rw [← htl, ← hm] at hh
        exact hh
      clear htl
      rw [← hm] at hp hcap HRt hpl HE ⊢
      clear hm
      have gk : ((k : Int) == 0) = false := by simp; omega
      go_enter Tryd.func36, Tryd.ntmps36
      go_wp2_with fail
      refine (HRt.out _ ((Below.refl _ _).alloc (Nat.le_refl _) _)).mono ?_
      rintro e w1 ⟨rfl, hb1⟩
      have HB1 := hideT (below2 ((Below.refl _ _).alloc (Nat.le_refl _) _) hb1)
      have c0 : w1.cell? ⟨w.heap.size, 0, none⟩ = some (.int .i64 k) := (hb1.cell (p := ⟨w.heap.size, 0, none⟩) (by simp)).trans (by simp)
      have c1 : w1.cell? ⟨w.heap.size, 1, none⟩ = some (.slice (some ⟨b, off, none⟩) m cap) := (hb1.cell (p := ⟨w.heap.size, 1, none⟩) (by simp)).trans (by simp)
      clear hb1
      go_wp2_with fail
      refine (cutLast_any b off m cap tl w1 (by omega) (by omega) hcap (HTC.out w1 HB1.out)).mono ?_
      rintro e w2 ⟨rfl, hb2⟩
      have HB2 := hideT (below2 HB1.out hb2)
      clear hb2 c0 c1
      go_wp2_with fail
      go_loopw [3, 4] (fun rv hv wr => ∃ (j : Nat) (h : ByteArray), rv = .slice (some ⟨b, off, none⟩) j j ∧ hv = .string h ∧ j ≤ m - 1 ∧ h.size = 32 ∧ rootR k p = fold p j h ∧ Below w.heap.size w wr) (fun rv _ _ => match rv with | .slice _ n _ => n | _ => 0)
      case atStart => exact ⟨m - 1, tl, rfl, rfl, Nat.le_refl _, HTS.out, HE.out, HB2.out⟩
      case round =>
        obtain ⟨j, h, rfl, rfl, hj, hh, hfold, hbel⟩ := hrel
        have HB := hideT hbel
        have HFo := hideT hfold
        clear hbel hfold
        by_cases hj0 : j = 0
        · have HQ : Hid (rootR k p = h) := by
            unfold Hid
            rw [HFo.out, hj0, fold_zero]
          have g0 : ((j : Int) == 0) = true := by simp; omega
          have g1 : ¬ 0 < (j : Int) := by omega
          subst hj0
          go_wp2_with fail
          go_ret
          exact ⟨Nu.ret_strJ HQ.out.symm, HB.out⟩
        · have g1 : 0 < (j : Int) := by omega
          have hjl : j - 1 < p.length := by have := HM.out; omega
          have ci := HC.out wr HB.out (j - 1) hjl
          have HSz := hideT (HW.out (j - 1) hjl)
          have HFj := hideT (HFS.out (j - 1) h hjl)
          obtain ⟨s, hse⟩ : ∃ s, s = p[j - 1] := ⟨_, rfl⟩
          rw [← hse] at ci HSz HFj
          rw [show j - 1 + 1 = j by omega] at HFj
          clear hse
          have HN := hideT (nodeR_yes s h HSz.out hh)
          go_wp2_with fail
          refine (cutLast_any b off j j s wr (by omega) (by omega) (Nat.le_refl _) ci).mono ?_
          rintro e w3 ⟨rfl, hb3⟩
          have HB3 := hideT (HB.out.trans (hb3.mono HB.out.size))
          clear hb3 ci
          go_wp2_with fail
          refine (node_impl s h w3 (HV.out.below HB3.out hv2)).mono ?_
          rw [HN.out]
          rintro e w4 ⟨rfl, hb4⟩
          have HB4 := hideT (HB3.out.trans (hb4.mono HB3.out.size))
          clear hb4
          go_wp2_with fail
          go_roundw
          case rel => exact ⟨j - 1, nodeV s h, rfl, rfl, by omega, nodeV_size _ _, by rw [HFo.out, HFj.out], HB4.out⟩
          case measure => simp; omega

set_option maxRecDepth 100000 in
set_option maxHeartbeats 4000000 in
theorem root_spec (n : Int) (p : List ByteArray) (a : Option Addr) (cap B : Nat) (w : World) (hp : p.length ≤ 1048576) (hs : Strs w B a p) (hB : B ≤ w.heap.size) :
    Calls Tryd.prog 62 #[.agg #[.int .i64 n, .slice a p.length cap]] w fun e w' => e = .returned (.string (rootR n p)) ∧ Below w.heap.size w w' := by
  have HRt := hideT (fun (W : World) (hW : Below w.heap.size w W) => rng_spec n p a cap B W hp (hs.after hW hB) (Nat.le_trans hB hW.size))
  have HS := hideT hs
  clear hs
  cases hr : rngB n p with
  | false =>
    have HE := hideT (rootR_no n p hr)
    rw [hr] at HRt
    generalize p.length = m at hp HRt ⊢
    go_enter Tryd.func62, Tryd.ntmps62
    go_wp2_with fail
    refine (HRt.out _ ((Below.refl _ _).alloc (Nat.le_refl _) _)).mono ?_
    rintro e w1 ⟨rfl, hb1⟩
    have HB1 := hideT (below2 ((Below.refl _ _).alloc (Nat.le_refl _) _) hb1)
    clear hb1
    go_wp2_with fail
    go_ret
    exact ⟨Nu.ret_strJ HE.out.symm, HB1.out⟩
  | true =>
    obtain ⟨n0, n1, hl, hwd⟩ := rngB_facts n p hr
    obtain ⟨k, rfl⟩ : ∃ k : Nat, n = k := ⟨n.toNat, by omega⟩
    by_cases h0 : k = 0
    · subst h0
      have HE := hideT (rootR_zero p hr)
      rw [hr] at HRt
      clear hl hwd n0 n1
      generalize p.length = m at hp HRt ⊢
      go_enter Tryd.func62, Tryd.ntmps62
      go_wp2_with fail
      refine (HRt.out _ ((Below.refl _ _).alloc (Nat.le_refl _) _)).mono ?_
      rintro e w1 ⟨rfl, hb1⟩
      have HB1 := hideT (below2 ((Below.refl _ _).alloc (Nat.le_refl _) _) hb1)
      have c0 : w1.cell? ⟨w.heap.size, 0, none⟩ = some (.int .i64 0) := (hb1.cell (p := ⟨w.heap.size, 0, none⟩) (by simp)).trans (by simp)
      clear hb1
      go_wp2_with fail
      refine (all_any ⟨#[]⟩ _ (by decide)).mono ?_
      rintro e w2 ⟨rfl, hb2⟩
      have HB2 := hideT (below2 HB1.out hb2)
      clear hb2
      go_wp2_with fail
      go_ret
      exact ⟨Nu.ret_strJ HE.out.symm, HB2.out⟩
    · have hpl : 0 < p.length := by rw [hl]; exact ones_pos _ (by omega)
      have HE := hideT (rootR_yes k p hr (by omega) hpl)
      rw [hr] at HRt
      have HW := hideT ((wide_yes p).1 hwd)
      have HFS := hideT (fold_succ p)
      clear hl hwd hr
      obtain ⟨b, off, rfl, hb, hc⟩ := HS.out.some hpl
      have HC := hideT (fun (W : World) (hW : Below w.heap.size w W) (j : Nat) (h : j < p.length) => (hW.cell (p := ⟨b, off + j, none⟩) (Nat.lt_of_lt_of_le hb hB)).trans (hc j h))
      clear hc
      obtain ⟨m, hm⟩ : ∃ m, m = p.length := ⟨_, rfl⟩
      have HM := hideT hm
      obtain ⟨tl, htl⟩ : ∃ tl, tl = p[p.length - 1]'(by omega) := ⟨_, rfl⟩
      rw [← htl] at HE
      have HTS : Hid (tl.size = 32) := by unfold Hid; rw [htl]; exact HW.out _ _
      have HTC : Hid (∀ W : World, Below w.heap.size w W → W.cell? ⟨b, off + (m - 1), none⟩ = some (.string tl)) := fun W hW => by
        have hh := HC.out W hW (p.length - 1) (by omega)
        rw [← htl, ← hm] at hh
        exact hh
      clear htl
      rw [← hm] at hp HRt hpl HE ⊢
      clear hm
      obtain ⟨q, rfl⟩ : ∃ q, m = q + 1 := ⟨m - 1, by omega⟩
      rw [show q + 1 - 1 = q by omega] at HTC HE
      have gk : ((k : Int) == 0) = false := by simp; omega
      go_enter Tryd.func62, Tryd.ntmps62
      go_wp2_with fail
      refine (HRt.out _ ((Below.refl _ _).alloc (Nat.le_refl _) _)).mono ?_
      rintro e w1 ⟨rfl, hb1⟩
      have HB1 := hideT (below2 ((Below.refl _ _).alloc (Nat.le_refl _) _) hb1)
      have c0 : w1.cell? ⟨w.heap.size, 0, none⟩ = some (.int .i64 k) := (hb1.cell (p := ⟨w.heap.size, 0, none⟩) (by simp)).trans (by simp)
      have HC1 : Hid (w1.cell? ⟨w.heap.size, 1, none⟩ = some (.slice (some ⟨b, off, none⟩) (q + 1) cap)) := (hb1.cell (p := ⟨w.heap.size, 1, none⟩) (by simp)).trans (by simp)
      have c1 := HC1.out
      have ct := HTC.out w1 HB1.out
      have hzw : w.heap.size < w1.heap.size := World.block_lt_of_cell? w1 _ c0
      clear hb1
      have g9 : ((q + 1 : Nat) : Int) - 1 = q := by omega
      go_wp2_with fail
      clear c0 c1 ct
      go_loopw [5, 4] (fun iv hv wr => ∃ (j : Nat) (h : ByteArray), iv = .int .i64 ((j : Int) - 1) ∧ hv = .string h ∧ j ≤ q ∧ h.size = 32 ∧ rootR k p = fold p j h ∧ Below w1.heap.size w1 wr) (fun iv _ _ => (intOf iv + 1).toNat)
      case atStart => exact ⟨q, tl, rfl, rfl, Nat.le_refl _, HTS.out, HE.out, Below.refl _ _⟩
      case round =>
        obtain ⟨j, h, rfl, rfl, hj, hh, hfold, hbel⟩ := hrel
        have HB := hideT hbel
        have HFo := hideT hfold
        clear hbel hfold
        by_cases hj0 : j = 0
        · have HQ : Hid (rootR k p = h) := by
            unfold Hid
            rw [HFo.out, hj0, fold_zero]
          subst hj0
          go_wp2_with fail
          go_ret
          exact ⟨Nu.ret_strJ HQ.out.symm, below2 HB1.out HB.out⟩
        · obtain ⟨i, rfl⟩ : ∃ i, j = i + 1 := ⟨j - 1, by omega⟩
          have hjl : i < p.length := by have := HM.out; omega
          have ci := HC.out wr (below2 HB1.out HB.out) i hjl
          have c1 := (HB.out.cell (p := ⟨w.heap.size, 1, none⟩) hzw).trans HC1.out
          have HSz := hideT (HW.out i hjl)
          have hs32 := HW.out i hjl
          have HFj := hideT (HFS.out i h hjl)
          obtain ⟨s, hse⟩ : ∃ s, s = p[i] := ⟨_, rfl⟩
          rw [← hse] at ci HSz HFj hs32
          clear hse
          have g1 : ((i + 1 : Nat) : Int) - 1 = i := by omega
          rw [g1]
          go_wp2_with fail
          refine (l03Node_any s h wr (by omega) (by omega)).mono ?_
          rintro e w4 ⟨rfl, hb4⟩
          have HB4 := hideT (HB.out.trans (hb4.mono HB.out.size))
          clear hb4 ci c1
          go_wp2_with fail
          go_roundw
          case rel => exact ⟨i, nodeV s h, rfl, rfl, by omega, nodeV_size _ _, by rw [HFo.out, HFj.out], HB4.out⟩
          case measure => simp [intOf]
end Go.Proofs.YteiicafjjcnioaaDoor.Tr
