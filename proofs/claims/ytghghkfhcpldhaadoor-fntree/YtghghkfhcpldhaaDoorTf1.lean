/- Texts put together: RangeRoot, AddPlain, AppOpt, AddWalks, AddRows, AddRows2. -/
import Derived.Test.YtghghkfhcpldhaaDoorTf0
import Derived.Test.YtghghkfhcpldhaaDoorTf9
import Derived.Test.YtghghkfhcpldhaaDoorTf7
import Derived.Test.YtghghkfhcpldhaaDoorStrOwn
import Derived.Test.YtghghkfhcpldhaaDoorShaAppend
import Derived.ArgAppend
import Derived.Laws.OwnMore
/- What both RangeRoot answer. -/
namespace Go.Proofs.YtghghkfhcpldhaaDoor.Tr
open Go.RowKit
open Go.Proofs.YtghghkfhcpldhaaDoor.St
open Go.Proofs.YtghghkfhcpldhaaDoor.Sh (Vars nodeV nodeV_size nodeR nodeR_yes node_impl digest_impl all_any l03Node_any sha)

/-- the nodes of a range put together, the last one first -/
def fold (p : List ByteArray) : Nat → ByteArray → ByteArray
  | 0, h => h
  | m + 1, h => fold p m (nodeV (p.getD m ⟨#[]⟩) h)
theorem fold_zero (p : List ByteArray) (h : ByteArray) : fold p 0 h = h := rfl
theorem fold_succ (p : List ByteArray) (m : Nat) (h : ByteArray) (hm : m < p.length) : fold p (m + 1) h = fold p m (nodeV p[m] h) := by
  show fold p m (nodeV (p.getD m ⟨#[]⟩) h) = _
  rw [List.getD_eq_getElem?_getD, List.getElem?_eq_getElem hm]
  rfl
def rootR (n : Int) (p : List ByteArray) : ByteArray :=
  if rngB n p = true then (if n = 0 then sha ⟨#[]⟩ else fold p (p.length - 1) (p.getD (p.length - 1) ⟨#[]⟩)) else ⟨#[]⟩
theorem rootR_no (n : Int) (p : List ByteArray) (h : rngB n p = false) : rootR n p = ⟨#[]⟩ := if_neg (by rw [h]; decide)
theorem rootR_zero (p : List ByteArray) (h : rngB 0 p = true) : rootR 0 p = sha ⟨#[]⟩ := by
  unfold rootR
  rw [if_pos h, if_pos rfl]
theorem rootR_yes (n : Int) (p : List ByteArray) (h : rngB n p = true) (h0 : ¬ n = 0) (hp : 0 < p.length) : rootR n p = fold p (p.length - 1) (p[p.length - 1]'(by omega)) := by
  unfold rootR
  rw [if_pos h, if_neg h0, List.getD_eq_getElem?_getD, List.getElem?_eq_getElem (by omega)]
  rfl
theorem ones_pos (n : Nat) (h : 0 < n) : 0 < ones n := by
  induction n using Nat.strongRecOn with
  | ind n ih =>
    rw [ones_step]
    by_cases h1 : n % 2 = 1
    · omega
    · have := ih (n / 2) (by omega) (by omega)
      omega
theorem rngB_facts (n : Int) (p : List ByteArray) (h : rngB n p = true) : 0 ≤ n ∧ n ≤ 1000000 ∧ p.length = ones n.toNat ∧ wide p = true := by
  unfold rngB at h
  simp only [Bool.and_eq_true, decide_eq_true_eq] at h
  exact ⟨h.1.1.1, h.1.1.2, h.1.2, h.2⟩

set_option maxRecDepth 100000 in
set_option maxHeartbeats 4000000 in
theorem root_impl (n : Int) (p : List ByteArray) (a : Option Addr) (cap B : Nat) (w : World) (hp : p.length ≤ 1048576) (hcap : p.length ≤ cap) (hs : Strs w B a p) (hB : B ≤ w.heap.size) (hV : Vars w) :
    Calls Tryd.prog 20 #[.agg #[.int .i64 n, .slice a p.length cap]] w fun e w' => e = .returned (.string (rootR n p)) ∧ Below w.heap.size w w' := by
  have HRt := hideT (fun (W : World) (hW : Below w.heap.size w W) => rng_impl n p a cap B W hp (hs.after hW hB) (Nat.le_trans hB hW.size))
  have HS := hideT hs
  have HV := hideT hV
  have hv2 := hV.two
  clear hs hV
  cases hr : rngB n p with
  | false =>
    have HE := hideT (rootR_no n p hr)
    rw [hr] at HRt
    generalize p.length = m at hp hcap HRt ⊢
    go_enter Tryd.func20, Tryd.ntmps20
    go_wp2_with fail
    refine (HRt.out _ ((Below.refl _ _).alloc (Nat.le_refl _) _)).mono ?_
    rintro e w1 ⟨rfl, hb1⟩
    have HB1 := hideT (below2 ((Below.refl _ _).alloc (Nat.le_refl _) _) hb1)
    clear hb1
    go_wp2_with fail
    go_ret
    exact ⟨Nu.ret_strJ HE.out.symm, HB1.out⟩
  | true =>
    obtain ⟨n0, n1, hl, hwd⟩ := rngB_facts n p hr
    obtain ⟨k, rfl⟩ : ∃ k : Nat, n = k := ⟨n.toNat, by omega⟩
    by_cases h0 : k = 0
    · subst h0
      have HE := hideT (rootR_zero p hr)
      have HD := hideT empty_dig
      rw [hr] at HRt
      clear hl hwd n0 n1
      generalize p.length = m at hp hcap HRt ⊢
      go_enter Tryd.func20, Tryd.ntmps20
      go_wp2_with fail
      refine (HRt.out _ ((Below.refl _ _).alloc (Nat.le_refl _) _)).mono ?_
      rintro e w1 ⟨rfl, hb1⟩
      have HB1 := hideT (below2 ((Below.refl _ _).alloc (Nat.le_refl _) _) hb1)
      have c0 : w1.cell? ⟨w.heap.size, 0, none⟩ = some (.int .i64 0) := (hb1.cell (p := ⟨w.heap.size, 0, none⟩) (by simp)).trans (by simp)
      clear hb1
      go_wp2_with fail
      refine (digest_impl ⟨#[]⟩ _ (by decide) (HV.out.below HB1.out hv2)).mono ?_
      rw [HD.out]
      rintro e w2 ⟨rfl, hb2⟩
      have HB2 := hideT (below2 HB1.out hb2)
      clear hb2
      go_wp2_with fail
      go_ret
      exact ⟨Nu.ret_strJ HE.out.symm, HB2.out⟩
    · have hpl : 0 < p.length := by rw [hl]; exact ones_pos _ (by omega)
      have HE := hideT (rootR_yes k p hr (by omega) hpl)
      rw [hr] at HRt
      have HW := hideT ((wide_yes p).1 hwd)
      have HFS := hideT (fold_succ p)
      clear hl hwd hr
      obtain ⟨b, off, rfl, hb, hc⟩ := HS.out.some hpl
      have HC := hideT (fun (W : World) (hW : Below w.heap.size w W) (j : Nat) (h : j < p.length) => (hW.cell (p := ⟨b, off + j, none⟩) (Nat.lt_of_lt_of_le hb hB)).trans (hc j h))
      clear hc
      obtain ⟨m, hm⟩ : ∃ m, m = p.length := ⟨_, rfl⟩
      have HM := hideT hm
      obtain ⟨tl, htl⟩ : ∃ tl, tl = p[p.length - 1]'(by omega) := ⟨_, rfl⟩
      rw [← htl] at HE
      have HTS : Hid (tl.size = 32) := by unfold Hid; rw [htl]; exact HW.out _ _
      have HTC : Hid (∀ W : World, Below w.heap.size w W → W.cell? ⟨b, off + (m - 1), none⟩ = some (.string tl)) := fun W hW => by
        have hh := HC.out W hW (p.length - 1) (by omega)
        rw [← htl, ← hm] at hh
        exact hh
      clear htl
      rw [← hm] at hp hcap HRt hpl HE ⊢
      clear hm
      have gk : ((k : Int) == 0) = false := by simp; omega
      go_enter Tryd.func20, Tryd.ntmps20
      go_wp2_with fail
      refine (HRt.out _ ((Below.refl _ _).alloc (Nat.le_refl _) _)).mono ?_
      rintro e w1 ⟨rfl, hb1⟩
      have HB1 := hideT (below2 ((Below.refl _ _).alloc (Nat.le_refl _) _) hb1)
      have c0 : w1.cell? ⟨w.heap.size, 0, none⟩ = some (.int .i64 k) := (hb1.cell (p := ⟨w.heap.size, 0, none⟩) (by simp)).trans (by simp)
      have c1 : w1.cell? ⟨w.heap.size, 1, none⟩ = some (.slice (some ⟨b, off, none⟩) m cap) := (hb1.cell (p := ⟨w.heap.size, 1, none⟩) (by simp)).trans (by simp)
      clear hb1
      go_wp2_with fail
      refine (cutLast_any b off m cap tl w1 (by omega) (by omega) hcap (HTC.out w1 HB1.out)).mono ?_
      rintro e w2 ⟨rfl, hb2⟩
      have HB2 := hideT (below2 HB1.out hb2)
      clear hb2 c0 c1
      go_wp2_with fail
      go_loopw [3, 4] (fun rv hv wr => ∃ (j : Nat) (h : ByteArray), rv = .slice (some ⟨b, off, none⟩) j j ∧ hv = .string h ∧ j ≤ m - 1 ∧ h.size = 32 ∧ rootR k p = fold p j h ∧ Below w.heap.size w wr) (fun rv _ _ => match rv with | .slice _ n _ => n | _ => 0)
      case atStart => exact ⟨m - 1, tl, rfl, rfl, Nat.le_refl _, HTS.out, HE.out, HB2.out⟩
      case round =>
        obtain ⟨j, h, rfl, rfl, hj, hh, hfold, hbel⟩ := hrel
        have HB := hideT hbel
        have HFo := hideT hfold
        clear hbel hfold
        by_cases hj0 : j = 0
        · have HQ : Hid (rootR k p = h) := by
            unfold Hid
            rw [HFo.out, hj0, fold_zero]
          have g0 : ((j : Int) == 0) = true := by simp; omega
          have g1 : ¬ 0 < (j : Int) := by omega
          subst hj0
          go_wp2_with fail
          go_ret
          exact ⟨Nu.ret_strJ HQ.out.symm, HB.out⟩
        · have g1 : 0 < (j : Int) := by omega
          have hjl : j - 1 < p.length := by have := HM.out; omega
          have ci := HC.out wr HB.out (j - 1) hjl
          have HSz := hideT (HW.out (j - 1) hjl)
          have HFj := hideT (HFS.out (j - 1) h hjl)
          obtain ⟨s, hse⟩ : ∃ s, s = p[j - 1] := ⟨_, rfl⟩
          rw [← hse] at ci HSz HFj
          rw [show j - 1 + 1 = j by omega] at HFj
          clear hse
          have HN := hideT (nodeR_yes s h HSz.out hh)
          go_wp2_with fail
          refine (cutLast_any b off j j s wr (by omega) (by omega) (Nat.le_refl _) ci).mono ?_
          rintro e w3 ⟨rfl, hb3⟩
          have HB3 := hideT (HB.out.trans (hb3.mono HB.out.size))
          clear hb3 ci
          go_wp2_with fail
          refine (node_impl s h w3 (HV.out.below HB3.out hv2)).mono ?_
          rw [HN.out]
          rintro e w4 ⟨rfl, hb4⟩
          have HB4 := hideT (HB3.out.trans (hb4.mono HB3.out.size))
          clear hb4
          go_wp2_with fail
          go_roundw
          case rel => exact ⟨j - 1, nodeV s h, rfl, rfl, by omega, nodeV_size _ _, by rw [HFo.out, HFj.out], HB4.out⟩
          case measure => simp; omega
end Go.Proofs.YtghghkfhcpldhaaDoor.Tr

/- What RangeAdd answers; rows that are cut, and append onto them. -/
namespace Go.Proofs.YtghghkfhcpldhaaDoor.Tr
open Go.RowKit
open Go.Proofs.YtghghkfhcpldhaaDoor.St
open Go.Proofs.YtghghkfhcpldhaaDoor.Sh (Vars leafV nodeV nodeV_size)

/-- the trees at the low end put together, as far as the bits 1 go -/
def carry (p : List ByteArray) : Nat → Nat → ByteArray → List ByteArray
  | 0, _, h => [h]
  | j + 1, low, h => if low % 2 = 1 then carry p j (low / 2) (nodeV (p.getD j ⟨#[]⟩) h) else p.take (j + 1) ++ [h]
theorem carry_even (p : List ByteArray) (j low : Nat) (h : ByteArray) (hl : ¬ low % 2 = 1) : carry p j low h = p.take j ++ [h] := by
  cases j with
  | zero => simp [carry]
  | succ j => rw [carry, if_neg hl]
theorem carry_odd (p : List ByteArray) (j low : Nat) (h : ByteArray) (hl : low % 2 = 1) (hj : j < p.length) : carry p (j + 1) low h = carry p j (low / 2) (nodeV p[j] h) := by
  rw [carry, if_pos hl, List.getD_eq_getElem?_getD, List.getElem?_eq_getElem hj]
  rfl
theorem carry_length (p : List ByteArray) (j low : Nat) (h : ByteArray) (hj : j ≤ p.length) : (carry p j low h).length ≤ p.length + 1 := by
  induction j generalizing low h with
  | zero => simp [carry]
  | succ j ih =>
    rw [carry]
    by_cases hl : low % 2 = 1
    · rw [if_pos hl]
      exact ih _ _ (by omega)
    · rw [if_neg hl]
      simp
      omega
def addOk (n : Int) (p : List ByteArray) (t : ByteArray) : Bool := rngB n p && decide (n < 1000000) && decide (t.size ≤ 100)
def addN (n : Int) (p : List ByteArray) (t : ByteArray) : Int := if 8000 < t.size then 0 else if addOk n p t = true then n + 1 else n
def addR (n : Int) (p : List ByteArray) (t : ByteArray) : List ByteArray := if 8000 < t.size then [] else if addOk n p t = true then carry p p.length n.toNat (leafV t) else p
theorem add_big (n : Int) (p : List ByteArray) (t : ByteArray) (h : 8000 < t.size) : addN n p t = 0 ∧ addR n p t = [] := ⟨if_pos h, if_pos h⟩
theorem add_no (n : Int) (p : List ByteArray) (t : ByteArray) (h : ¬ 8000 < t.size) (h2 : ¬ addOk n p t = true) : addN n p t = n ∧ addR n p t = p := by
  unfold addN addR
  rw [if_neg h, if_neg h2, if_neg h, if_neg h2]
  exact ⟨rfl, rfl⟩
theorem add_yes (n : Int) (p : List ByteArray) (t : ByteArray) (h : ¬ 8000 < t.size) (h2 : addOk n p t = true) : addN n p t = n + 1 ∧ addR n p t = carry p p.length n.toNat (leafV t) := by
  unfold addN addR
  rw [if_neg h, if_pos h2, if_neg h, if_pos h2]
  exact ⟨rfl, rfl⟩
theorem addR_length (n : Int) (p : List ByteArray) (t : ByteArray) : (addR n p t).length ≤ p.length + 1 := by
  unfold addR
  by_cases h : 8000 < t.size
  · rw [if_pos h]
    simp
  · rw [if_neg h]
    by_cases h2 : addOk n p t = true
    · rw [if_pos h2]
      exact carry_length _ _ _ _ (Nat.le_refl _)
    · rw [if_neg h2]
      omega
theorem addOk_facts (n : Int) (p : List ByteArray) (t : ByteArray) (h : addOk n p t = true) : rngB n p = true ∧ n < 1000000 ∧ t.size ≤ 100 := by
  unfold addOk at h
  simp only [Bool.and_eq_true, decide_eq_true_eq] at h
  exact ⟨h.1.1, h.1.2, h.2⟩
theorem addOk_no (n : Int) (p : List ByteArray) (t : ByteArray) (h : ¬ (rngB n p = true ∧ n < 1000000 ∧ t.size ≤ 100)) : ¬ addOk n p t = true := fun h2 => h (addOk_facts n p t h2)
theorem addOk_yes (n : Int) (p : List ByteArray) (t : ByteArray) (h : rngB n p = true) (h1 : n < 1000000) (h2 : t.size ≤ 100) : addOk n p t = true := by
  unfold addOk
  rw [h, decide_eq_true h1, decide_eq_true h2]
  rfl
theorem map_len1 (l : List ByteArray) : (l.map Value.string).length = l.length * 1 := by simp
theorem map_cell1 {w : World} {b off : Nat} {l : List ByteArray} (h : ∀ j (h : j < l.length), w.cell? ⟨b, off + j, none⟩ = some (.string l[j])) : ∀ (j : Nat) (u : Value), (l.map Value.string)[j]? = some u → w.cell? ((⟨b, off, none⟩ : Addr).add j) = some u := by
  intro j u hj
  rw [List.getElem?_map] at hj
  by_cases hl : j < l.length
  · rw [List.getElem?_eq_getElem hl] at hj
    simp at hj
    subst hj
    have e : (⟨b, off, none⟩ : Addr).add j = ⟨b, off + j, none⟩ := by unfold Addr.add; split <;> simp_all
    rw [e]
    exact h j hl
  · rw [List.getElem?_eq_none (by omega)] at hj
    simp at hj
theorem map_one1 (l : List ByteArray) : ∀ u ∈ l.map Value.string, u.oneCell' = true := by
  intro u hu
  simp at hu
  obtain ⟨s, _, rfl⟩ := hu
  rfl
theorem own_set_low {w : World} {base : Nat} {v : Value} {l : List ByteArray} (h : OwnS w base v l) (a : Addr) (x : Value) (ha : a.block < base) : OwnS (w.setCell a x) base v l := by
  obtain ⟨hl, h⟩ := h
  refine ⟨hl, ?_⟩
  rcases h with h | ⟨g, cap, cur, hv, hg, hb, rest⟩
  · exact .inl h
  · refine .inr ⟨g, cap, cur, hv, hg, ?_, rest⟩
    rw [heap_setCell_other w a g x (by omega)]
    exact hb

/-- a row that may be cut at its end: its capacity is its length, or it is owned whole -/
def Rw (w : World) (base : Nat) (v : Value) (l : List ByteArray) : Prop :=
  OwnS w base v l ∨ ∃ g, v = .slice (some ⟨g, 0, none⟩) l.length l.length ∧ base ≤ g ∧ ∀ j (h : j < l.length), w.cell? ⟨g, j, none⟩ = some (.string l[j])
theorem Rw.below {w w' : World} {base : Nat} {v : Value} {l : List ByteArray} (h : Rw w base v l) (b : Below w.heap.size w w') : Rw w' base v l := by
  rcases h with h | ⟨g, hv, hg, hc⟩
  · exact .inl (h.below b)
  · exact .inr ⟨g, hv, hg, fun j hj => (b.cell (p := ⟨g, j, none⟩) (World.block_lt_of_cell? w _ (hc j hj))).trans (hc j hj)⟩
/-- a row with one and more as a slice -/
theorem Rw.slice {w : World} {base : Nat} {v : Value} {l : List ByteArray} (h : Rw w base v l) (hl : 0 < l.length) : ∃ g cap, v = .slice (some ⟨g, 0, none⟩) l.length cap ∧ base ≤ g ∧ l.length ≤ cap ∧ ∀ j (h : j < l.length), w.cell? ⟨g, j, none⟩ = some (.string l[j]) := by
  rcases h with h | ⟨g, hv, hg, hc⟩
  · rcases h.split with ⟨_, h0⟩ | ⟨g, cap, hv, hg, hn, ho⟩
    · subst h0
      simp at hl
    · exact ⟨g, cap, hv, hg, hn, fun j hj => ho.cell hj⟩
  · exact ⟨g, l.length, hv, hg, Nat.le_refl _, hc⟩
theorem Rw.cut {w : World} {base g j : Nat} {l : List ByteArray} (hj : j ≤ l.length) (hg : base ≤ g) (hc : ∀ i (h : i < l.length), w.cell? ⟨g, i, none⟩ = some (.string l[i])) : Rw w base (.slice (some ⟨g, 0, none⟩) j j) (l.take j) := by
  refine .inr ⟨g, by rw [List.length_take, Nat.min_eq_left hj], hg, fun i hi => ?_⟩
  rw [List.getElem_take]
  exact hc i _

theorem step_append_rw {P : Program} {ops : Array Oper} {o : Oper} {a : Act} {w w0 wr : World} {K : Act → World → Prop} {Q : Exit → Act → World → Prop} {E : Prop} {ob : Obj}
    (hg : o.guard = none) (s x : Operand) (t : TypeId) (ho : o.op = .call { callee := .builtin .append, args := #[s, x], argTypes := #[t, t] })
    (i : TypeInfo) (z : Value) (ht : P.underlying t = some (.slice 9)) (hi : P.info? 9 = some i) (hz : i.zero = some z)
    (hsize : i.size = 1) (hby : i.bytes = 16) (hzs : z.cells.size = 1)
    (base : Nat) (v : Value) (l : List ByteArray) (hs : a.eval s = v) (hrow : Rw wr base v l) (hw : w = wr.alloc ob) (hbel : Below base w0 wr) (hbase : base ≤ wr.heap.size)
    (ad : Addr) (c : Nat) (d : ByteArray) (hx : a.eval x = .slice (some ad) 1 c) (hnews : ∀ j u, [Value.string d][j]? = some u → w.cell? (ad.add j) = some u)
    (hlen : l.length ≤ 1048576)
    (h : ∀ v' w', OwnS w' base v' (l ++ [d]) → Below base w0 w' → K (a.put o.dst v') w') :
    if Region.wanted o (yielded ops a.tmps) = true then Oper.wp P o a w K Q else E := by
  have hwt : Region.wanted o (yielded ops a.tmps) = true := by simp [Region.wanted, hg]
  rw [if_pos hwt]
  have hb1 : Below wr.heap.size wr w := by rw [hw]; exact (Below.refl _ _).alloc (Nat.le_refl _) _
  have hb2 : Below base w0 w := by rw [hw]; exact hbel.alloc hbase _
  have hz2 : base ≤ w.heap.size := Nat.le_trans hbase hb1.size
  rcases hrow.below hb1 with hown | ⟨g, rfl, hgb, hc⟩
  · refine wp_append_own w s x t ho base 9 i z 1 16 ht hi hz hsize hby hzs (by decide) v l.length (l.map Value.string) hs hown ad 1 c [.string d] hx rfl hnews (one_cellS d) (by unfold maxLen; omega) (by omega) hz2 ?_
    intro v' w' h1 h2 _
    exact h v' w' (OwnS.snoc h1) (hb2.grown h2 hz2 fun k hk => (hown.lt k hk).1)
  · obtain ⟨v', w', hrun, r1, r2⟩ := run_append_arg_grows (P := P) w t o.type 9 i z 1 16 ht hi hz hsize hby hzs (by decide) ⟨g, 0, none⟩ l.length l.length (l.map Value.string) (by simp) (map_cell1 fun j hj => by rw [Nat.zero_add]; exact hc j hj) ad 1 c [.string d] rfl hnews (by omega) (by unfold maxLen; omega) (by omega)
    unfold Oper.wp
    simp [execOp, ho, resolve, invoke, builtin, hs, hx, hrun, Result.andThen]
    refine h v' w' ?_ (hb2.grown r2 hz2 fun k hk => by cases hk)
    exact (OwnS.snoc r1).mono hz2
end Go.Proofs.YtghghkfhcpldhaaDoor.Tr

/- append of a slice that came in, nil too, behind a row of the call's own. -/
namespace Go.Proofs.YtghghkfhcpldhaaDoor.Tr
open Go.RowKit

theorem grown_refl (w : World) (row : Option Nat) : w.grownBy w row := ⟨rfl, rfl, rfl, Nat.le_refl _, fun _ _ _ => rfl⟩
theorem wpList_append_opt {P : Program} (w : World) {ops : Array Oper} {rest : List Oper} {o : Oper} {a : Act} {Q : Exit → Act → World → Prop} (hgd : o.guard = none) (s x : Operand) (t : TypeId)
    (ho : o.op = .call { callee := .builtin .append, args := #[s, x], argTypes := #[t, t] })
    (base : Nat) (e : TypeId) (i : TypeInfo) (z : Value) (size bytes : Nat) (ht : P.underlying t = some (.slice e)) (hi : P.info? e = some i) (hz : i.zero = some z)
    (hsize : i.size = size) (hby : i.bytes = bytes) (hzs : z.cells.size = size) (hsz : 0 < size)
    (v : Value) (n : Nat) (xs : List Value) (hs : a.eval s = v) (hown : w.ownsRow base e size v n xs)
    (ad : Option Addr) (m c : Nat) (ha : ad = none → m = 0 ∧ c = 0) (news : List Value) (hx : a.eval x = .slice ad m c) (hl : news.length = m * size) (hnews : ∀ d, ad = some d → ∀ j u, news[j]? = some u → w.cell? (d.add j) = some u) (h1 : ∀ u ∈ news, u.oneCell' = true)
    (h63 : n + m ≤ maxLen) (hbytes : (n + m) * bytes ≤ 140737488355328) (hbase : base ≤ w.heap.size)
    (h : ∀ v' w', w'.ownsRow base e size v' (n + m) (xs ++ news) → w.grownBy w' v.ownBlock → (v' = .slice none 0 0 ↔ v = .slice none 0 0 ∧ m = 0) → wpList P ops Q rest (a.put o.dst v') w') : wpList P ops Q (o :: rest) a w := by
  cases ad with
  | some d => exact wpList_append_own w hgd s x t ho base e i z size bytes ht hi hz hsize hby hzs hsz v n xs hs hown d m c news hx hl (hnews d rfl) h1 h63 hbytes hbase h
  | none =>
    obtain ⟨rfl, rfl⟩ := ha rfl
    obtain rfl : news = [] := List.eq_nil_of_length_eq_zero (by simpa using hl)
    refine wpList_plain hgd fun K hK => ?_
    have hr := run_append_owned_none (P := P) (w := w) base t o.type e i size ht hi v n xs hown
    unfold Oper.wp execOp
    simp only [ho, resolve, invoke, builtin, Sem.run_bind, Sem.run_pure, Result.andThen_ok, List.map_toArray, List.map_cons, List.map_nil, hs, hx, hr]
    exact hK _ _ (h v w (by simpa using hown) (grown_refl _ _) (by simp))

theorem step_append_opt {P : Program} {ops : Array Oper} {o : Oper} {a : Act} {w : World} {K : Act → World → Prop} {Q : Exit → Act → World → Prop} {E : Prop}
    (hg : o.guard = none) (s x : Operand) (t : TypeId) (ho : o.op = .call { callee := .builtin .append, args := #[s, x], argTypes := #[t, t] })
    (base : Nat) (e : TypeId) (i : TypeInfo) (z : Value) (size bytes : Nat) (ht : P.underlying t = some (.slice e)) (hi : P.info? e = some i) (hz : i.zero = some z)
    (hsize : i.size = size) (hby : i.bytes = bytes) (hzs : z.cells.size = size) (hsz : 0 < size)
    (v : Value) (n : Nat) (xs : List Value) (hs : a.eval s = v) (hown : w.ownsRow base e size v n xs)
    (ad : Option Addr) (m c : Nat) (ha : ad = none → m = 0 ∧ c = 0) (news : List Value) (hx : a.eval x = .slice ad m c) (hl : news.length = m * size) (hnews : ∀ d, ad = some d → ∀ j u, news[j]? = some u → w.cell? (d.add j) = some u) (h1 : ∀ u ∈ news, u.oneCell' = true)
    (h63 : n + m ≤ maxLen) (hbytes : (n + m) * bytes ≤ 140737488355328) (hbase : base ≤ w.heap.size)
    (h : ∀ v' w', w'.ownsRow base e size v' (n + m) (xs ++ news) → w.grownBy w' v.ownBlock → K (a.put o.dst v') w') :
    if Region.wanted o (yielded ops a.tmps) = true then Oper.wp P o a w K Q else E := by
  cases ad with
  | some d => exact Sh.step_append_own hg s x t ho base e i z size bytes ht hi hz hsize hby hzs hsz v n xs hs hown d m c news hx hl (hnews d rfl) h1 h63 hbytes hbase h
  | none =>
    obtain ⟨rfl, rfl⟩ := ha rfl
    obtain rfl : news = [] := List.eq_nil_of_length_eq_zero (by simpa using hl)
    have hw : Region.wanted o (yielded ops a.tmps) = true := by simp [Region.wanted, hg]
    rw [if_pos hw]
    have hr := run_append_owned_none (P := P) (w := w) base t o.type e i size ht hi v n xs hown
    unfold Oper.wp execOp
    simp only [ho, resolve, invoke, builtin, Sem.run_bind, Sem.run_pure, Result.andThen_ok, List.map_toArray, List.map_cons, List.map_nil, hs, hx, hr]
    exact h v w (by simpa using hown) (grown_refl _ _)
end Go.Proofs.YtghghkfhcpldhaaDoor.Tr

/- The walk of impl.RangeAdd. -/
namespace Go.Proofs.YtghghkfhcpldhaaDoor.Tr
open Go.RowKit
open Go.Proofs.YtghghkfhcpldhaaDoor.St
open Go.Proofs.YtghghkfhcpldhaaDoor.Sh (Vars leafV leafV_size leaf_impl leafR_yes nodeV nodeV_size nodeR nodeR_yes node_impl)

set_option maxRecDepth 100000 in
set_option maxHeartbeats 4000000 in
theorem add_impl_big (n : Int) (p : List ByteArray) (t : ByteArray) (a : Option Addr) (cap : Nat) (w : World) (ht : t.size ≤ maxLen) (hbig : 8000 < t.size) :
    Calls Tryd.prog 17 #[.agg #[.int .i64 n, .slice a p.length cap], .string t] w fun e w' => ∃ v, e = .returned (.agg #[.int .i64 (addN n p t), v]) ∧ OwnS w' w.heap.size v (addR n p t) ∧ Below w.heap.size w w' := by
  obtain ⟨e1, e2⟩ := add_big n p t hbig
  rw [e1, e2]
  clear e1 e2
  unfold maxLen at ht
  generalize p.length = m
  go_enter Tryd.func17, Tryd.ntmps17
  go_wp2_with fail
  refine bodyPost_ret (v := .agg #[.int .i64 0, .slice none 0 0]) (by simp [results, Tryd.results17, go_sem]) rfl ⟨.slice none 0 0, rfl, OwnS.nil _ _, ?_⟩
  exact ((Below.refl _ _).alloc (Nat.le_refl _) _).alloc (by simp) _

theorem lt_of_row {w : World} {g : Nat} {o : Obj} (h : w.heap[g]? = some o) : g < w.heap.size := (Array.getElem?_eq_some_iff.1 h).1
theorem grown_two {w w3 : World} {v1 : Value} {p : List ByteArray} {m : Nat} {x0 x1 y0 y1 : Value} {t1 t2 : TypeId} (HM : Hid (m = p.length))
    (hown : w3.ownsRow (w.heap.size + 2) 9 1 v1 (0 + m) ([] ++ p.map Value.string))
    (hgrow : ((w.alloc (.cells #[x0, x1] t1)).alloc (.cells #[y0, y1] t2)).grownBy w3 (Value.slice none 0 0).ownBlock) :
    Hid (OwnS w3 (w.heap.size + 2) v1 p) ∧ Hid (Below w.heap.size w w3) ∧ Hid (w3.heap[w.heap.size + 1]? = some (.cells #[y0, y1] t2 (0, 0))) ∧ Hid (w3.heap[w.heap.size]? = some (.cells #[x0, x1] t1 (0, 0))) := by
  have hb : Below (w.heap.size + 2) ((w.alloc (.cells #[x0, x1] t1)).alloc (.cells #[y0, y1] t2)) w3 := (Below.refl _ _).grown hgrow (by simp) (by intro k hk; simp [Value.ownBlock] at hk)
  refine ⟨?_, ?_, ?_, ?_⟩
  · unfold Hid OwnS
    rw [← HM.out]
    simpa using hown
  · exact (((Below.refl _ _).alloc (Nat.le_refl _) _).alloc (by simp) _).trans (hb.mono (by omega))
  · unfold Hid
    rw [hb.block _ (by omega)]
    have := heap_alloc_last (w.alloc (.cells #[x0, x1] t1)) (.cells #[y0, y1] t2)
    rw [show (w.alloc (.cells #[x0, x1] t1)).heap.size = w.heap.size + 1 by simp] at this
    exact this
  · unfold Hid
    rw [hb.block _ (by omega), Below.heap_alloc _ _ _ (by simp)]
    exact heap_alloc_last w (.cells #[x0, x1] t1)
theorem own_slice {w : World} {base m : Nat} {v : Value} {p : List ByteArray} (HM : Hid (m = p.length)) (h : Hid (OwnS w base v p)) : ∃ a c, v = .slice a m c := by
  obtain ⟨a, c, hv, _⟩ := h.out.strs
  rw [← HM.out] at hv
  exact ⟨a, c, hv⟩
theorem addOk_no' (n : Int) (p : List ByteArray) (t : ByteArray) (h : ¬ addOk n p t = true) : rngB n p = true → n < 1000000 → ¬ t.size ≤ 100 := fun h1 h2 h3 => h (addOk_yes n p t h1 h2 h3)

set_option maxRecDepth 100000 in
set_option maxHeartbeats 4000000 in
theorem add_impl_no (n : Int) (p : List ByteArray) (t : ByteArray) (a0 : Option Addr) (cap B : Nat) (w : World) (hp : p.length ≤ 1048576) (ht : t.size ≤ maxLen) (hs : Strs w B a0 p) (ha : a0 = none → p.length = 0 ∧ cap = 0) (hB : B ≤ w.heap.size) (hbig : ¬ 8000 < t.size) (hno : ¬ addOk n p t = true) :
    Calls Tryd.prog 17 #[.agg #[.int .i64 n, .slice a0 p.length cap], .string t] w fun e w' => ∃ v, e = .returned (.agg #[.int .i64 (addN n p t), v]) ∧ OwnS w' w.heap.size v (addR n p t) ∧ Below w.heap.size w w' := by
  obtain ⟨e1, e2⟩ := add_no n p t hbig hno
  rw [e1, e2]
  clear e1 e2
  unfold maxLen at ht
  obtain ⟨i0, hif, hz0, hz1, hz2⟩ := info_parts Tryd.infoS9
  have HRt := hideT (fun (W : World) (hW : Below w.heap.size w W) => rng_impl n p a0 cap B W hp (hs.after hW hB) (Nat.le_trans hB hW.size))
  have HCe : Hid (∀ W : World, Below w.heap.size w W → ∀ d, a0 = some d → ∀ (j : Nat) (u : Value), (p.map Value.string)[j]? = some u → W.cell? (d.add j) = some u) := fun W hW d hd j u hj => by
    have hjl : j < p.length := by
      have := (List.getElem?_eq_some_iff.1 hj).1
      simpa using this
    obtain ⟨b', off', hh, hb', hc'⟩ := (hs.after hW hB).some (by omega)
    obtain rfl : d = ⟨b', off', none⟩ := Option.some.inj (hd.symm.trans hh)
    rw [show (⟨b', off', none⟩ : Addr).add j = ⟨b', off' + j, none⟩ by unfold Addr.add; split <;> simp_all, hc' j hjl]
    rw [List.getElem?_map, List.getElem?_eq_getElem hjl] at hj
    exact hj
  clear hs
  obtain ⟨m, hm⟩ : ∃ m, m = p.length := ⟨_, rfl⟩
  have HM := hideT hm
  rw [← hm] at hp HRt ha ⊢
  have HNA := hideT ha
  clear hm ha
  go_enter Tryd.func17, Tryd.ntmps17
  go_wp2_with (at_builtin; refine wpList_append_opt _ rfl _ (.tmp 15) 23 rfl (w.heap.size + 2) 9 i0 (.string ⟨#[]⟩) 1 16 Tryd.underlying23 hif hz0 hz1 hz2 rfl (by decide) (.slice none 0 0) 0 [] rfl (World.ownsRow_nil _ _ _ _) a0 m cap HNA.out (p.map Value.string) rfl (by rw [map_len1, ← HM.out]) (HCe.out _ (((Below.refl _ _).alloc (Nat.le_refl _) _).alloc (by simp) _)) (map_one1 p) ?c3 ?c4 ?c5 ?_; (case c3 => unfold maxLen; omega); (case c4 => omega); (case c5 => simp); intro v1 w3 hown3 hgrow3 _; obtain ⟨HO3, HB3, HBl3, HBl30⟩ := grown_two HM hown3 hgrow3; obtain ⟨a1, c1, hv1⟩ := own_slice HM HO3; clear hown3 hgrow3; subst v1; have c20 := cell_of_row w3 _ 0 _ _ _ HBl30.out; have c21 := cell_of_row w3 _ 1 _ _ _ HBl30.out; simp at c20 c21)
  refine (HRt.out _ HB3.out).mono ?_
  rintro e w4 ⟨rfl, hb4⟩
  have HO4 := hideT (HO3.out.below hb4)
  have HB4 := hideT (below2 HB3.out hb4)
  have hl3 := HB3.out.size
  have d1 := (hb4.block (w.heap.size + 1) (lt_of_row HBl3.out)).trans HBl3.out
  have d0 := (hb4.block w.heap.size (lt_of_row HBl30.out)).trans HBl30.out
  have c10 := cell_of_row w4 _ 0 _ _ _ d1
  have c11 := cell_of_row w4 _ 1 _ _ _ d1
  have z10 := frozen_of_row w4 _ 0 _ _ d1
  have z11 := frozen_of_row w4 _ 1 _ _ d1
  have c00 := cell_of_row w4 _ 0 _ _ _ d0
  have c01 := cell_of_row w4 _ 1 _ _ _ d0
  simp at c10 c11 c00 c01
  clear d1 d0 hb4 c20 c21
  have HF := hideT (addOk_no' n p t hno)
  clear hno
  cases hr : rngB n p with
  | false =>
    go_wp2_with fail
    refine bodyPost_ret (v := .agg #[.int .i64 n, .slice a1 m c1]) (by simp [results, Tryd.results17, go_sem, c10, c11]) rfl ⟨.slice a1 m c1, rfl, OwnS.mono (own_set_low (own_set_low HO4.out _ _ (by simp)) _ _ (by simp)) (by omega), (HB4.out.setCell (by simp) _).setCell (by simp) _⟩
  | true =>
    by_cases h1 : n = 1000000
    · subst h1
      go_wp2_with fail
      refine bodyPost_ret (v := .agg #[.int .i64 1000000, .slice a1 m c1]) (by simp [results, Tryd.results17, go_sem, c10, c11]) rfl ⟨.slice a1 m c1, rfl, OwnS.mono (own_set_low (own_set_low HO4.out _ _ (by simp)) _ _ (by simp)) (by omega), (HB4.out.setCell (by simp) _).setCell (by simp) _⟩
    · have h2 := HF.out hr (by have := (rngB_facts n p hr).2.1; omega)
      have h3 : (100 : Int) < (t.size : Int) := by omega
      have h4 : (n == (1000000 : Int)) = false := by simp; omega
      go_wp2_with fail
      refine bodyPost_ret (v := .agg #[.int .i64 n, .slice a1 m c1]) (by simp [results, Tryd.results17, go_sem, c10, c11]) rfl ⟨.slice a1 m c1, rfl, OwnS.mono (own_set_low (own_set_low HO4.out _ _ (by simp)) _ _ (by simp)) (by omega), (HB4.out.setCell (by simp) _).setCell (by simp) _⟩

end Go.Proofs.YtghghkfhcpldhaaDoor.Tr

/- The copy that spec.RangeAdd makes, in every order of its region. -/
namespace Go.Proofs.YtghghkfhcpldhaaDoor.Tr
open Go.RowKit
open Go.Proofs.YtghghkfhcpldhaaDoor.St

theorem own_set_var {w : World} {base : Nat} {v : Value} {l : List ByteArray} {g : Nat} {cs : Array Value} (h : OwnS w base v l) (hg : w.heap[g]? = some (.cells cs 34 (0, 0))) (i : Nat) (x : Value) : OwnS (w.setCell ⟨g, i, none⟩ x) base v l := by
  obtain ⟨hl, h⟩ := h
  refine ⟨hl, ?_⟩
  rcases h with h | ⟨g', cap, cur, hv, hg', hb, rest⟩
  · exact .inl h
  · refine .inr ⟨g', cap, cur, hv, hg', ?_, rest⟩
    have hne : g' ≠ g := by
      rintro rfl
      rw [hb] at hg
      simp at hg
    rw [heap_setCell_other w ⟨g, i, none⟩ g' x hne]
    exact hb
/-- behind the copy: the argument, the answer's place, the variable that holds the copy -/
structure Aft3 (w W : World) (n : Int) (x1 : Value) (vb : Nat) (v : Value) (p : List ByteArray) : Prop where
  low : Below w.heap.size w W
  r0 : W.heap[w.heap.size]? = some (.cells #[.int .i64 n, x1] 34 (0, 0))
  r1 : W.heap[w.heap.size + 1]? = some (.cells #[.int .i64 0, .slice none 0 0] 34 (0, 0))
  rv : W.heap[vb]? = some (.cells #[.int .i64 n, v] 34 (0, 0))
  own : OwnS W (w.heap.size + 2) v p
  far : w.heap.size + 2 ≤ vb
theorem emptyAt {W : World} {g base : Nat} (hg : W.heap[g]? = some (.cells #[] 9 (0, 0))) (h : base ≤ g) : W.ownsRow base 9 1 (.slice (some ⟨g, 0, none⟩) 0 0) 0 [] :=
  ⟨rfl, Or.inr ⟨g, 0, #[], rfl, h, hg, Nat.le_refl _, by decide, rfl, rfl⟩⟩
theorem emptyAtD {W : World} {g base : Nat} (hg : W.heap[g]? = some (.cells #[] 9 (0, 0))) (h : base ≤ g) : W.drew.ownsRow base 9 1 (.slice (some ⟨g, 0, none⟩) 0 0) 0 [] :=
  emptyAt (W := W.drew) hg h
theorem at3 (w : World) (a b c : Obj) : (((w.alloc a).alloc b).alloc c).heap[w.heap.size]? = (w.alloc a).heap[w.heap.size]? ∧ (((w.alloc a).alloc b).alloc c).heap[w.heap.size + 1]? = ((w.alloc a).alloc b).heap[w.heap.size + 1]? :=
  ⟨(Below.heap_alloc _ _ _ (by simp <;> omega)).trans (Below.heap_alloc _ _ _ (by simp)), Below.heap_alloc _ _ _ (by simp)⟩
theorem at4 (w : World) (a b c d : Obj) : ((((w.alloc a).alloc b).alloc c).alloc d).heap[w.heap.size]? = (w.alloc a).heap[w.heap.size]? ∧ ((((w.alloc a).alloc b).alloc c).alloc d).heap[w.heap.size + 1]? = ((w.alloc a).alloc b).heap[w.heap.size + 1]? ∧ ((((w.alloc a).alloc b).alloc c).alloc d).heap[w.heap.size + 1 + 1]? = (((w.alloc a).alloc b).alloc c).heap[w.heap.size + 1 + 1]? :=
  ⟨(Below.heap_alloc _ _ _ (by simp <;> omega)).trans (at3 w a b c).1, (Below.heap_alloc _ _ _ (by simp <;> omega)).trans (at3 w a b c).2, Below.heap_alloc _ _ _ (by simp)⟩
theorem new1 (w : World) (cs : Array Value) (t : TypeId) : (w.alloc (.cells cs t)).heap[w.heap.size]? = some (.cells cs t (0, 0)) := heap_alloc_last w _
theorem new2 (w : World) (a : Obj) (cs : Array Value) (t : TypeId) : ((w.alloc a).alloc (.cells cs t)).heap[w.heap.size + 1]? = some (.cells cs t (0, 0)) := by
  have := heap_alloc_last (w.alloc a) (.cells cs t)
  rw [show (w.alloc a).heap.size = w.heap.size + 1 by simp] at this
  exact this
theorem new3 (w : World) (a b : Obj) (cs : Array Value) (t : TypeId) : (((w.alloc a).alloc b).alloc (.cells cs t)).heap[w.heap.size + 1 + 1]? = some (.cells cs t (0, 0)) := by
  have := heap_alloc_last ((w.alloc a).alloc b) (.cells cs t)
  rw [show ((w.alloc a).alloc b).heap.size = w.heap.size + 1 + 1 by simp] at this
  exact this
theorem new4 (w : World) (a b c : Obj) (cs : Array Value) (t : TypeId) : ((((w.alloc a).alloc b).alloc c).alloc (.cells cs t)).heap[w.heap.size + 1 + 1 + 1]? = some (.cells cs t (0, 0)) := by
  have := heap_alloc_last (((w.alloc a).alloc b).alloc c) (.cells cs t)
  rw [show (((w.alloc a).alloc b).alloc c).heap.size = w.heap.size + 1 + 1 + 1 by simp] at this
  exact this
theorem bel3 (w : World) (a b c : Obj) : Below w.heap.size w (((w.alloc a).alloc b).alloc c) := (((Below.refl _ _).alloc (Nat.le_refl _) _).alloc (by simp) _).alloc (by simp; omega) _
theorem bel4 (w : World) (a b c d : Obj) : Below w.heap.size w ((((w.alloc a).alloc b).alloc c).alloc d) := (bel3 w a b c).alloc (by simp; omega) _
theorem belA (w : World) (a b c : Obj) : Below w.heap.size w (((w.alloc a).alloc b).drew.alloc c) := (((Below.refl _ _).alloc (Nat.le_refl _) _).alloc (by simp) _).drew.alloc (by simp <;> omega) _
theorem belB (w : World) (a b c d : Obj) : Below w.heap.size w ((((w.alloc a).alloc b).drew.alloc c).alloc d) := (belA w a b c).alloc (by simp <;> omega) _
/-- a world W in which the row has been grown, one that has the argument and the answer's place still -/
structure Grown (w w3 : World) (n : Int) (x1 : Value) (v : Value) (p : List ByteArray) : Prop where
  low : Below w.heap.size w w3
  r0 : w3.heap[w.heap.size]? = some (.cells #[.int .i64 n, x1] 34 (0, 0))
  r1 : w3.heap[w.heap.size + 1]? = some (.cells #[.int .i64 0, .slice none 0 0] 34 (0, 0))
  own : OwnS w3 (w.heap.size + 2) v p
theorem grownA {w w3 : World} {n : Int} {x1 v : Value} {p : List ByteArray} {m : Nat} {row : Option Nat} (HM : Hid (m = p.length))
    (hown : w3.ownsRow (w.heap.size + 2) 9 1 v (0 + m) ([] ++ p.map Value.string))
    (hgrow : (((w.alloc (.cells #[.int .i64 n, x1] 34)).alloc (.cells #[.int .i64 0, .slice none 0 0] 34)).alloc (.cells #[] 9)).drew.grownBy w3 row) (hrow : row = some (w.heap.size + 1 + 1)) : Grown w w3 n x1 v p := by
  subst hrow
  refine ⟨?_, ?_, ?_, ?_⟩
  · refine (bel3 w _ _ _).drew.grown hgrow (by simp <;> omega) ?_
    intro k hk
    simp at hk
    omega
  · rw [hgrow.block _ (by simp <;> omega) (by simp <;> omega)]
    exact (at3 w _ _ _).1.trans (new1 w _ _)
  · rw [hgrow.block _ (by simp) (by simp)]
    exact (at3 w _ _ _).2.trans (new2 w _ _ _)
  · unfold OwnS
    rw [← HM.out]
    simpa using hown
theorem grownB {w w3 : World} {n : Int} {x1 v : Value} {p : List ByteArray} {m : Nat} {row : Option Nat} (HM : Hid (m = p.length))
    (hown : w3.ownsRow (w.heap.size + 2) 9 1 v (0 + m) ([] ++ p.map Value.string))
    (hgrow : ((((w.alloc (.cells #[.int .i64 n, x1] 34)).alloc (.cells #[.int .i64 0, .slice none 0 0] 34)).alloc (.cells #[.int .i64 0, .slice none 0 0] 34)).alloc (.cells #[] 9)).drew.grownBy w3 row) (hrow : row = some (w.heap.size + 1 + 1 + 1)) : Grown w w3 n x1 v p ∧ w3.heap[w.heap.size + 1 + 1]? = some (.cells #[.int .i64 0, .slice none 0 0] 34 (0, 0)) := by
  subst hrow
  refine ⟨⟨?_, ?_, ?_, ?_⟩, ?_⟩
  · refine (bel4 w _ _ _ _).drew.grown hgrow (by simp <;> omega) ?_
    intro k hk
    simp at hk
    omega
  · rw [hgrow.block _ (by simp <;> omega) (by simp <;> omega)]
    exact (at4 w _ _ _ _).1.trans (new1 w _ _)
  · rw [hgrow.block _ (by simp <;> omega) (by simp <;> omega)]
    exact (at4 w _ _ _ _).2.1.trans (new2 w _ _ _)
  · unfold OwnS
    rw [← HM.out]
    simpa using hown
  · rw [hgrow.block _ (by simp) (by simp)]
    exact (at4 w _ _ _ _).2.2.trans (new3 w _ _ _ _)
theorem grownC {w w3 : World} {n : Int} {x1 v : Value} {p : List ByteArray} {m : Nat} {row : Option Nat} (HM : Hid (m = p.length))
    (hown : w3.ownsRow (w.heap.size + 2) 9 1 v (0 + m) ([] ++ p.map Value.string))
    (hgrow : ((((w.alloc (.cells #[.int .i64 n, x1] 34)).alloc (.cells #[.int .i64 0, .slice none 0 0] 34)).alloc (.cells #[] 9)).alloc (.cells #[.int .i64 0, .slice none 0 0] 34)).drew.grownBy w3 row) (hrow : row = some (w.heap.size + 1 + 1)) : Grown w w3 n x1 v p ∧ w3.heap[w.heap.size + 1 + 1 + 1]? = some (.cells #[.int .i64 0, .slice none 0 0] 34 (0, 0)) := by
  subst hrow
  refine ⟨⟨?_, ?_, ?_, ?_⟩, ?_⟩
  · refine (bel4 w _ _ _ _).drew.grown hgrow (by simp <;> omega) ?_
    intro k hk
    simp at hk
    omega
  · rw [hgrow.block _ (by simp <;> omega) (by simp <;> omega)]
    exact (at4 w _ _ _ _).1.trans (new1 w _ _)
  · rw [hgrow.block _ (by simp <;> omega) (by simp)]
    exact (at4 w _ _ _ _).2.1.trans (new2 w _ _ _)
  · unfold OwnS
    rw [← HM.out]
    simpa using hown
  · rw [hgrow.block _ (by simp) (by simp)]
    exact new4 w _ _ _ _ _
theorem Grown.fresh {w w3 : World} {n : Int} {x1 v : Value} {p : List ByteArray} (h : Grown w w3 n x1 v p) : Aft3 w (w3.alloc (.cells #[.int .i64 n, v] 34)) n x1 w3.heap.size v p := by
  have hl0 := lt_of_row h.r0
  have hl1 := lt_of_row h.r1
  exact ⟨h.low.alloc h.low.size _, by rw [Below.heap_alloc _ _ _ hl0]; exact h.r0, by rw [Below.heap_alloc _ _ _ hl1]; exact h.r1, new1 w3 _ _, h.own.below ((Below.refl _ _).alloc (Nat.le_refl _) _), by omega⟩
theorem Grown.stored {w w3 : World} {n : Int} {x1 v : Value} {p : List ByteArray} {g : Nat} (h : Grown w w3 n x1 v p) (hg : w3.heap[g]? = some (.cells #[.int .i64 0, .slice none 0 0] 34 (0, 0))) (hf : w.heap.size + 2 ≤ g) : Aft3 w ((w3.setCell ⟨g, 0, none⟩ (.int .i64 n)).setCell ⟨g, 1, none⟩ v) n x1 g v p := by
  have h1 := heap_setCell_same w3 g 0 _ _ (.int .i64 n) hg
  have h2 := heap_setCell_same _ g 1 _ _ v h1
  refine ⟨(h.low.setCell (by simp; omega) _).setCell (by simp; omega) _, ?_, ?_, h2, own_set_var (own_set_var h.own hg _ _) h1 _ _, hf⟩
  · rw [heap_setCell_other _ _ _ _ (by simp; omega), heap_setCell_other _ _ _ _ (by simp; omega)]
    exact h.r0
  · rw [heap_setCell_other _ _ _ _ (by simp; omega), heap_setCell_other _ _ _ _ (by simp; omega)]
    exact h.r1
end Go.Proofs.YtghghkfhcpldhaaDoor.Tr

/- The variable that holds the copy, cut and kept. -/
namespace Go.Proofs.YtghghkfhcpldhaaDoor.Tr
open Go.RowKit
open Go.Proofs.YtghghkfhcpldhaaDoor.St

theorem Aft3.below {w W W' : World} {n : Int} {x1 v : Value} {vb : Nat} {p : List ByteArray} (h : Aft3 w W n x1 vb v p) (b : Below W.heap.size W W') : Aft3 w W' n x1 vb v p :=
  ⟨h.low.trans (b.mono h.low.size), (b.block _ (lt_of_row h.r0)).trans h.r0, (b.block _ (lt_of_row h.r1)).trans h.r1, (b.block _ (lt_of_row h.rv)).trans h.rv, h.own.below b, h.far⟩
theorem own_cut {w : World} {base m c j : Nat} {a : Option Addr} {p : List ByteArray} (h : OwnS w base (.slice a m c) p) (hj : j ≤ p.length) : OwnS w base (.slice a j c) (p.take j) := by
  obtain ⟨_, h⟩ := h
  refine ⟨by simp, ?_⟩
  rcases h with ⟨h, h0⟩ | ⟨g, cap, cur, hv, hg, hb, hn, hm, hsz, htk⟩
  · simp at h
    obtain ⟨rfl, rfl, rfl⟩ := h
    have : j = 0 := by omega
    subst this
    exact .inl ⟨rfl, by simp⟩
  · simp at hv
    obtain ⟨rfl, rfl, rfl⟩ := hv
    refine .inr ⟨g, c, cur, by rw [List.length_take, Nat.min_eq_left hj], hg, hb, by rw [List.length_take]; omega, hm, hsz, ?_⟩
    rw [List.map_take, ← htk, List.take_take, List.length_take]
    congr 1
    omega
theorem Aft3.cutS {w W : World} {n : Int} {x1 : Value} {vb i c1 m : Nat} {a1 : Option Addr} {p : List ByteArray} (h : Aft3 w W n x1 vb (.slice a1 m c1) (p.take (i + 1))) (hi : i < p.length) : Aft3 w (W.setCell ⟨vb, 1, none⟩ (.slice a1 i c1)) n x1 vb (.slice a1 i c1) (p.take i) := by
  have h2 := heap_setCell_same W vb 1 _ _ (.slice a1 i c1) h.rv
  have hf := h.far
  refine ⟨h.low.setCell (by simp; omega) _, ?_, ?_, h2, own_set_var ?_ h.rv _ _, hf⟩
  · rw [heap_setCell_other _ _ _ _ (by simp; omega)]
    exact h.r0
  · rw [heap_setCell_other _ _ _ _ (by simp; omega)]
    exact h.r1
  · have := own_cut (j := i) h.own (by rw [List.length_take]; omega)
    rw [List.take_take, Nat.min_eq_left (by omega)] at this
    exact this
theorem row_ne {W : World} {base g : Nat} {v : Value} {l : List ByteArray} {cs : Array Value} (h : OwnS W base v l) (hg : W.heap[g]? = some (.cells cs 34 (0, 0))) : some g ≠ v.ownBlock := by
  obtain ⟨_, h⟩ := h
  rcases h with ⟨h, _⟩ | ⟨g', cap, cur, hv, _, hb, _⟩
  · subst h
    simp [Value.ownBlock]
  · subst hv
    intro he
    simp [Value.ownBlock] at he
    subst he
    rw [hb] at hg
    simp at hg
/-- behind the append: the variable still holds the row as it was -/
theorem Aft3.app {w wr w8 : World} {n : Int} {x1 v v8 : Value} {vb : Nat} {l : List ByteArray} {s : ByteArray} {o : Obj} (h : Aft3 w wr n x1 vb v l)
    (hown : w8.ownsRow (w.heap.size + 2) 9 1 v8 (l.length + 1) (l.map Value.string ++ [.string s])) (hgrow : (wr.alloc o).grownBy w8 v.ownBlock) :
    Below w.heap.size w w8 ∧ w8.heap[w.heap.size]? = some (.cells #[.int .i64 n, x1] 34 (0, 0)) ∧ w8.heap[w.heap.size + 1]? = some (.cells #[.int .i64 0, .slice none 0 0] 34 (0, 0)) ∧ w8.heap[vb]? = some (.cells #[.int .i64 n, v] 34 (0, 0)) ∧ OwnS w8 (w.heap.size + 2) v8 (l ++ [s]) := by
  have f0 := (Below.heap_alloc wr o _ (lt_of_row h.r0)).trans h.r0
  have f1 := (Below.heap_alloc wr o _ (lt_of_row h.r1)).trans h.r1
  have fv := (Below.heap_alloc wr o _ (lt_of_row h.rv)).trans h.rv
  refine ⟨?_, (hgrow.block _ (lt_of_row f0) (row_ne h.own h.r0)).trans f0, (hgrow.block _ (lt_of_row f1) (row_ne h.own h.r1)).trans f1, (hgrow.block _ (lt_of_row fv) (row_ne h.own h.rv)).trans fv, OwnS.snoc hown⟩
  refine (h.low.alloc h.low.size o).grown hgrow (by have := h.low.size; simp; omega) ?_
  intro k hk
  have := (h.own.lt k hk).1
  omega
/-- the end: the variable stored into, and the answer's place -/
theorem own_end {w8 : World} {n n' : Int} {v v8 : Value} {vb z : Nat} {l : List ByteArray} {x y : Value} (h : OwnS w8 (z + 2) v8 l) (hv : w8.heap[vb]? = some (.cells #[.int .i64 n, v] 34 (0, 0))) :
    OwnS ((((w8.setCell ⟨vb, 1, none⟩ v8).setCell ⟨vb, 0, none⟩ (.int .i64 n')).setCell ⟨z + 1, 0, none⟩ x).setCell ⟨z + 1, 1, none⟩ y) (z + 2) v8 l := by
  have h1 := heap_setCell_same w8 vb 1 _ _ v8 hv
  exact own_set_low (own_set_low (own_set_var (own_set_var h hv _ _) h1 _ _) _ _ (by simp)) _ _ (by simp)
end Go.Proofs.YtghghkfhcpldhaaDoor.Tr
