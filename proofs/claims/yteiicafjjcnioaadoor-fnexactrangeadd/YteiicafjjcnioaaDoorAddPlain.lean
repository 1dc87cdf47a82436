/- What RangeAdd answers; rows that are cut, and append onto them. -/
import Derived.Test.YteiicafjjcnioaaDoorRangeRoot
import Derived.Test.YteiicafjjcnioaaDoorStrIn
import Derived.Test.YteiicafjjcnioaaDoorShaAppend
import Derived.ArgAppend
namespace Go.Proofs.YteiicafjjcnioaaDoor.Tr
open Go.RowKit
open Go.Proofs.YteiicafjjcnioaaDoor.St
open Go.Proofs.YteiicafjjcnioaaDoor.Sh (Vars leafV nodeV nodeV_size)

/-- the trees at the low end put together, as far as the bits 1 go -/
def carry (p : List ByteArray) : Nat → Nat → ByteArray → List ByteArray
  | 0, _, h => [h]
  | j + 1, low, h => if low % 2 = 1 then carry p j (low / 2) (nodeV (p.getD j ⟨#[]⟩) h) else p.take (j + 1) ++ [h]
theorem carry_even (p : List ByteArray) (j low : Nat) (h : ByteArray) (hl : ¬ low % 2 = 1) : carry p j low h = p.take j ++ [h] := by
  cases j with
  | zero => simp [carry]
  | succ j => rw [carry, if_neg hl]
theorem carry_odd (p : List ByteArray) (j low : Nat) (h : ByteArray) (hl : low % 2 = 1) (hj : j < p.length) : carry p (j + 1) low h = carry p j (low / 2) (nodeV p[j] h) := by
  rw [carry, if_pos hl, List.getD_eq_getElem?_getD, List.getElem?_eq_getElem hj]
  rfl
theorem carry_length (p : List ByteArray) (j low : Nat) (h : ByteArray) (hj : j ≤ p.length) : (carry p j low h).length ≤ p.length + 1 := by
  induction j generalizing low h with
  | zero => simp [carry]
  | succ j ih =>
    rw [carry]
    by_cases hl : low % 2 = 1
    · rw [if_pos hl]
      exact ih _ _ (by omega)
    · rw [if_neg hl]
      simp
      omega
def addOk (n : Int) (p : List ByteArray) (t : ByteArray) : Bool := rngB n p && decide (n < 1000000) && decide (t.size ≤ 100)
def addN (n : Int) (p : List ByteArray) (t : ByteArray) : Int := if 8000 < t.size then 0 else if addOk n p t = true then n + 1 else n
def addR (n : Int) (p : List ByteArray) (t : ByteArray) : List ByteArray := if 8000 < t.size then [] else if addOk n p t = true then carry p p.length n.toNat (leafV t) else p
theorem add_big (n : Int) (p : List ByteArray) (t : ByteArray) (h : 8000 < t.size) : addN n p t = 0 ∧ addR n p t = [] := ⟨if_pos h, if_pos h⟩
theorem add_no (n : Int) (p : List ByteArray) (t : ByteArray) (h : ¬ 8000 < t.size) (h2 : ¬ addOk n p t = true) : addN n p t = n ∧ addR n p t = p := by
  unfold addN addR
  rw [if_neg h, if_neg h2, if_neg h, if_neg h2]
  exact ⟨rfl, rfl⟩
theorem add_yes (n : Int) (p : List ByteArray) (t : ByteArray) (h : ¬ 8000 < t.size) (h2 : addOk n p t = true) : addN n p t = n + 1 ∧ addR n p t = carry p p.length n.toNat (leafV t) := by
  unfold addN addR
  rw [if_neg h, if_pos h2, if_neg h, if_pos h2]
  exact ⟨rfl, rfl⟩
theorem addR_length (n : Int) (p : List ByteArray) (t : ByteArray) : (addR n p t).length ≤ p.length + 1 := by
  unfold addR
  by_cases h : 8000 < t.size
  · rw [if_pos h]
    simp
  · rw [if_neg h]
    by_cases h2 : addOk n p t = true
    · rw [if_pos h2]
      exact carry_length _ _ _ _ (Nat.le_refl _)
    · rw [if_neg h2]
      omega
theorem addOk_facts (n : Int) (p : List ByteArray) (t : ByteArray) (h : addOk n p t = true) : rngB n p = true ∧ n < 1000000 ∧ t.size ≤ 100 := by
  unfold addOk at h
  simp only [Bool.and_eq_true, decide_eq_true_eq] at h
  exact ⟨h.1.1, h.1.2, h.2⟩
theorem addOk_no (n : Int) (p : List ByteArray) (t : ByteArray) (h : ¬ (rngB n p = true ∧ n < 1000000 ∧ t.size ≤ 100)) : ¬ addOk n p t = true := fun h2 => h (addOk_facts n p t h2)
theorem addOk_yes (n : Int) (p : List ByteArray) (t : ByteArray) (h : rngB n p = true) (h1 : n < 1000000) (h2 : t.size ≤ 100) : addOk n p t = true := by
  unfold addOk
  rw [h, decide_eq_true h1, decide_eq_true h2]
  rfl
theorem map_len1 (l : List ByteArray) : (l.map Value.string).length = l.length * 1 := by simp
theorem map_cell1 {w : World} {b off : Nat} {l : List ByteArray} (h : ∀ j (h : j < l.length), w.cell? ⟨b, off + j, none⟩ = some (.string l[j])) : ∀ (j : Nat) (u : Value), (l.map Value.string)[j]? = some u → w.cell? ((⟨b, off, none⟩ : Addr).add j) = some u := by
  intro j u hj
  rw [List.getElem?_map] at hj
  by_cases hl : j < l.length
  · rw [List.getElem?_eq_getElem hl] at hj
    simp at hj
    subst hj
    have e : (⟨b, off, none⟩ : Addr).add j = ⟨b, off + j, none⟩ := by unfold Addr.add; split <;> simp_all
    rw [e]
    exact h j hl
  · rw [List.getElem?_eq_none (by omega)] at hj
    simp at hj
theorem map_one1 (l : List ByteArray) : ∀ u ∈ l.map Value.string, u.oneCell' = true := by
  intro u hu
  simp at hu
  obtain ⟨s, _, rfl⟩ := hu
  rfl
theorem own_set_low {w : World} {base : Nat} {v : Value} {l : List ByteArray} (h : OwnS w base v l) (a : Addr) (x : Value) (ha : a.block < base) : OwnS (w.setCell a x) base v l := by
  obtain ⟨hl, h⟩ := h
  refine ⟨hl, ?_⟩
  rcases h with h | ⟨g, cap, cur, hv, hg, hb, rest⟩
  · exact .inl h
  · refine .inr ⟨g, cap, cur, hv, hg, ?_, rest⟩
    rw [heap_setCell_other w a g x (by omega)]
    exact hb

/-- a row that may be cut at its end: its capacity is its length, or it is owned whole -/
def Rw (w : World) (base : Nat) (v : Value) (l : List ByteArray) : Prop :=
  OwnS w base v l ∨ ∃ g, v = .slice (some ⟨g, 0, none⟩) l.length l.length ∧ base ≤ g ∧ ∀ j (h : j < l.length), w.cell? ⟨g, j, none⟩ = some (.string l[j])
theorem Rw.below {w w' : World} {base : Nat} {v : Value} {l : List ByteArray} (h : Rw w base v l) (b : Below w.heap.size w w') : Rw w' base v l := by
  rcases h with h | ⟨g, hv, hg, hc⟩
  · exact .inl (h.below b)
  · exact .inr ⟨g, hv, hg, fun j hj => (b.cell (p := ⟨g, j, none⟩) (World.block_lt_of_cell? w _ (hc j hj))).trans (hc j hj)⟩
/-- a row with one and more as a slice -/
theorem Rw.slice {w : World} {base : Nat} {v : Value} {l : List ByteArray} (h : Rw w base v l) (hl : 0 < l.length) : ∃ g cap, v = .slice (some ⟨g, 0, none⟩) l.length cap ∧ base ≤ g ∧ l.length ≤ cap ∧ ∀ j (h : j < l.length), w.cell? ⟨g, j, none⟩ = some (.string l[j]) := by
  rcases h with h | ⟨g, hv, hg, hc⟩
  · rcases h.split with ⟨_, h0⟩ | ⟨g, cap, hv, hg, hn, ho⟩
    · subst h0
      simp at hl
    · exact ⟨g, cap, hv, hg, hn, fun j hj => ho.cell hj⟩
  · exact ⟨g, l.length, hv, hg, Nat.le_refl _, hc⟩
theorem Rw.cut {w : World} {base g j : Nat} {l : List ByteArray} (hj : j ≤ l.length) (hg : base ≤ g) (hc : ∀ i (h : i < l.length), w.cell? ⟨g, i, none⟩ = some (.string l[i])) : Rw w base (.slice (some ⟨g, 0, none⟩) j j) (l.take j) := by
  refine .inr ⟨g, by rw [List.length_take, Nat.min_eq_left hj], hg, fun i hi => ?_⟩
  rw [List.getElem_take]
  exact hc i _

theorem step_append_rw {P : Program} {ops : Array Oper} {o : Oper} {a : Act} {w w0 wr : World} {K : Act → World → Prop} {Q : Exit → Act → World → Prop} {E : Prop} {ob : Obj}
    (hg : o.guard = none) (s x : Operand) (t : TypeId) (ho : o.op = .call { callee := .builtin .append, args := #[s, x], argTypes := #[t, t] })
    (i : TypeInfo) (z : Value) (ht : P.underlying t = some (.slice 9)) (hi : P.info? 9 = some i) (hz : i.zero = some z)
    (hsize : i.size = 1) (hby : i.bytes = 16) (hzs : z.cells.size = 1)
    (base : Nat) (v : Value) (l : List ByteArray) (hs : a.eval s = v) (hrow : Rw wr base v l) (hw : w = wr.alloc ob) (hbel : Below base w0 wr) (hbase : base ≤ wr.heap.size)
    (ad : Addr) (c : Nat) (d : ByteArray) (hx : a.eval x = .slice (some ad) 1 c) (hnews : ∀ j u, [Value.string d][j]? = some u → w.cell? (ad.add j) = some u)
    (hlen : l.length ≤ 1048576)
    (h : ∀ v' w', OwnS w' base v' (l ++ [d]) → Below base w0 w' → K (a.put o.dst v') w') :
    if Region.wanted o (yielded ops a.tmps) = true then Oper.wp P o a w K Q else E := by
  have hwt : Region.wanted o (yielded ops a.tmps) = true := by simp [Region.wanted, hg]
  rw [if_pos hwt]
  have hb1 : Below wr.heap.size wr w := by rw [hw]; exact (Below.refl _ _).alloc (Nat.le_refl _) _
  have hb2 : Below base w0 w := by rw [hw]; exact hbel.alloc hbase _
  have hz2 : base ≤ w.heap.size := Nat.le_trans hbase hb1.size
  rcases hrow.below hb1 with hown | ⟨g, rfl, hgb, hc⟩
  · refine wp_append_own w s x t ho base 9 i z 1 16 ht hi hz hsize hby hzs (by decide) v l.length (l.map Value.string) hs hown ad 1 c [.string d] hx rfl hnews (one_cellS d) (by unfold maxLen; omega) (by omega) hz2 ?_
    intro v' w' h1 h2 _
    exact h v' w' (OwnS.snoc h1) (hb2.grown h2 hz2 fun k hk => (hown.lt k hk).1)
  · obtain ⟨v', w', hrun, r1, r2⟩ := run_append_arg_grows (P := P) w t o.type 9 i z 1 16 ht hi hz hsize hby hzs (by decide) ⟨g, 0, none⟩ l.length l.length (l.map Value.string) (by simp) (map_cell1 fun j hj => by rw [Nat.zero_add]; exact hc j hj) ad 1 c [.string d] rfl hnews (by omega) (by unfold maxLen; omega) (by omega)
    unfold Oper.wp
    simp [execOp, ho, resolve, invoke, builtin, hs, hx, hrun, Result.andThen]
    refine h v' w' ?_ (hb2.grown r2 hz2 fun k hk => by cases hk)
    exact (OwnS.snoc r1).mono hz2
end Go.Proofs.YteiicafjjcnioaaDoor.Tr
