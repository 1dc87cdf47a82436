/- Texts put together: SoCmpT, OrdPlain, OrdSpec. -/
import Derived.Test.YtmkpakhpjgocjaaCz25
import Derived.Test.YtmkpakhpjgocjaaCz20
/- How two turns are compared. -/
namespace Go.Proofs.Ytmkpakhpjgocjaa.So
open Go.RowKit Go.Sort Go.Proofs

theorem bless_eq : ∀ (x y : List UInt8), Op.bytesLess x y = decide (x < y)
  | [], [] => by simp [Op.bytesLess]
  | _ :: _, [] => by simp [Op.bytesLess]
  | [], _ :: _ => by simp [Op.bytesLess]
  | a :: x, b :: y => by
    rw [Op.bytesLess, bless_eq x y]
    simp only [List.cons_lt_cons_iff]
    by_cases h1 : a < b <;> by_cases h2 : a = b <;> simp [h1, h2]
/-- one turn's text is less than another's -/
def clT (T : Nat → ByteArray) (x y : Nat) : Bool := Op.bytesLess (T x).toList (T y).toList
theorem clT_weak (T : Nat → ByteArray) : Weak (clT T) where
  irrefl x := by simp [clT, bless_eq, List.lt_irrefl]
  trans x y z h1 h2 := by
    simp only [clT, bless_eq, decide_eq_true_eq] at *
    exact List.lt_trans h1 h2
  ntrans x y z h1 h2 := by
    simp only [clT, bless_eq, decide_eq_false_iff_not, List.not_lt] at *
    exact List.le_trans h2 h1
def cfT (T : Nat → ByteArray) (x y : Nat) : Int := if Op.bytesLess (T x).toList (T y).toList = true then -1 else if ((T x).toList == (T y).toList) = true then 0 else 1
theorem cfT_neg (T : Nat → ByteArray) (x y : Nat) : decide (cfT T x y < 0) = clT T x y := by
  unfold cfT clT
  cases Op.bytesLess (T x).toList (T y).toList with
  | true => rfl
  | false =>
    cases ((T x).toList == (T y).toList) <;> rfl

theorem nan_S (s : ByteArray) (w : World) : Calls Try.prog 167 #[.string s] w fun e w' => e = .returned (.bool false) ∧ w' = w := by
  go_enter Try.func167, Try.ntmps167
  go_wp2_with fail
  go_ret
  exact ⟨rfl, rfl⟩

set_option maxHeartbeats 1000000 in
theorem compare_S (s t : ByteArray) (w : World) : Calls Try.prog 155 #[.string s, .string t] w fun e w' => e = .returned (.int .i64 (if Op.bytesLess s.toList t.toList = true then -1 else if (s.toList == t.toList) = true then 0 else 1)) ∧ w' = w := by
  cases h1 : Op.bytesLess s.toList t.toList with
  | true =>
    rw [if_pos rfl]
    go_enter Try.func155, Try.ntmps155
    go_wp2_with fail
    refine (nan_S s w).mono ?_
    rintro e w' ⟨rfl, hw⟩
    subst w'
    go_wp2_with fail
    refine (nan_S t w).mono ?_
    rintro e w' ⟨rfl, hw⟩
    subst w'
    go_wp2_with fail
    go_ret
    exact ⟨rfl, rfl⟩
  | false =>
    rw [if_neg Bool.false_ne_true]
    cases h2 : (s.toList == t.toList) with
    | true =>
      rw [if_pos rfl]
      have h3 : (!(Op.bytesLess s.toList t.toList || s.toList == t.toList)) = false := by rw [h1, h2]; rfl
      go_enter Try.func155, Try.ntmps155
      go_wp2_with fail
      refine (nan_S s w).mono ?_
      rintro e w' ⟨rfl, hw⟩
      subst w'
      go_wp2_with fail
      refine (nan_S t w).mono ?_
      rintro e w' ⟨rfl, hw⟩
      subst w'
      go_wp2_with fail
      go_ret
      exact ⟨rfl, rfl⟩
    | false =>
      rw [if_neg Bool.false_ne_true]
      have h3 : (!(Op.bytesLess s.toList t.toList || s.toList == t.toList)) = true := by rw [h1, h2]; rfl
      go_enter Try.func155, Try.ntmps155
      go_wp2_with fail
      refine (nan_S s w).mono ?_
      rintro e w' ⟨rfl, hw⟩
      subst w'
      go_wp2_with fail
      refine (nan_S t w).mono ?_
      rintro e w' ⟨rfl, hw⟩
      subst w'
      go_wp2_with fail
      go_ret
      exact ⟨rfl, rfl⟩

theorem alloc2_grow (w : World) (o p : Obj) : (w.alloc o).alloc p = grow (w.drewN 0) #[o, p] := by
  have e : (w.heap.push o).push p = w.heap ++ #[o, p] := by
    apply Array.ext'
    simp
  unfold World.alloc grow World.drewN
  simp only
  rw [e]
  rfl

set_option maxHeartbeats 1000000 in
theorem cmp_T (T : Nat → ByteArray) (x y : Nat) (w : World) : Calls Try.prog 133 #[.agg (encT T x).toArray, .agg (encT T y).toArray] w fun e w' => e = .returned (.int .i64 (cfT T x y)) ∧ ∃ q os', w' = grow (w.drewN q) os' := by
  have HC := hideO (fun W => compare_S (T x) (T y) W)
  unfold cfT
  generalize (if Op.bytesLess (T x).toList (T y).toList = true then (-1 : Int) else if ((T x).toList == (T y).toList) = true then 0 else 1) = r at HC ⊢
  unfold encT
  go_enter Try.func133, Try.ntmps133
  go_wp2_with fail
  refine (HC.out _).mono ?_
  rintro e w' ⟨rfl, hw⟩
  subst w'
  go_wp2_with fail
  go_ret
  exact ⟨rfl, 0, _, alloc2_grow _ _ _⟩
end Go.Proofs.Ytmkpakhpjgocjaa.So

/- Plain mathematics of the order of a block's turns. -/
namespace Go.Proofs.Ytmkpakhpjgocjaa.So
open Go.RowKit

/-- all places, by their turns, and of the same turn by rising place -/
def OrdOk (t : ByteArray) (l : List Nat) : Prop := l.Perm (List.range t.size) ∧ l.Pairwise (lx (clT (turnV t)))
theorem ord_unique {t : ByteArray} {l l' : List Nat} (h : OrdOk t l) (h' : OrdOk t l') : l = l' :=
  List.Perm.eq_of_pairwise (fun _ _ _ _ h1 h2 => (lx_asymm (clT_weak _) h1 h2).elim) h.2 h'.2 (h.1.trans h'.1.symm)
open Classical in
noncomputable def ord (t : ByteArray) : List Nat := if h : ∃ l, OrdOk t l then Classical.choose h else []
theorem ord_of {t : ByteArray} {l : List Nat} (h : OrdOk t l) : ord t = l := by
  have hex : ∃ l, OrdOk t l := ⟨l, h⟩
  unfold ord
  rw [dif_pos hex]
  exact ord_unique (Classical.choose_spec hex) h
/-- numbers of places -/
def ints (l : List Nat) : List Int := l.map fun x => ((x : Nat) : Int)
theorem ints_len (l : List Nat) : (ints l).length = l.length := by simp [ints]
theorem ints_snoc (l : List Nat) (x : Nat) : ints (l ++ [x]) = ints l ++ [(x : Int)] := by simp [ints]
noncomputable def ordR (t : ByteArray) : List Int := if t.size ≤ 48 then ints (ord t) else []
theorem ordR_yes {t : ByteArray} {l : List Nat} (ht : t.size ≤ 48) (h : OrdOk t l) : ordR t = ints l := by
  unfold ordR
  rw [if_pos ht, ord_of h]
theorem ordR_len (t : ByteArray) : (ordR t).length ≤ 48 := by
  unfold ordR
  split
  · rename_i ht
    rw [ints_len]
    unfold ord
    split
    · rename_i h
      have := (Classical.choose_spec h).1.length_eq
      rw [this]
      simpa using ht
    · simp
  · simp
theorem ordR_no {t : ByteArray} (ht : 48 < t.size) : ordR t = [] := if_neg (by omega)

theorem seg_len (f : Nat → Nat) (a b : Nat) : (seg f a b).length = b - a := by simp [seg]
theorem seg_snoc (f : Nat → Nat) (k : Nat) : seg f 0 (k + 1) = seg f 0 k ++ [f k] := by
  rw [seg_split f (Nat.zero_le k) (Nat.le_succ k)]
  congr 1
  unfold seg
  rw [show k + 1 - k = 1 by omega]
  simp
theorem seg_pairwise {cl : Nat → Nat → Bool} {f : Nat → Nat} {n : Nat} (h : Ris cl 0 n f) : (seg f 0 n).Pairwise (lx cl) := by
  rw [List.pairwise_iff_getElem]
  intro i j hi hj hij
  rw [seg_len] at hi hj
  have e : ∀ k (hk : k < (seg f 0 n).length), (seg f 0 n)[k] = f k := fun k hk => by simp [seg]
  rw [e, e]
  exact h i j (Nat.zero_le _) hij (by omega)
theorem ord_seg {t : ByteArray} {f : Nat → Nat} (hp : (seg f 0 t.size).Perm (List.range t.size)) (hr : Ris (clT (turnV t)) 0 t.size f) : OrdOk t (seg f 0 t.size) := ⟨hp, seg_pairwise hr⟩

/-- one place more, set down where it belongs -/
theorem ord_put {cl : Nat → Nat → Bool} (hw : Weak cl) {l : List Nat} {k p : Nat} (hp : l.Perm (List.range k)) (hs : l.Pairwise (lx cl)) (hl : p ≤ l.length) (hhi : ∀ j (h : j < l.length), p ≤ j → cl k l[j] = true) (hlo : p = 0 ∨ ∃ h : p - 1 < l.length, cl k l[p - 1] = false) :
    (l.take p ++ [k] ++ l.drop p).Perm (List.range (k + 1)) ∧ (l.take p ++ [k] ++ l.drop p).Pairwise (lx cl) := by
  refine ⟨?_, ?_⟩
  · rw [List.range_succ]
    have h1 : (l.take p ++ [k] ++ l.drop p).Perm (l.take p ++ l.drop p ++ [k]) := by
      rw [List.append_assoc, List.append_assoc]
      exact List.Perm.append_left _ List.perm_append_comm
    rw [List.take_append_drop] at h1
    exact h1.trans (List.Perm.append_right _ hp)
  · have hlt : ∀ x ∈ l, x < k := fun x hx => by
      have := hp.mem_iff.1 hx
      simpa using this
    have hlow : ∀ x ∈ l.take p, lx cl x k := by
      intro x hx
      rcases hlo with h0 | ⟨h1, h2⟩
      · subst h0; simp at hx
      · obtain ⟨j, hj, rfl⟩ := List.getElem_of_mem hx
        have hj' : j < p := by simp at hj; omega
        rw [List.getElem_take]
        have hq : lx cl l[p - 1] k := lx_no h2 (hlt _ (List.getElem_mem _))
        rcases Nat.lt_or_ge j (p - 1) with e | e
        · exact lx_trans hw (List.pairwise_iff_getElem.1 hs j (p - 1) (by omega) h1 e) hq
        · have : j = p - 1 := by omega
          subst this
          exact hq
    have hhigh : ∀ x ∈ l.drop p, lx cl k x := by
      intro x hx
      obtain ⟨j, hj, rfl⟩ := List.getElem_of_mem hx
      rw [List.getElem_drop]
      simp at hj
      exact lx_yes (hhi (p + j) (by omega) (by omega))
    rw [List.append_assoc, List.pairwise_append]
    refine ⟨hs.sublist (List.take_sublist _ _), ?_, ?_⟩
    · rw [List.singleton_append, List.pairwise_cons]
      exact ⟨hhigh, hs.sublist (List.drop_sublist _ _)⟩
    · intro x hx y hy
      rw [List.singleton_append] at hy
      rcases List.mem_cons.1 hy with e | hy
      · rw [e]; exact hlow x hx
      · exact lx_trans hw (hlow x hx) (hhigh y hy)
end Go.Proofs.Ytmkpakhpjgocjaa.So

/- What the specification's OrderOf answers. -/
namespace Go.Proofs.Ytmkpakhpjgocjaa.So
open Go.RowKit
open Go.Proofs.Ytmkpakhpjgocjaa.In (OwnI IsO one_newI one_cellI)
open Go.Proofs.Ytmkpakhpjgocjaa.In.Try (infoI2)
open Go.Proofs.Ytmkpakhpjgocjaa.Ze (own_some own_news own_cells)

set_option maxHeartbeats 1000000 in
theorem turn_spec (t : ByteArray) (k : Nat) (w : World) (ht : t.size ≤ 1048576) (hk : k ≤ t.size) :
    Calls Try.prog 136 #[.string t, .int .i64 k] w fun e w' => e = .returned (.string (turnV t k)) ∧ ∃ q, w' = w.drewN q := by
  have mixed := mixed
  unfold turnV
  have hq0 : (t.extract k t.size).size + (t.extract 0 k).size ≤ 9223372036854775807 := by simp; omega
  have hle : (k : Int) ≤ (t.size : Int) := by omega
  have hge : ¬ (t.size : Int) < (k : Int) := by omega
  go_enter Try.func136, Try.ntmps136
  go_wp2_with fail
  go_quiet (fail)
  go_wp2_with fail
  go_ret
  exact ⟨rfl, nq, rfl⟩

theorem below_drewN {B : Nat} {w w' : World} (h : Below B w w') (n : Nat) : Below B w (w'.drewN n) := ⟨h.os, h.tape, h.output, h.size, h.block⟩
theorem own_drewN {w : World} {base : Nat} {v : Value} {l : List Int} (h : OwnI w base v l) (n : Nat) : OwnI (w.drewN n) base v l :=
  h.below (below_drewN (Below.refl _ _) n)

theorem isO_take {w : World} {g : Nat} {l : List Nat} (h : IsO w g 2 (ints l)) (p : Nat) : IsO w g 2 (ints (l.take p)) := by
  obtain ⟨cur, hb, hc⟩ := h
  refine ⟨cur, hb, fun j hj => ?_⟩
  have hj2 : j < min p l.length := by simpa [ints] using hj
  have hj' : j < p ∧ j < l.length := by omega
  have := hc j (by rw [ints_len]; exact hj'.2)
  simpa [ints] using this
theorem isO_drop {w : World} {g : Nat} {l : List Nat} (h : IsO w g 2 (ints l)) (p : Nat) : ∀ (j : Nat) (u : Value), ((ints (l.drop p)).map (Value.int .i64))[j]? = some u → w.cell? ((⟨g, p, none⟩ : Addr).add j) = some u := by
  intro j u hj
  have hadd : (⟨g, p, none⟩ : Addr).add j = ⟨g, p + j, none⟩ := by unfold Addr.add; split <;> simp_all
  rw [hadd]
  simp only [ints, List.getElem?_map, List.getElem?_drop] at hj
  cases hl : l[p + j]? with
  | none => rw [hl] at hj; cases hj
  | some x =>
    rw [hl] at hj
    obtain ⟨hlt, hx⟩ := List.getElem?_eq_some_iff.1 hl
    rw [h.cell (j := p + j) (by rw [ints_len]; exact hlt)]
    simp [ints, hx] at hj ⊢
    exact hj
theorem block_spec (t : ByteArray) (w : World) (hn : t.size ≤ 1048576) : Calls Try.prog 106 #[.string t] w fun e w' => e = .returned (.bool (decide (t.size ≤ 48))) ∧ w' = w := by
  by_cases h : t.size ≤ 48
  · rw [decide_eq_true h]
    have h' : (t.size : Int) ≤ 48 := by omega
    go_enter Try.func106, Try.ntmps106
    go_wp2_with fail
    go_ret
    exact ⟨rfl, rfl⟩
  · rw [decide_eq_false h]
    have h' : decide ((t.size : Int) ≤ 48) = false := decide_eq_false (by omega)
    go_enter Try.func106, Try.ntmps106
    go_wp2_with fail
    go_ret
    exact ⟨rfl, rfl⟩
theorem own_ne {w : World} {base : Nat} {v : Value} {l : List Int} (h : OwnI w base v l) (hl : 0 < l.length) : v ≠ .slice none 0 0 := by
  rcases h.split with ⟨_, rfl⟩ | ⟨g, cap, rfl, _⟩
  · simp at hl
  · simp

set_option maxRecDepth 100000 in
set_option maxHeartbeats 2000000 in
theorem order_spec (t : ByteArray) (w : World) (ht : t.size ≤ 48) :
    Calls Try.prog 114 #[.string t] w fun e w' => ∃ v l, e = .returned v ∧ OwnI w' w.heap.size v (ints l) ∧ OrdOk t l ∧ v ≠ .slice none 0 0 ∧ Below w.heap.size w w' := by
  have mixed := mixed
  obtain ⟨i0, hi0, hz0, hz1, hz2⟩ := info_parts infoI2
  have HW := hideO (Ze.OwnI.empty w)
  have HT := hideO (fun (k : Nat) (W : World) (hk : k ≤ t.size) => turn_spec t k W (by omega) hk)
  have htz : (t.size : Int) ≤ 48 := by omega
  go_enter Try.func114, Try.ntmps114
  go_wp2_with fail
  go_loopw [4, 3] (fun i u wr => ∃ (k : Nat) (l : List Nat), i = .int .i64 k ∧ k ≤ t.size ∧ l.Perm (List.range k) ∧ l.Pairwise (lx (clT (turnV t))) ∧ OwnI wr w.heap.size u (ints l) ∧ u ≠ .slice none 0 0 ∧ Below w.heap.size w wr) (fun i _ _ => t.size - (intOf i).toNat)
  case atStart => exact ⟨0, [], rfl, Nat.zero_le _, List.Perm.refl _, List.Pairwise.nil, HW.out, by simp, (Below.refl _ _).alloc (Nat.le_refl _) _⟩
  case round =>
    obtain ⟨k, l, rfl, hk, hp, hs, hown, hne, hbel⟩ := hrel
    have HP := hideO hp
    have HS := hideO hs
    have GB := hideO hbel
    have hsz := hbel.size
    have hlk : l.length = k := by have := hp.length_eq; simpa using this
    have HL := hideO hlk
    have G1 := hideO hown
    obtain ⟨g, cap, rfl, hg, hgl, ho⟩ := own_some hown hne
    rw [ints_len, hlk] at G1 ⊢
    have HO := hideO ho
    have hcap : k ≤ cap := by
      obtain ⟨_, h⟩ := hown
      rcases h with ⟨h, _⟩ | ⟨g', cap', cur, hv, _, _, hle, _⟩
      · cases h
      · simp at hv
        rw [ints_len, hlk] at hle
        omega
    have hcm : cap ≤ maxLen := by
      obtain ⟨_, h⟩ := hown
      rcases h with ⟨h, _⟩ | ⟨g', cap', cur, hv, _, _, _, hle, _⟩
      · cases h
      · simp at hv
        omega
    clear hown hne hbel hp hs ho hlk
    by_cases hlt : k < t.size
    · have hlt' : (k : Int) < (t.size : Int) := by omega
      obtain ⟨wo, hwo⟩ : ∃ wo, wo = wr := ⟨_, rfl⟩
      subst hwo
      go_wp2_with fail
      go_loopw [5] (fun i wr2 => ∃ (p q : Nat), i = .int .i64 p ∧ p ≤ k ∧ (∀ j (h : j < l.length), p ≤ j → clT (turnV t) k l[j] = true) ∧ wr2 = wo.drewN q) (fun i _ => (intOf i).toNat)
      case atStart => exact ⟨k, 0, rfl, Nat.le_refl _, fun j h1 h2 => absurd h1 (by have := HL.out; omega), rfl⟩
      case round =>
        obtain ⟨p, q, rfl, hpk, hhi, hwr⟩ := hrel
        have HHI := hideO hhi
        have HWR := hideO hwr
        have hO2 : IsO wr g 2 (ints l) := by rw [hwr]; exact HO.out.of_heap rfl
        clear hhi hwr
        by_cases hp0 : 0 < p
        · obtain ⟨pp, hpp⟩ : ∃ pp, p = pp + 1 := ⟨p - 1, by omega⟩
          have hppl : pp < l.length := by have := HL.out; omega
          have c0 := hO2.cell (j := pp) (by rw [ints_len]; exact hppl)
          have ey : (ints l)[pp]'(by rw [ints_len]; exact hppl) = ((l[pp] : Nat) : Int) := by simp [ints]
          rw [ey] at c0
          have hyk : l[pp] < k := by
            have := HP.out.mem_iff.1 (List.getElem_mem hppl)
            simpa using this
          obtain ⟨y, hy⟩ : ∃ y, y = l[pp] := ⟨_, rfl⟩
          rw [← hy] at c0 hyk
          have c1 := fun n' => (show (wr.drewN n').cell? ⟨g, pp, none⟩ = some (.int .i64 (y : Nat)) from c0)
          have HTK := hideO (fun W => HT.out k W (by omega))
          have HTY := hideO (fun W => HT.out y W (by omega))
          have HCL : Hid (Op.bytesLess (turnV t k).toList (turnV t y).toList = clT (turnV t) k y) := rfl
          have e1 : (p : Int) - 1 = (pp : Int) := by omega
          have hwp : IntKind.i64.wrap (pp : Int) = (pp : Int) := by rw [IntKind.wrap_i64]; omega
          have hpz : (pp : Int) < (k : Int) := by omega
          have hp0' : (0 : Int) < (p : Int) := by omega
          have hpd : decide ((0 : Int) < (p : Int)) = true := decide_eq_true hp0'
          have HPP := hideO hpp
          have HY := hideO hy
          generalize turnV t k = A at HTK HCL
          generalize turnV t y = B at HTY HCL
          clear c0 ey hpp hy hO2
          cases hcb : clT (turnV t) k y with
          | true =>
            have hbl : Op.bytesLess A.toList B.toList = true := HCL.out.trans hcb
            have HC2 : Hid (∀ j (h : j < l.length), pp ≤ j → clT (turnV t) k l[j] = true) := fun j h1 h2 => by
              rcases Nat.eq_or_lt_of_le h2 with e | e
              · subst e
                rw [← HY.out]
                exact hcb
              · exact HHI.out j h1 (by have := HPP.out; omega)
            go_wp2_with fail
            go_quiet (first | (go_at_call 136; (with_reducible refine Calls.quiet_of (HTK.out _))) | (go_at_call 136; (with_reducible refine Calls.quiet_of (HTY.out _))))
            all_goals (try go_wp2_with fail)
            go_roundw
            case rel => exact ⟨pp, q + nq, rfl, by omega, HC2.out, by rw [HWR.out]; exact World.drewN_drewN _ _ _⟩
            case measure => have := HPP.out; simp [intOf]; omega
          | false =>
            have hbl : Op.bytesLess A.toList B.toList = false := HCL.out.trans hcb
            go_wp2_with fail
            go_quiet (first | (go_at_call 136; (with_reducible refine Calls.quiet_of (HTK.out _))) | (go_at_call 136; (with_reducible refine Calls.quiet_of (HTY.out _))))
            have HQ := hideO (ord_put (clT_weak (turnV t)) HP.out HS.out (show p ≤ l.length by have := HL.out; omega) HHI.out (by
              have := HPP.out
              exact Or.inr ⟨by omega, by
                have e : l[p - 1]'(by omega) = y := by rw [HY.out]; congr 1; omega
                rw [e]
                exact hcb⟩))
            have G4 := hideO (own_drewN G1.out (q + nq))
            have O4 : Hid (IsO (wo.drewN (q + nq)) g 2 (ints l)) := HO.out.of_heap rfl
            have B4 := hideO (below_drewN GB.out (q + nq))
            have hW : wr.drewN nq = wo.drewN (q + nq) := by rw [HWR.out]; exact World.drewN_drewN _ _ _
            have z4 : g < (wo.drewN (q + nq)).heap.size := hgl
            have zs4 : w.heap.size ≤ (wo.drewN (q + nq)).heap.size := hsz
            rw [hW]
            clear hW
            generalize wo.drewN (q + nq) = W at G4 O4 B4 z4 zs4 ⊢
            have HEM := hideO (Ze.OwnI.empty W)
            have HTA : Hid ((ints l).length = k) := by
              unfold Hid
              rw [ints_len, HL.out]
            have hpc : (p : Int) ≤ (cap : Int) := by omega
            have hpk' : (p : Int) ≤ (k : Int) := by omega
            go_wp2_with (at_builtin; refine wpList_append_own _ rfl (.tmp 33) (.tmp 36) 23 rfl W.heap.size 2 i0 (.int .i64 0) 1 8 Try.underlying23 hi0 hz0 hz1 hz2 rfl (by decide) _ 0 [] rfl HEM.out ⟨g, 0, none⟩ p cap ((ints (l.take p)).map (Value.int .i64)) rfl ?len1 ?new1 (own_cells _) (by unfold maxLen; omega) (by omega) (by simp) ?_)
            case len1 => simp [ints_len]; have := HL.out; omega
            case new1 => exact own_news (isO_take (O4.out.below ((Below.refl _ W).alloc (Nat.le_refl _) _) z4) p)
            intro v1 w1 hown1 hgrow1 _
            have HO1 : Hid (OwnI w1 W.heap.size v1 (ints (l.take p))) := by
              have e : (ints (l.take p)).length = p := by simp [ints_len]; have := HL.out; omega
              unfold Hid OwnI
              rw [e]
              exact hown1
            have hb1 : Below W.heap.size W w1 := ((Below.refl W.heap.size W).alloc (Nat.le_refl _) _).grown hgrow1 (by simp) (fun k hk => by simp [Value.ownBlock] at hk; omega)
            have z1 := hb1.size
            have O1 := hideO (O4.out.below hb1 z4)
            have B1 := hideO hb1
            clear hown1 hgrow1 hb1
            have HLT : Hid ((ints (l.take p)).length = p) := by
              unfold Hid
              simp [ints_len]
              have := HL.out
              omega
            go_wp2_with (at_builtin; refine wpList_append_own _ rfl (.tmp 38) (.tmp 40) 23 rfl W.heap.size 2 i0 (.int .i64 0) 1 8 Try.underlying23 hi0 hz0 hz1 hz2 rfl (by decide) _ _ _ rfl (Ze.OwnI.alloc HO1.out _) ⟨w1.heap.size, 0, none⟩ 1 1 [.int .i64 (k : Nat)] rfl rfl (one_newI _ _ _) (one_cellI _) (by rw [HLT.out]; unfold maxLen; omega) (by rw [HLT.out]; omega) (by simp; omega) ?_)
            intro v2 w2 hown2 hgrow2 _
            have HO2 : Hid (OwnI w2 W.heap.size v2 (ints (l.take p ++ [k]))) := by
              unfold Hid
              rw [ints_snoc]
              exact In.OwnI.snoc hown2
            have hb2 := In.app_one B1.out z1 (Nat.le_refl _) HO1.out hgrow2
            have z2 := hb2.size
            have O2 := hideO (O4.out.below hb2 z4)
            have B2 := hideO hb2
            clear hown2 hgrow2 hb2 B1 O1
            have HLT2 : Hid ((ints (l.take p ++ [k])).length = p + 1) := by
              unfold Hid
              simp [ints_len]
              have := HL.out
              omega
            have HLD : Hid ((ints (l.drop p)).length = k - p) := by
              unfold Hid
              simp [ints_len, HL.out]
            have HFIN : Hid (∀ v3 w3, w3.ownsRow W.heap.size 2 1 v3 (p + 1 + (k - p)) ((ints (l.take p ++ [k])).map (Value.int .i64) ++ (ints (l.drop p)).map (Value.int .i64)) → OwnI w3 W.heap.size v3 (ints (l.take p ++ [k] ++ l.drop p))) := fun v3 w3 h => by
              have e : ints (l.take p ++ [k] ++ l.drop p) = ints (l.take p ++ [k]) ++ ints (l.drop p) := by simp [ints]
              rw [e]
              apply Ze.OwnI.joined
              rw [HLT2.out, HLD.out]
              exact h
            have HOW2 : Hid (w2.ownsRow W.heap.size 2 1 v2 (p + 1) ((ints (l.take p ++ [k])).map (Value.int .i64))) := by
              have := HO2.out
              unfold OwnI at this
              rw [HLT2.out] at this
              exact this
            have hv2 : v2 ≠ .slice none 0 0 := own_ne HO2.out (by rw [HLT2.out]; omega)
            by_cases hkp : p = k
            · have HD0 : Hid (ints (l.drop p) = []) := by
                unfold Hid
                rw [hkp, ← HL.out, List.drop_length]
                rfl
              subst hkp
              by_cases hcp : cap = p
              · subst hcp
                go_wp2_with (at_builtin; refine wpList_append_own _ rfl (.tmp 42) (.tmp 45) 23 rfl W.heap.size 2 i0 (.int .i64 0) 1 8 Try.underlying23 hi0 hz0 hz1 hz2 rfl (by decide) _ _ _ rfl HOW2.out _ 0 _ [] rfl rfl (by intro j u hj; simp at hj) (by intro u hu; simp at hu) (by unfold maxLen; omega) (by omega) (by omega) ?_)
                intro v3 w3 hown3 hgrow3 _
                have HO3 := hideO (HFIN.out v3 w3 (by rw [HD0.out, Nat.sub_self, List.map_nil, List.append_nil]; exact hown3))
                have HN3 := hideO (own_ne HO3.out (by simp [ints_len]; omega))
                have hb3 := hideO (Ze.app_row B2.out z2 (Nat.le_refl _) HO2.out hgrow3)
                clear hown3 hgrow3
                go_wp2_with fail
                go_roundw
                case rel => exact ⟨cap + 1, _, by go_num, by omega, HQ.out.1, HQ.out.2, HO3.out.mono zs4, HN3.out, B4.out.trans (hb3.out.mono zs4)⟩
                case measure => simp [intOf]; omega
              · have hcp1 : ¬ (cap : Int) = (p : Int) := by omega
                have hcp2 : p < cap := by omega
                go_wp2_with (at_builtin; refine wpList_append_own _ rfl (.tmp 42) (.tmp 45) 23 rfl W.heap.size 2 i0 (.int .i64 0) 1 8 Try.underlying23 hi0 hz0 hz1 hz2 rfl (by decide) _ _ _ rfl HOW2.out _ 0 _ [] rfl rfl (by intro j u hj; simp at hj) (by intro u hu; simp at hu) (by unfold maxLen; omega) (by omega) (by omega) ?_)
                intro v3 w3 hown3 hgrow3 _
                have HO3 := hideO (HFIN.out v3 w3 (by rw [HD0.out, Nat.sub_self, List.map_nil, List.append_nil]; exact hown3))
                have HN3 := hideO (own_ne HO3.out (by simp [ints_len]; omega))
                have hb3 := hideO (Ze.app_row B2.out z2 (Nat.le_refl _) HO2.out hgrow3)
                clear hown3 hgrow3
                go_wp2_with fail
                go_roundw
                case rel => exact ⟨p + 1, _, by go_num, by omega, HQ.out.1, HQ.out.2, HO3.out.mono zs4, HN3.out, B4.out.trans (hb3.out.mono zs4)⟩
                case measure => simp [intOf]; omega
            · have hpk2 : p < k := by omega
              have hcp0 : ¬ cap = p := by omega
              have hcp1 : ¬ (cap : Int) = (p : Int) := by omega
              obtain ⟨dl, hdl⟩ : ∃ dl, dl = k - p := ⟨_, rfl⟩
              have edl : (k : Int) - (p : Int) = (dl : Int) := by omega
              have edl2 : k - p = dl := hdl.symm
              rw [← hdl] at HFIN HLD
              clear hkp hdl
              go_wp2_with (at_builtin; refine wpList_append_own _ rfl (.tmp 42) (.tmp 45) 23 rfl W.heap.size 2 i0 (.int .i64 0) 1 8 Try.underlying23 hi0 hz0 hz1 hz2 rfl (by decide) _ _ _ rfl HOW2.out ⟨g, p, none⟩ dl _ ((ints (l.drop p)).map (Value.int .i64)) rfl ?len3 ?new3 (own_cells _) ?c31 ?c32 (by omega) ?_)
              case len3 => rw [List.length_map, HLD.out, Nat.mul_one]
              case new3 => exact isO_drop O2.out p
              case c31 => have := HLD.out; unfold maxLen; omega
              case c32 => have := HLD.out; omega
              intro v3 w3 hown3 hgrow3 _
              have HO3 := hideO (HFIN.out v3 w3 hown3)
              have HN3 := hideO (own_ne HO3.out (by simp [ints_len]; omega))
              have hb3 := hideO (Ze.app_row B2.out z2 (Nat.le_refl _) HO2.out hgrow3)
              clear hown3 hgrow3
              go_wp2_with fail
              go_roundw
              case rel => exact ⟨k + 1, _, by go_num, by omega, HQ.out.1, HQ.out.2, HO3.out.mono zs4, HN3.out, B4.out.trans (hb3.out.mono zs4)⟩
              case measure => simp [intOf]; omega
        · have hpd : decide ((0 : Int) < (p : Int)) = false := decide_eq_false (by omega)
          have hpn : ¬ (0 : Int) < (p : Int) := by omega
          clear hO2
          go_wp2_with fail
          go_quiet (fail)
          have HQ := hideO (ord_put (clT_weak (turnV t)) HP.out HS.out (show p ≤ l.length by have := HL.out; omega) HHI.out (by exact Or.inl (by omega)))
          have G4 := hideO (own_drewN G1.out (q + nq))
          have O4 : Hid (IsO (wo.drewN (q + nq)) g 2 (ints l)) := HO.out.of_heap rfl
          have B4 := hideO (below_drewN GB.out (q + nq))
          have hW : wr.drewN nq = wo.drewN (q + nq) := by rw [HWR.out]; exact World.drewN_drewN _ _ _
          have z4 : g < (wo.drewN (q + nq)).heap.size := hgl
          have zs4 : w.heap.size ≤ (wo.drewN (q + nq)).heap.size := hsz
          rw [hW]
          clear hW
          generalize wo.drewN (q + nq) = W at G4 O4 B4 z4 zs4 ⊢
          have HEM := hideO (Ze.OwnI.empty W)
          have HTA : Hid ((ints l).length = k) := by
            unfold Hid
            rw [ints_len, HL.out]
          have hpc : (p : Int) ≤ (cap : Int) := by omega
          have hpk' : (p : Int) ≤ (k : Int) := by omega
          go_wp2_with (at_builtin; refine wpList_append_own _ rfl (.tmp 33) (.tmp 36) 23 rfl W.heap.size 2 i0 (.int .i64 0) 1 8 Try.underlying23 hi0 hz0 hz1 hz2 rfl (by decide) _ 0 [] rfl HEM.out ⟨g, 0, none⟩ p cap ((ints (l.take p)).map (Value.int .i64)) rfl ?len1 ?new1 (own_cells _) (by unfold maxLen; omega) (by omega) (by simp) ?_)
          case len1 => simp [ints_len]; have := HL.out; omega
          case new1 => exact own_news (isO_take (O4.out.below ((Below.refl _ W).alloc (Nat.le_refl _) _) z4) p)
          intro v1 w1 hown1 hgrow1 _
          have HO1 : Hid (OwnI w1 W.heap.size v1 (ints (l.take p))) := by
            have e : (ints (l.take p)).length = p := by simp [ints_len]; have := HL.out; omega
            unfold Hid OwnI
            rw [e]
            exact hown1
          have hb1 : Below W.heap.size W w1 := ((Below.refl W.heap.size W).alloc (Nat.le_refl _) _).grown hgrow1 (by simp) (fun k hk => by simp [Value.ownBlock] at hk; omega)
          have z1 := hb1.size
          have O1 := hideO (O4.out.below hb1 z4)
          have B1 := hideO hb1
          clear hown1 hgrow1 hb1
          have HLT : Hid ((ints (l.take p)).length = p) := by
            unfold Hid
            simp [ints_len]
            have := HL.out
            omega
          go_wp2_with (at_builtin; refine wpList_append_own _ rfl (.tmp 38) (.tmp 40) 23 rfl W.heap.size 2 i0 (.int .i64 0) 1 8 Try.underlying23 hi0 hz0 hz1 hz2 rfl (by decide) _ _ _ rfl (Ze.OwnI.alloc HO1.out _) ⟨w1.heap.size, 0, none⟩ 1 1 [.int .i64 (k : Nat)] rfl rfl (one_newI _ _ _) (one_cellI _) (by rw [HLT.out]; unfold maxLen; omega) (by rw [HLT.out]; omega) (by simp; omega) ?_)
          intro v2 w2 hown2 hgrow2 _
          have HO2 : Hid (OwnI w2 W.heap.size v2 (ints (l.take p ++ [k]))) := by
            unfold Hid
            rw [ints_snoc]
            exact In.OwnI.snoc hown2
          have hb2 := In.app_one B1.out z1 (Nat.le_refl _) HO1.out hgrow2
          have z2 := hb2.size
          have O2 := hideO (O4.out.below hb2 z4)
          have B2 := hideO hb2
          clear hown2 hgrow2 hb2 B1 O1
          have HLT2 : Hid ((ints (l.take p ++ [k])).length = p + 1) := by
            unfold Hid
            simp [ints_len]
            have := HL.out
            omega
          have HLD : Hid ((ints (l.drop p)).length = k - p) := by
            unfold Hid
            simp [ints_len, HL.out]
          have HFIN : Hid (∀ v3 w3, w3.ownsRow W.heap.size 2 1 v3 (p + 1 + (k - p)) ((ints (l.take p ++ [k])).map (Value.int .i64) ++ (ints (l.drop p)).map (Value.int .i64)) → OwnI w3 W.heap.size v3 (ints (l.take p ++ [k] ++ l.drop p))) := fun v3 w3 h => by
            have e : ints (l.take p ++ [k] ++ l.drop p) = ints (l.take p ++ [k]) ++ ints (l.drop p) := by simp [ints]
            rw [e]
            apply Ze.OwnI.joined
            rw [HLT2.out, HLD.out]
            exact h
          have HOW2 : Hid (w2.ownsRow W.heap.size 2 1 v2 (p + 1) ((ints (l.take p ++ [k])).map (Value.int .i64))) := by
            have := HO2.out
            unfold OwnI at this
            rw [HLT2.out] at this
            exact this
          have hv2 : v2 ≠ .slice none 0 0 := own_ne HO2.out (by rw [HLT2.out]; omega)
          by_cases hkp : p = k
          · have HD0 : Hid (ints (l.drop p) = []) := by
              unfold Hid
              rw [hkp, ← HL.out, List.drop_length]
              rfl
            subst hkp
            by_cases hcp : cap = p
            · subst hcp
              go_wp2_with (at_builtin; refine wpList_append_own _ rfl (.tmp 42) (.tmp 45) 23 rfl W.heap.size 2 i0 (.int .i64 0) 1 8 Try.underlying23 hi0 hz0 hz1 hz2 rfl (by decide) _ _ _ rfl HOW2.out _ 0 _ [] rfl rfl (by intro j u hj; simp at hj) (by intro u hu; simp at hu) (by unfold maxLen; omega) (by omega) (by omega) ?_)
              intro v3 w3 hown3 hgrow3 _
              have HO3 := hideO (HFIN.out v3 w3 (by rw [HD0.out, Nat.sub_self, List.map_nil, List.append_nil]; exact hown3))
              have HN3 := hideO (own_ne HO3.out (by simp [ints_len]; omega))
              have hb3 := hideO (Ze.app_row B2.out z2 (Nat.le_refl _) HO2.out hgrow3)
              clear hown3 hgrow3
              go_wp2_with fail
              go_roundw
              case rel => exact ⟨cap + 1, _, by go_num, by omega, HQ.out.1, HQ.out.2, HO3.out.mono zs4, HN3.out, B4.out.trans (hb3.out.mono zs4)⟩
              case measure => simp [intOf]; omega
            · have hcp1 : ¬ (cap : Int) = (p : Int) := by omega
              have hcp2 : p < cap := by omega
              go_wp2_with (at_builtin; refine wpList_append_own _ rfl (.tmp 42) (.tmp 45) 23 rfl W.heap.size 2 i0 (.int .i64 0) 1 8 Try.underlying23 hi0 hz0 hz1 hz2 rfl (by decide) _ _ _ rfl HOW2.out _ 0 _ [] rfl rfl (by intro j u hj; simp at hj) (by intro u hu; simp at hu) (by unfold maxLen; omega) (by omega) (by omega) ?_)
              intro v3 w3 hown3 hgrow3 _
              have HO3 := hideO (HFIN.out v3 w3 (by rw [HD0.out, Nat.sub_self, List.map_nil, List.append_nil]; exact hown3))
              have HN3 := hideO (own_ne HO3.out (by simp [ints_len]; omega))
              have hb3 := hideO (Ze.app_row B2.out z2 (Nat.le_refl _) HO2.out hgrow3)
              clear hown3 hgrow3
              go_wp2_with fail
              go_roundw
              case rel => exact ⟨p + 1, _, by go_num, by omega, HQ.out.1, HQ.out.2, HO3.out.mono zs4, HN3.out, B4.out.trans (hb3.out.mono zs4)⟩
              case measure => simp [intOf]; omega
          · have hpk2 : p < k := by omega
            have hcp0 : ¬ cap = p := by omega
            have hcp1 : ¬ (cap : Int) = (p : Int) := by omega
            obtain ⟨dl, hdl⟩ : ∃ dl, dl = k - p := ⟨_, rfl⟩
            have edl : (k : Int) - (p : Int) = (dl : Int) := by omega
            have edl2 : k - p = dl := hdl.symm
            rw [← hdl] at HFIN HLD
            clear hkp hdl
            go_wp2_with (at_builtin; refine wpList_append_own _ rfl (.tmp 42) (.tmp 45) 23 rfl W.heap.size 2 i0 (.int .i64 0) 1 8 Try.underlying23 hi0 hz0 hz1 hz2 rfl (by decide) _ _ _ rfl HOW2.out ⟨g, p, none⟩ dl _ ((ints (l.drop p)).map (Value.int .i64)) rfl ?len3 ?new3 (own_cells _) ?c31 ?c32 (by omega) ?_)
            case len3 => rw [List.length_map, HLD.out, Nat.mul_one]
            case new3 => exact isO_drop O2.out p
            case c31 => have := HLD.out; unfold maxLen; omega
            case c32 => have := HLD.out; omega
            intro v3 w3 hown3 hgrow3 _
            have HO3 := hideO (HFIN.out v3 w3 hown3)
            have HN3 := hideO (own_ne HO3.out (by simp [ints_len]; omega))
            have hb3 := hideO (Ze.app_row B2.out z2 (Nat.le_refl _) HO2.out hgrow3)
            clear hown3 hgrow3
            go_wp2_with fail
            go_roundw
            case rel => exact ⟨k + 1, _, by go_num, by omega, HQ.out.1, HQ.out.2, HO3.out.mono zs4, HN3.out, B4.out.trans (hb3.out.mono zs4)⟩
            case measure => simp [intOf]; omega
    · obtain rfl : k = t.size := by omega
      go_wp2_with fail
      go_ret
      exact ⟨_, l, rfl, G1.out, ⟨HP.out, HS.out⟩, by simp, GB.out⟩

set_option maxHeartbeats 1000000 in
theorem orderOf_spec (t : ByteArray) (w : World) (hn : t.size ≤ 1048576) :
    Calls Try.prog 52 #[.string t] w fun e w' => ∃ v, e = .returned v ∧ OwnI w' w.heap.size v (ordR t) ∧ Below w.heap.size w w' := by
  by_cases hlong : 48 < t.size
  · rw [ordR_no hlong]
    have HB := hideO (block_spec t w hn)
    rw [decide_eq_false (by omega : ¬ t.size ≤ 48)] at HB
    have HW := hideO (Ze.OwnI.empty w)
    go_enter Try.func52, Try.ntmps52
    go_wp2_with fail
    refine HB.out.mono ?_
    rintro e w' ⟨rfl, hw⟩
    subst w'
    go_wp2_with fail
    go_ret
    exact ⟨_, rfl, HW.out, (Below.refl _ _).alloc (Nat.le_refl _) _⟩
  · have HB := hideO (block_spec t w hn)
    rw [decide_eq_true (by omega : t.size ≤ 48)] at HB
    have HOS := hideO (order_spec t w (by omega))
    have HLE : Hid (t.size ≤ 48) := by
      unfold Hid
      omega
    go_enter Try.func52, Try.ntmps52
    go_wp2_with fail
    refine HB.out.mono ?_
    rintro e w' ⟨rfl, hw⟩
    subst w'
    go_wp2_with fail
    refine HOS.out.mono ?_
    rintro e w' ⟨v, l, rfl, ho, hok, _, hb⟩
    have HO := hideO ho
    have HE := hideO (ordR_yes HLE.out hok)
    have HBB := hideO hb
    clear ho hok hb
    go_wp2_with fail
    go_ret
    exact ⟨_, rfl, by rw [HE.out]; exact HO.out, HBB.out⟩
end Go.Proofs.Ytmkpakhpjgocjaa.So
