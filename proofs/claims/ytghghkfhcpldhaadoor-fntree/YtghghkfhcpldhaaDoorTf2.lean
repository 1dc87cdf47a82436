/- Texts put together: RangeMath, RangeMath2, DrawRg. -/
import Derived.Test.YtghghkfhcpldhaaDoorTf1
import Derived.Test.YtghghkfhcpldhaaDoorTfDrawSpoil
/- Plain mathematics: the nodes of a range are the trees of the bits of its size; adding one entry to a range of entries comes to the range of all. -/
namespace Go.Proofs.YtghghkfhcpldhaaDoor.Tr
open Go.Proofs.YtghghkfhcpldhaaDoor.Sh (nodeV leafV)

def peaks (l : List ByteArray) : List ByteArray :=
  if _h0 : l.length = 0 then [] else if _h1 : l.length = 1 ∨ l.length = 2 * half l.length then [tree l] else tree (l.take (half l.length)) :: peaks (l.drop (half l.length))
termination_by l.length
decreasing_by
  have := half_pos l.length
  simp
  omega
theorem peaks_nil (l : List ByteArray) (h : l.length = 0) : peaks l = [] := by rw [peaks, dif_pos h]
theorem peaks_one (l : List ByteArray) (h : 0 < l.length) (h1 : l.length = 1 ∨ l.length = 2 * half l.length) : peaks l = [tree l] := by rw [peaks, dif_neg (by omega), dif_pos h1]
theorem peaks_more (l : List ByteArray) (h : 0 < l.length) (h1 : ¬ (l.length = 1 ∨ l.length = 2 * half l.length)) : peaks l = tree (l.take (half l.length)) :: peaks (l.drop (half l.length)) := by rw [peaks, dif_neg (by omega), dif_neg h1]
theorem half_of_pow (s : Nat) : half (2 ^ (s + 1)) = 2 ^ s := by
  have := Nat.one_le_two_pow (n := s)
  exact half_of _ s (by rw [Nat.pow_succ]; omega) (by rw [Nat.pow_succ]; omega)
theorem peaks_pow (b : List ByteArray) (s : Nat) (h : b.length = 2 ^ s) : peaks b = [tree b] := by
  have := Nat.one_le_two_pow (n := s)
  refine peaks_one b (by omega) ?_
  cases s with
  | zero => exact .inl (by simpa using h)
  | succ s =>
    refine .inr ?_
    rw [h, half_of_pow, Nat.pow_succ]
    omega
theorem gap (a b D : Nat) (ha : D ∣ a) (hb : D ∣ b) (h : a < b) : a + D ≤ b := by
  obtain ⟨x, rfl⟩ := ha
  obtain ⟨y, rfl⟩ := hb
  have hx : x < y := Nat.lt_of_mul_lt_mul_left h
  have := Nat.mul_le_mul_left D (show x + 1 ≤ y from hx)
  rw [Nat.mul_add, Nat.mul_one] at this
  exact this
theorem peaks_app : ∀ (f : Nat) (l b : List ByteArray) (s : Nat), l.length ≤ f → 2 ^ (s + 1) ∣ l.length → b.length = 2 ^ s → peaks (l ++ b) = peaks l ++ [tree b]
  | 0, l, b, s, hf, hd, hb => by
    obtain rfl : l = [] := List.eq_nil_of_length_eq_zero (by omega)
    rw [List.nil_append, peaks_nil [] rfl, List.nil_append]
    exact peaks_pow b s hb
  | f + 1, l, b, s, hf, hd, hb => by
    by_cases h0 : l.length = 0
    · obtain rfl : l = [] := List.eq_nil_of_length_eq_zero h0
      rw [List.nil_append, peaks_nil [] rfl, List.nil_append]
      exact peaks_pow b s hb
    have hs := Nat.one_le_two_pow (n := s)
    have e2 : 2 ^ (s + 1) = 2 * 2 ^ s := by rw [Nat.pow_succ, Nat.mul_comm]
    have hD : 2 ^ (s + 1) ≤ l.length := Nat.le_of_dvd (by omega) hd
    have hlen : (l ++ b).length = l.length + 2 ^ s := by rw [List.length_append, hb]
    by_cases hp : l.length = 2 * half l.length
    · -- all of the first is one tree
      obtain ⟨u, hu⟩ : ∃ u, half l.length = 2 ^ u := ⟨_, rfl⟩
      have hh : half (l ++ b).length = l.length := by
        rw [hlen, hp, hu, show 2 * 2 ^ u = 2 ^ (u + 1) by rw [Nat.pow_succ, Nat.mul_comm]]
        refine half_of _ (u + 1) (by omega) ?_
        rw [show 2 ^ (u + 1) = 2 * 2 ^ u by rw [Nat.pow_succ, Nat.mul_comm]]
        omega
      rw [peaks_more (l ++ b) (by omega) (by rw [hh]; omega), hh, List.take_left, List.drop_left, peaks_one l (by omega) (.inr hp), peaks_pow b s hb]
      rfl
    · have hk := half_lt l.length (by omega)
      have hk2 := half_two l.length (by omega)
      obtain ⟨u, hu⟩ : ∃ u, half l.length = 2 ^ u := ⟨_, rfl⟩
      have hus : s + 1 ≤ u := by
        rcases Nat.lt_or_ge u (s + 1) with h | h
        · have := Nat.pow_le_pow_right (n := 2) (by omega) (show u + 1 ≤ s + 1 from h)
          rw [Nat.pow_succ] at this
          omega
        · exact h
      have hdk : 2 ^ (s + 1) ∣ half l.length := by rw [hu]; exact Nat.pow_dvd_pow 2 hus
      have hg := gap l.length (2 * half l.length) (2 ^ (s + 1)) hd (Nat.dvd_trans hdk (Nat.dvd_mul_left _ _)) (by omega)
      have hh : half (l ++ b).length = half l.length := by
        rw [hlen, hu]
        exact half_of _ u (by omega) (by omega)
      have hk0 := half_pos l.length
      rw [peaks_more (l ++ b) (by omega) (by rw [hh]; omega), hh, List.take_append_of_le_length (by omega), List.drop_append_of_le_length (by omega), peaks_more l (by omega) (by omega), peaks_app f (l.drop (half l.length)) b s (by rw [List.length_drop]; omega) (by rw [List.length_drop]; exact Nat.dvd_sub hd hdk) hb]
      rfl
theorem tree_join (a b : List ByteArray) (s : Nat) (ha : a.length = 2 ^ s) (hb : b.length = 2 ^ s) : tree (a ++ b) = nodeV (tree a) (tree b) := by
  have hs := Nat.one_le_two_pow (n := s)
  have hl : (a ++ b).length = 2 ^ (s + 1) := by rw [List.length_append, ha, hb, Nat.pow_succ]; omega
  have hh : half (a ++ b).length = a.length := by rw [hl, half_of_pow, ha]
  rw [tree_two (a ++ b) (by rw [hl, Nat.pow_succ]; omega), hh, List.take_left, List.drop_left]
theorem carry_peaks : ∀ (j : Nat) (p l b : List ByteArray) (s : Nat), p.take j = peaks l → j ≤ p.length → 2 ^ s ∣ l.length → b.length = 2 ^ s → carry p j (l.length / 2 ^ s) (tree b) = peaks (l ++ b) := by
  intro j
  induction j with
  | zero =>
    intro p l b s hp hj hd hb
    have h0 : l.length = 0 := by
      rcases Nat.eq_zero_or_pos l.length with h | h
      · exact h
      · exfalso
        by_cases h1 : l.length = 1 ∨ l.length = 2 * half l.length
        · rw [peaks_one l h h1] at hp
          simp at hp
        · rw [peaks_more l h h1] at hp
          simp at hp
    obtain rfl : l = [] := List.eq_nil_of_length_eq_zero h0
    rw [List.nil_append, peaks_pow b s hb]
    rfl
  | succ i ih =>
    intro p l b s hp hj hd hb
    have hs := Nat.one_le_two_pow (n := s)
    obtain ⟨c, hc⟩ := hd
    have hq : l.length / 2 ^ s = c := by rw [hc, Nat.mul_div_cancel_left _ (by omega)]
    rw [hq]
    by_cases hodd : c % 2 = 1
    · obtain ⟨e, rfl⟩ : ∃ e, c = 2 * e + 1 := ⟨c / 2, by omega⟩
      have hn : l.length = 2 ^ (s + 1) * e + 2 ^ s := by
        rw [hc, Nat.mul_add, Nat.mul_one, Nat.pow_succ, Nat.mul_assoc]
      have hl' : (l.take (2 ^ (s + 1) * e)).length = 2 ^ (s + 1) * e := by rw [List.length_take]; omega
      have hb' : (l.drop (2 ^ (s + 1) * e)).length = 2 ^ s := by rw [List.length_drop]; omega
      have hla : peaks l = peaks (l.take (2 ^ (s + 1) * e)) ++ [tree (l.drop (2 ^ (s + 1) * e))] := by
        have := peaks_app _ (l.take (2 ^ (s + 1) * e)) (l.drop (2 ^ (s + 1) * e)) s (Nat.le_refl _) (by rw [hl']; exact Nat.dvd_mul_right _ _) hb'
        rw [List.take_append_drop] at this
        exact this
      have hip : i < p.length := by omega
      rw [List.take_add_one, List.getElem?_eq_getElem hip, hla] at hp
      have hp2 := List.append_inj' hp rfl
      have hpi : p[i] = tree (l.drop (2 ^ (s + 1) * e)) := by simpa using hp2.2
      rw [carry_odd p i _ _ hodd hip, hpi, ← tree_join _ b s hb' hb]
      have h3 := ih p (l.take (2 ^ (s + 1) * e)) (l.drop (2 ^ (s + 1) * e) ++ b) (s + 1) hp2.1 (by omega) (by rw [hl']; exact Nat.dvd_mul_right _ _) (by rw [List.length_append, hb', hb, Nat.pow_succ]; omega)
      rw [hl', Nat.mul_div_cancel_left _ (Nat.two_pow_pos _), ← List.append_assoc, List.take_append_drop] at h3
      rw [show (2 * e + 1) / 2 = e by omega]
      exact h3
    · rw [carry_even p (i + 1) c (tree b) hodd, hp, peaks_app _ l b s (Nat.le_refl _) ?_ hb]
      obtain ⟨e, rfl⟩ : ∃ e, c = 2 * e := ⟨c / 2, by omega⟩
      rw [hc, Nat.pow_succ]
      exact ⟨e, by rw [Nat.mul_assoc]⟩
end Go.Proofs.YtghghkfhcpldhaaDoor.Tr

/- Plain mathematics: a range of entries is right, and its root is their tree. -/
namespace Go.Proofs.YtghghkfhcpldhaaDoor.Tr
open Go.Proofs.YtghghkfhcpldhaaDoor.Sh (nodeV leafV)

theorem ones_one : ones 1 = 1 := by rw [ones_step, ones_zero]
theorem ones_pow (u : Nat) : ones (2 ^ u) = 1 := by
  have := ones_split u 0 1 (Nat.two_pow_pos u)
  rw [Nat.zero_add, Nat.mul_one, ones_zero, ones_one] at this
  exact this
theorem peaks_length : ∀ (f : Nat) (l : List ByteArray), l.length ≤ f → (peaks l).length = ones l.length
  | 0, l, hf => by rw [peaks_nil l (by omega), show l.length = 0 by omega, ones_zero]; rfl
  | f + 1, l, hf => by
    rcases Nat.eq_zero_or_pos l.length with h0 | h0
    · rw [peaks_nil l h0, h0, ones_zero]
      rfl
    by_cases h1 : l.length = 1 ∨ l.length = 2 * half l.length
    · rw [peaks_one l h0 h1]
      obtain ⟨u, hu⟩ : ∃ u, half l.length = 2 ^ u := ⟨_, rfl⟩
      rcases h1 with h1 | h1
      · rw [h1, ones_one]
        rfl
      · rw [h1, hu, show 2 * 2 ^ u = 2 ^ (u + 1) by rw [Nat.pow_succ, Nat.mul_comm], ones_pow]
        rfl
    · have k1 := half_lt l.length (by omega)
      have k2 := half_two l.length (by omega)
      have k3 := half_pos l.length
      rw [peaks_more l h0 h1, List.length_cons, peaks_length f _ (by rw [List.length_drop]; omega), List.length_drop]
      obtain ⟨u, hu⟩ : ∃ u, half l.length = 2 ^ u := ⟨_, rfl⟩
      have := ones_split u (l.length - half l.length) 1 (by rw [← hu]; omega)
      rw [Nat.mul_one, ← hu, show l.length - half l.length + half l.length = l.length by omega, ones_one] at this
      omega
theorem peaks_size : ∀ (f : Nat) (l : List ByteArray), l.length ≤ f → ∀ x ∈ peaks l, x.size = 32
  | 0, l, hf => by
    rw [peaks_nil l (by omega)]
    intro x hx
    cases hx
  | f + 1, l, hf => by
    rcases Nat.eq_zero_or_pos l.length with h0 | h0
    · rw [peaks_nil l h0]
      intro x hx
      cases hx
    by_cases h1 : l.length = 1 ∨ l.length = 2 * half l.length
    · rw [peaks_one l h0 h1]
      intro x hx
      obtain rfl : x = tree l := by simpa using hx
      exact tree_size l
    · have k3 := half_pos l.length
      rw [peaks_more l h0 h1]
      intro x hx
      rcases List.mem_cons.1 hx with rfl | hx
      · exact tree_size _
      · exact peaks_size f _ (by rw [List.length_drop]; omega) x hx
theorem fold_cons (a : ByteArray) (p : List ByteArray) : ∀ (m : Nat) (h : ByteArray), fold (a :: p) (m + 1) h = nodeV a (fold p m h)
  | 0, h => by simp [fold]
  | m + 1, h => by
    show fold (a :: p) (m + 1) (nodeV ((a :: p).getD (m + 1) ⟨#[]⟩) h) = nodeV a (fold p m (nodeV (p.getD m ⟨#[]⟩) h))
    rw [fold_cons a p m]
    rfl
def rootP (p : List ByteArray) : ByteArray := fold p (p.length - 1) (p.getD (p.length - 1) ⟨#[]⟩)
theorem rootP_one (x : ByteArray) : rootP [x] = x := rfl
theorem rootP_cons (a b : ByteArray) (p : List ByteArray) : rootP (a :: b :: p) = nodeV a (rootP (b :: p)) := by
  unfold rootP
  simp only [List.length_cons, Nat.add_sub_cancel]
  rw [fold_cons]
  rfl
theorem peaks_ne (l : List ByteArray) (h : 0 < l.length) : ∃ x xs, peaks l = x :: xs := by
  by_cases h1 : l.length = 1 ∨ l.length = 2 * half l.length
  · exact ⟨_, _, peaks_one l h h1⟩
  · exact ⟨_, _, peaks_more l h h1⟩
theorem peaks_root : ∀ (f : Nat) (l : List ByteArray), l.length ≤ f → 0 < l.length → rootP (peaks l) = tree l
  | 0, l, hf, h0 => by omega
  | f + 1, l, hf, h0 => by
    by_cases h1 : l.length = 1 ∨ l.length = 2 * half l.length
    · rw [peaks_one l h0 h1, rootP_one]
    · have k1 := half_lt l.length (by omega)
      have k3 := half_pos l.length
      have ih := peaks_root f (l.drop (half l.length)) (by rw [List.length_drop]; omega) (by rw [List.length_drop]; omega)
      obtain ⟨x, xs, hx⟩ := peaks_ne (l.drop (half l.length)) (by rw [List.length_drop]; omega)
      rw [peaks_more l h0 h1, hx, rootP_cons, ← hx, ih, tree_two l (by omega)]
theorem wide_peaks (l : List ByteArray) : wide (peaks l) = true :=
  (wide_yes _).2 fun _ h => peaks_size _ l (Nat.le_refl _) _ (List.getElem_mem h)
theorem rng_peaks (l : List ByteArray) (h : l.length ≤ 1000000) : rngB l.length (peaks l) = true := by
  rw [rngB_in l.length (peaks l) h, peaks_length _ l (Nat.le_refl _), wide_peaks l]
  simp
/-- the root of the range of entries is their tree -/
theorem root_peaks (l : List ByteArray) (h : l.length ≤ 1000000) : rootR l.length (peaks l) = tree l := by
  unfold rootR
  rw [if_pos (rng_peaks l h)]
  by_cases h0 : l.length = 0
  · rw [if_pos (by omega), tree_nil l h0]
  · rw [if_neg (by omega)]
    exact peaks_root _ l (Nat.le_refl _) (by omega)
/-- one entry more -/
theorem add_peaks (l : List ByteArray) (t : ByteArray) (h : l.length < 1000000) (ht : t.size ≤ 100) : addN l.length (peaks l) t = ((l ++ [t]).length : Nat) ∧ addR l.length (peaks l) t = peaks (l ++ [t]) := by
  have hok := addOk_yes l.length (peaks l) t (rng_peaks l (by omega)) (by omega) ht
  obtain ⟨e1, e2⟩ := add_yes l.length (peaks l) t (by omega) hok
  refine ⟨by rw [e1]; simp, ?_⟩
  have := carry_peaks (peaks l).length (peaks l) l [t] 0 (List.take_length ..) (Nat.le_refl _) (by simp) rfl
  rw [Nat.pow_zero, Nat.div_one, tree_one [t] rfl] at this
  rw [e2]
  exact this
end Go.Proofs.YtghghkfhcpldhaaDoor.Tr

/- The variable that holds a drawn range. -/
namespace Go.Proofs.YtghghkfhcpldhaaDoor.Dr
open Go.RowKit
open Go.Proofs.YtghghkfhcpldhaaDoor.St (OwnS IsS IsO Strs)
open Go.Proofs.YtghghkfhcpldhaaDoor.Tr (lt_of_row own_set_low own_set_var)

/-- the answer's place, the variable, the source -/
structure RgS (B : Nat) (a : Option Addr) (len cap : Nat) (w W : World) (n : Int) (v : Value) : Prop where
  r0 : W.heap[w.heap.size]? = some (.cells #[.int .i64 0, .slice none 0 0] 34 (0, 0))
  r1 : W.heap[w.heap.size + 1]? = some (.cells #[.int .i64 n, v] 34 (0, 0))
  src : Src W B a len cap
  aft : Aft B w W
  lt : B < w.heap.size
theorem RgS.start {B : Nat} {a : Option Addr} {len cap : Nat} {w : World} (hs : Src w B a len cap) : RgS B a len cap w ((w.alloc (.cells #[.int .i64 0, .slice none 0 0] 34)).alloc (.cells #[.int .i64 0, .slice none 0 0] 34)) 0 (.slice none 0 0) :=
  ⟨(Below.heap_alloc _ _ _ (by simp)).trans (Tr.new1 w _ _), Tr.new2 w _ _ _, hs.below (((Below.refl _ _).alloc (Nat.le_refl _) _).alloc (by simp) _), aft_below (((Below.refl _ _).alloc (Nat.le_refl _) _).alloc (by simp) _), hs.lt⟩
theorem RgS.turn {B : Nat} {a : Option Addr} {len cap : Nat} {w W W' : World} {n : Int} {v : Value} (h : RgS B a len cap w W n v) (hs : Src W' B a len cap) (ha : Aft B W W') : RgS B a len cap w W' n v :=
  ⟨(ha.block _ (lt_of_row h.r0) (by have := h.lt; omega)).trans h.r0, (ha.block _ (lt_of_row h.r1) (by have := h.lt; omega)).trans h.r1, hs, h.aft.trans ha, h.lt⟩
theorem RgS.up {B : Nat} {a : Option Addr} {len cap : Nat} {w W W' : World} {n : Int} {v : Value} (h : RgS B a len cap w W n v) (hb : Below (w.heap.size + 2) W W') : RgS B a len cap w W' n v :=
  ⟨(hb.block _ (by omega)).trans h.r0, (hb.block _ (by omega)).trans h.r1, h.src.stays fun k hk => hb.block k (by have := h.lt; omega), aft_more h.aft (hb.mono (by omega)), h.lt⟩
theorem RgS.far {B : Nat} {a : Option Addr} {len cap : Nat} {w W : World} {n : Int} {v : Value} (h : RgS B a len cap w W n v) : w.heap.size + 2 ≤ W.heap.size := by
  have := lt_of_row h.r1
  omega
theorem RgS.below {B : Nat} {a : Option Addr} {len cap : Nat} {w W W' : World} {n : Int} {v : Value} (h : RgS B a len cap w W n v) (hb : Below W.heap.size W W') : RgS B a len cap w W' n v := h.up (hb.mono h.far)
theorem RgS.drew {B : Nat} {a : Option Addr} {len cap : Nat} {w W : World} {n : Int} {v : Value} (h : RgS B a len cap w W n v) : RgS B a len cap w W.drew n v := h.below (Below.refl _ _).drew
theorem RgS.set1 {B : Nat} {a : Option Addr} {len cap : Nat} {w W : World} {n : Int} {v : Value} (h : RgS B a len cap w W n v) (v' : Value) : RgS B a len cap w (W.setCell ⟨w.heap.size + 1, 1, none⟩ v') n v' := by
  have hb : Below (w.heap.size + 1) W (W.setCell ⟨w.heap.size + 1, 1, none⟩ v') := (Below.refl _ _).setCell (by simp) _
  exact ⟨(hb.block _ (by omega)).trans h.r0, heap_setCell_same W _ 1 _ _ v' h.r1, h.src.stays fun k hk => hb.block k (by have := h.lt; omega), aft_more h.aft (hb.mono (by omega)), h.lt⟩
theorem RgS.set0 {B : Nat} {a : Option Addr} {len cap : Nat} {w W : World} {n : Int} {v : Value} (h : RgS B a len cap w W n v) (n' : Int) : RgS B a len cap w (W.setCell ⟨w.heap.size + 1, 0, none⟩ (.int .i64 n')) n' v := by
  have hb : Below (w.heap.size + 1) W (W.setCell ⟨w.heap.size + 1, 0, none⟩ (.int .i64 n')) := (Below.refl _ _).setCell (by simp) _
  exact ⟨(hb.block _ (by omega)).trans h.r0, heap_setCell_same W _ 0 _ _ (.int .i64 n') h.r1, h.src.stays fun k hk => hb.block k (by have := h.lt; omega), aft_more h.aft (hb.mono (by omega)), h.lt⟩
theorem RgS.cells {B : Nat} {a : Option Addr} {len cap : Nat} {w W : World} {n : Int} {v : Value} (h : RgS B a len cap w W n v) :
    W.cell? ⟨w.heap.size, 0, none⟩ = some (.int .i64 0) ∧ W.cell? ⟨w.heap.size, 1, none⟩ = some (.slice none 0 0) ∧ W.frozen? ⟨w.heap.size, 0, none⟩ = false ∧ W.frozen? ⟨w.heap.size, 1, none⟩ = false ∧
    W.cell? ⟨w.heap.size + 1, 0, none⟩ = some (.int .i64 n) ∧ W.cell? ⟨w.heap.size + 1, 1, none⟩ = some v ∧ W.frozen? ⟨w.heap.size + 1, 0, none⟩ = false ∧ W.frozen? ⟨w.heap.size + 1, 1, none⟩ = false :=
  ⟨cell_of_row W _ 0 _ _ _ h.r0, cell_of_row W _ 1 _ _ _ h.r0, frozen_of_row W _ 0 _ _ h.r0, frozen_of_row W _ 1 _ _ h.r0, cell_of_row W _ 0 _ _ _ h.r1, cell_of_row W _ 1 _ _ _ h.r1, frozen_of_row W _ 0 _ _ h.r1, frozen_of_row W _ 1 _ _ h.r1⟩
theorem RgS.held {B : Nat} {a : Option Addr} {len cap : Nat} {w W : World} {n : Int} {v : Value} (h : RgS B a len cap w W n v) (o : Obj) : (W.alloc o).cell? ⟨w.heap.size + 1, 1, none⟩ = some v :=
  (World.cell?_alloc_lt W o ⟨w.heap.size + 1, 1, none⟩ (lt_of_row h.r1)).trans (cell_of_row W _ 1 _ _ _ h.r1)
/-- what is drawn -/
def RgOut (B : Nat) (a : Option Addr) (len cap : Nat) (w w' : World) (e : Ending) : Prop :=
  ∃ n x c p, e = .returned (.agg #[.int .i64 n, .slice x (List.length p) c]) ∧ OwnS w' w.heap.size (.slice x p.length c) p ∧ p.length ≤ 100 ∧ Src w' B a len cap ∧ Aft B w w'
theorem RgS.out {B : Nat} {a : Option Addr} {len cap : Nat} {w W : World} {n : Int} {x : Option Addr} {m c : Nat} {p : List ByteArray} (h : RgS B a len cap w W n (.slice x m c)) (hm : m = p.length) (ho : OwnS W (w.heap.size + 2) (.slice x m c) p) (hp : p.length ≤ 100) :
    RgOut B a len cap w ((W.setCell ⟨w.heap.size, 0, none⟩ (.int .i64 n)).setCell ⟨w.heap.size, 1, none⟩ (.slice x m c)) (.returned (.agg #[.int .i64 n, .slice x m c])) := by
  subst hm
  have hb : Below w.heap.size W ((W.setCell ⟨w.heap.size, 0, none⟩ (.int .i64 n)).setCell ⟨w.heap.size, 1, none⟩ (.slice x p.length c)) := ((Below.refl _ _).setCell (by simp) _).setCell (by simp) _
  exact ⟨n, x, c, p, rfl, OwnS.mono (own_set_low (own_set_low ho _ _ (by simp)) _ _ (by simp)) (by omega), hp, h.src.stays fun k hk => hb.block k (by have := h.lt; omega), aft_more h.aft hb⟩
theorem own_parts {W : World} {base : Nat} {v : Value} {p : List ByteArray} (h : OwnS W base v p) : ∃ x c, v = .slice x p.length c ∧ p.length ≤ c ∧ Strs W W.heap.size x p ∧ (x = none → p.length = 0 ∧ c = 0) := by
  obtain ⟨x, c, hv, hc, hs⟩ := h.strs
  refine ⟨x, c, hv, hc, hs, fun hx => ?_⟩
  rcases h.split with ⟨h0, hl⟩ | ⟨g, c', h0, _⟩
  · rw [hv] at h0
    simp at h0
    exact ⟨by rw [hl]; rfl, h0.2.2⟩
  · rw [hv, hx] at h0
    simp at h0
theorem own_row {W : World} {base pn : Nat} {v : Value} {p : List ByteArray} (hpn : pn = p.length) (h : OwnS W base v p) : W.ownsRow base 9 1 v pn (p.map Value.string) := by
  unfold OwnS at h
  rw [hpn]
  exact h
/-- one more behind the row -/
theorem RgS.app {B : Nat} {a : Option Addr} {len cap : Nat} {w W w5 : World} {n : Int} {x : Option Addr} {pn c : Nat} {p : List ByteArray} {v5 : Value} {s : ByteArray} {o : Obj} (h : RgS B a len cap w W n (.slice x pn c)) (hpn : pn = p.length) (ho : OwnS W (w.heap.size + 2) (.slice x pn c) p)
    (hown : w5.ownsRow (w.heap.size + 2) 9 1 v5 (pn + 1) (p.map Value.string ++ [.string s])) (hgrow : (W.alloc o).grownBy w5 (Value.slice x pn c).ownBlock) :
    ∃ x5 c5, v5 = .slice x5 (pn + 1) c5 ∧ Hid (RgS B a len cap w w5 n (.slice x pn c)) ∧ Hid (OwnS w5 (w.heap.size + 2) (.slice x5 (pn + 1) c5) (p ++ [s])) := by
  have hb : Below (w.heap.size + 2) W w5 := St.app_one (Below.refl _ _) h.far (Nat.le_refl _) ho hgrow
  have hO : OwnS w5 (w.heap.size + 2) v5 (p ++ [s]) := OwnS.snoc (by rw [← hpn]; exact hown)
  obtain ⟨x5, c5, hv, _⟩ := own_parts hO
  rw [List.length_append, ← hpn] at hv
  subst hv
  exact ⟨x5, c5, rfl, h.up hb, hO⟩
/-- the ones of a number below zero: none -/
theorem ones_neg (w : World) : Calls Tryd.prog 68 #[.int .i64 (-1)] w fun e w' => e = .returned (.int .i64 0) ∧ w' = w := by
  go_enter Tryd.func68, Tryd.ntmps68
  go_wp2_with fail
  go_loopw [0, 3] (fun nv kv wr => nv = .int .i64 (-1) ∧ kv = .int .i64 0 ∧ wr = w) (fun _ _ _ => 0)
  case atStart => exact ⟨rfl, rfl, rfl⟩
  case round =>
    obtain ⟨rfl, rfl, hw⟩ := hrel
    subst hw
    go_wp2_with fail
    go_ret
    exact ⟨rfl, rfl⟩
theorem ones_four (y : Int) (hy : y = -1 ∨ y = 999999 ∨ y = 1000000 ∨ y = 1000001) (w : World) : Calls Tryd.prog 68 #[.int .i64 y] w fun e w' => ∃ k : Nat, k ≤ 20 ∧ e = .returned (.int .i64 k) ∧ w' = w := by
  rcases hy with rfl | rfl | rfl | rfl
  · exact (ones_neg w).mono fun e w' h => ⟨0, by omega, h.1, h.2⟩
  · exact (Tr.ones_spec 999999 w (by decide)).mono fun e w' h => ⟨_, Tr.ones_le 999999 20 (by decide), h.1, h.2⟩
  · exact (Tr.ones_spec 1000000 w (by decide)).mono fun e w' h => ⟨_, Tr.ones_le 1000000 20 (by decide), h.1, h.2⟩
  · exact (Tr.ones_spec 1000001 w (by decide)).mono fun e w' h => ⟨_, Tr.ones_le 1000001 20 (by decide), h.1, h.2⟩
theorem cells_sizes {w : World} {g : Nat} {t : TypeId} (h : w.heap[g]? = some (.cells #[.int .i64 (-1), .int .i64 999999, .int .i64 1000000, .int .i64 1000001] t (0, 0))) (k : Nat) (hk : k < 4) :
    ∃ y : Int, w.cell? ⟨g, k, none⟩ = some (.int .i64 y) ∧ (y = -1 ∨ y = 999999 ∨ y = 1000000 ∨ y = 1000001) := by
  have : k = 0 ∨ k = 1 ∨ k = 2 ∨ k = 3 := by omega
  rcases this with rfl | rfl | rfl | rfl
  · exact ⟨-1, (cell_of_row w g 0 _ t (0, 0) h).trans rfl, by omega⟩
  · exact ⟨999999, (cell_of_row w g 1 _ t (0, 0) h).trans rfl, by omega⟩
  · exact ⟨1000000, (cell_of_row w g 2 _ t (0, 0) h).trans rfl, by omega⟩
  · exact ⟨1000001, (cell_of_row w g 3 _ t (0, 0) h).trans rfl, by omega⟩
theorem ones_self : ∀ (f n : Nat), n ≤ f → Tr.ones n ≤ n
  | 0, n, h => by
    have : n = 0 := by omega
    rw [this, Tr.ones_zero]
    omega
  | f + 1, n, h => by
    by_cases h0 : n = 0
    · rw [h0, Tr.ones_zero]
      omega
    · rw [Tr.ones_step]
      have := ones_self f (n / 2) (by omega)
      omega
theorem peaks_le (l : List ByteArray) : (Tr.peaks l).length ≤ l.length := by
  rw [Tr.peaks_length _ l (Nat.le_refl _)]
  exact ones_self _ _ (Nat.le_refl _)
end Go.Proofs.YtghghkfhcpldhaaDoor.Dr
