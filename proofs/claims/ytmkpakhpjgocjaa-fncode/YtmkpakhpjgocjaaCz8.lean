/- Texts put together: HuLeastT, HuJoinP, AppFresh. -/
import Derived.Test.YtmkpakhpjgocjaaCz3
import Derived.Test.YtmkpakhpjgocjaaCz7
import Derived.Deep.QuietTactic
import Derived.BigQuiet
import Derived.Laws.AppendOwn
import Derived.WalkKit
import Derived.Below
/- The walk of l04Least. -/
namespace Go.Proofs.Ytmkpakhpjgocjaa.Hf
open Go.RowKit

set_option maxRecDepth 100000 in
set_option maxHeartbeats 1000000 in
theorem leastS_any (g n cap a : Nat) (but : Int) (m : List MT) (w : World) (hn : m.length = n) (h257 : n ≤ 257) (hbut : ∀ i, i < n → ((i : Int) = but ↔ i = a)) (hc : ∀ i (h : i < m.length), w.cell? ⟨g, i * 2, none⟩ = some (.int .i64 (m[i].1.1 : Nat))) :
    Calls Try.prog 164 #[.slice (some ⟨g, 0, none⟩) n cap, .int .i64 but] w fun e w' => e = .returned (.int .i64 (oi (lb (mt m) a n))) ∧ ∃ d, w' = w.drewN d := by
  have HN := hideH hn
  have HB := hideH hbut
  have HC := hideH hc
  have HL := hideH (lb_lt (mt m) a)
  clear hn hbut hc
  go_enter Try.func164, Try.ntmps164
  go_wp2_with fail
  go_loopw [6, 5] (fun iv kv wr => ∃ (i : Nat) (k : Int), iv = .int .i64 i ∧ kv = .int .i64 k ∧ i ≤ n ∧ k = oi (lb (mt m) a i) ∧ ∃ d, wr = w.drewN d) (fun iv _ _ => n - (intOf iv).toNat)
  case atStart => exact ⟨0, -1, rfl, rfl, Nat.zero_le _, rfl, 0, rfl⟩
  case round =>
    obtain ⟨i, k, rfl, rfl, hi, hk, d, hw⟩ := hrel
    subst wr
    have HK := hideH hk
    clear hk
    by_cases hlt : i < n
    · have hi' : i < m.length := by rw [HN.out]; exact hlt
      by_cases hia : i = a
      · obtain rfl := (HB.out i hlt).2 hia
        have HF : Hid (k = oi (lb (mt m) a (i + 1))) := by
          unfold Hid
          rw [lb, if_pos hia]
          exact HK.out
        clear hia HB HK HL HC
        go_wp2_with fail
        go_big_quiet (fail)
        go_wp2_with fail
        go_roundw
        case rel => exact ⟨i + 1, k, by go_num, rfl, by omega, HF.out, _, rfl⟩
        case measure => simp [intOf]; omega
      · have hne : ¬ ((i : Int) = but) := fun e => hia ((HB.out i hlt).1 e)
        have hq : ((i : Int) != but) = true := by simp; exact hne
        clear hne
        have HIA := hideH hia
        clear hia
        cases hlb : lb (mt m) a i with
        | none =>
          have HF := hideH (lb_none hlb HIA.out)
          have hkn : k < 0 := by rw [HK.out, hlb]; decide
          have hkd : decide (k < 0) = true := decide_eq_true hkn
          clear HK hlb
          go_wp2_with fail
          go_big_quiet (fail)
          go_wp2_with fail
          go_roundw
          case rel => exact ⟨i + 1, i, by go_num, rfl, by omega, by rw [HF.out]; rfl, _, rfl⟩
          case measure => simp [intOf]; omega
        | some kk =>
          have hkl := HL.out i kk hlb
          have hk' : kk < m.length := by rw [HN.out]; omega
          have HF := hideH (lb_some hlb HIA.out)
          rw [wt_mt m i hi', wt_mt m kk hk'] at HF
          obtain rfl : k = (kk : Int) := by rw [HK.out, hlb]; rfl
          have ci := HC.out i hi'
          have ck := HC.out kk hk'
          generalize m[i].1.1 = x at ci HF
          generalize m[kk].1.1 = y at ck HF
          have hkd : decide ((kk : Int) < 0) = false := decide_eq_false (by omega)
          have hin : (i : Int) < (n : Int) := by omega
          have hkn : (kk : Int) < (n : Int) := by omega
          clear HK hlb hi' hk'
          by_cases hxy : x < y
          · have hxy' : (x : Int) < (y : Int) := by omega
            rw [if_pos hxy] at HF
            go_wp2_with fail
            go_big_quiet (fail)
            go_wp2_with fail
            go_roundw
            case rel => exact ⟨i + 1, i, by go_num, rfl, by omega, by rw [HF.out]; rfl, _, rfl⟩
            case measure => simp [intOf]; omega
          · have hxy' : decide ((x : Int) < (y : Int)) = false := by simp; omega
            rw [if_neg hxy] at HF
            go_wp2_with fail
            go_big_quiet (fail)
            go_wp2_with fail
            go_roundw
            case rel => exact ⟨i + 1, kk, by go_num, rfl, by omega, by rw [HF.out]; rfl, _, rfl⟩
            case measure => simp [intOf]; omega
    · obtain rfl : i = n := by omega
      go_wp2_with fail
      go_ret
      exact ⟨by rw [HK.out]; rfl, _, rfl⟩
end Go.Proofs.Ytmkpakhpjgocjaa.Hf

/- Plain mathematics for l04Join: all but two, in their order. -/
namespace Go.Proofs.Ytmkpakhpjgocjaa.Hf
open Go.RowKit

theorem erase_snoc {α : Type} (X : List α) (y : α) (k : Nat) : (X ++ [y]).eraseIdx k = if k < X.length then X.eraseIdx k ++ [y] else if k = X.length then X else X ++ [y] := by
  by_cases h : k < X.length
  · rw [if_pos h, List.eraseIdx_append_of_lt_length h]
  · rw [if_neg h, List.eraseIdx_append_of_length_le (by omega)]
    by_cases h2 : k = X.length
    · rw [if_pos h2, h2, Nat.sub_self]
      simp
    · rw [if_neg h2, List.eraseIdx_of_length_le (by simp; omega)]
def midJ (m : List MT) (a b i : Nat) : List MT := ((m.take i).eraseIdx a).eraseIdx b
theorem take_snoc (m : List MT) (i : Nat) (hi : i < m.length) : m.take (i + 1) = m.take i ++ [m[i]] := by
  rw [List.take_add_one, List.getElem?_eq_getElem hi]
  rfl
theorem midJ_step (m : List MT) (a b i : Nat) (hi : i < m.length) : midJ m a b (i + 1) = if i = a ∨ i = shift a b then midJ m a b i else midJ m a b i ++ [m[i]] := by
  have hl : (m.take i).length = i := by rw [List.length_take]; omega
  unfold midJ
  rw [take_snoc m i hi]
  generalize m[i] = y
  generalize m.take i = X at hl ⊢
  rw [erase_snoc, hl]
  by_cases h1 : a < i
  · rw [if_pos h1, erase_snoc]
    have hle : (X.eraseIdx a).length = i - 1 := by rw [List.length_eraseIdx, if_pos (by omega), hl]
    rw [hle]
    by_cases h2 : b < i - 1
    · rw [if_pos h2, if_neg]
      unfold shift
      split <;> omega
    · rw [if_neg h2, List.eraseIdx_of_length_le (l := X.eraseIdx a) (k := b) (by omega)]
      by_cases h3 : b = i - 1
      · rw [if_pos h3, if_pos]
        unfold shift
        rw [if_neg (by omega)]
        omega
      · rw [if_neg h3, if_neg]
        unfold shift
        rw [if_neg (by omega)]
        omega
  · rw [if_neg h1, List.eraseIdx_of_length_le (l := X) (k := a) (by omega)]
    by_cases h2 : a = i
    · rw [if_pos h2, if_pos (.inl h2.symm)]
    · rw [if_neg h2, erase_snoc, hl]
      by_cases h3 : b < i
      · rw [if_pos h3, if_neg]
        unfold shift
        rw [if_pos (by omega)]
        omega
      · rw [if_neg h3, List.eraseIdx_of_length_le (l := X) (k := b) (by omega)]
        by_cases h4 : b = i
        · rw [if_pos h4, if_pos]
          unfold shift
          rw [if_pos (by omega)]
          omega
        · rw [if_neg h4, if_neg]
          unfold shift
          split <;> omega
theorem midJ_skip (m : List MT) (a b i : Nat) (hi : i < m.length) (h : i = a ∨ i = shift a b) : midJ m a b (i + 1) = midJ m a b i := by
  rw [midJ_step m a b i hi, if_pos h]
theorem midJ_keep (m : List MT) (a b i : Nat) (hi : i < m.length) (h : ¬ i = a) (h' : ¬ i = shift a b) : midJ m a b (i + 1) = midJ m a b i ++ [m[i]] := by
  rw [midJ_step m a b i hi, if_neg (by omega)]
theorem midJ_length (m : List MT) (a b i : Nat) : (midJ m a b i).length ≤ i := by
  unfold midJ
  rw [List.length_eraseIdx, List.length_eraseIdx, List.length_take]
  split <;> split <;> omega
theorem midJ_mem (m : List MT) (a b i : Nat) (x : MT) (h : x ∈ midJ m a b i) : x ∈ m :=
  List.mem_of_mem_take (List.mem_of_mem_eraseIdx (List.mem_of_mem_eraseIdx h))
theorem midJ_all (m : List MT) (a b : Nat) : midJ m a b m.length = (m.eraseIdx a).eraseIdx b := by
  unfold midJ
  rw [List.take_length]
theorem erase_at (m : List MT) (a b : Nat) : (m.eraseIdx a)[b]? = m[shift a b]? := by
  unfold shift
  split
  · rw [List.getElem?_eraseIdx_of_lt (by assumption)]
  · rw [List.getElem?_eraseIdx_of_ge (by omega)]
theorem lb_first (l : List Tree) (n : Nat) (hn : l.length = n) (h0 : 0 < n) : lb l n n = some (least l n) := by
  have h := lb_low l n n (Nat.le_refl _)
  rw [if_neg (by omega), List.eraseIdx_of_length_le (by omega)] at h
  rw [h]
  have := least_le l n
  unfold shift
  rw [if_pos (by omega)]
theorem incs_two (d s t : List Nat) : incs d (s ++ t) = incs (incs d s) t := by
  unfold incs
  rw [List.foldl_append]
/-- what is joined, of n + 2 trees -/
structure Two (m : List MT) (n a b : Nat) (y1 y2 : MT) : Prop where
  an : a < n + 2
  bn : b < n + 2
  ne : ¬ a = b
  fa : lb (mt m) (n + 2) (n + 2) = some a
  fb : lb (mt m) a (n + 2) = some b
  at1 : m[a]? = some y1
  at2 : m[b]? = some y2
  jn : ∃ b', b = shift a b' ∧ mt (midJ m a b' (n + 2)) ++ [(y1.1.1 + y2.1.1, y1.1.2 ++ y2.1.2)] = join (mt m) ∧ y1.1 = first (mt m) ∧ y2.1 = second (mt m)
theorem two_of (m : List MT) (n : Nat) (hn : m.length = n + 2) : ∃ a b y1 y2, Two m n a b y1 y2 := by
  obtain ⟨y1, hy1, _, hf1, hm1, hl1, _⟩ := taken m (n + 1) hn
  obtain ⟨y2, hy2, _, hf2, hm2, hl2, _⟩ := taken (m.eraseIdx (least (mt m) (n + 1 + 1))) n hl1
  have hle := least_le (mt m) (n + 2)
  have hle2 := least_le (mt (m.eraseIdx (least (mt m) (n + 2)))) (n + 1)
  have he : (mt m).eraseIdx (least (mt m) (n + 2)) = mt (m.eraseIdx (least (mt m) (n + 2))) := by
    unfold mt
    rw [erase_map]
  refine ⟨least (mt m) (n + 2), shift (least (mt m) (n + 2)) (least (mt (m.eraseIdx (least (mt m) (n + 2)))) (n + 1)), y1, y2, by omega, ?_, ?_, lb_first _ _ (by rw [mt_length]; exact hn) (by omega), ?_, hy1, ?_, _, rfl, ?_, hf1, ?_⟩
  · unfold shift
    split <;> omega
  · unfold shift
    split <;> omega
  · have := lb_all (mt m) (least (mt m) (n + 2)) (n + 2) (by omega) (by omega)
    rw [this, he]
    rfl
  · rw [← erase_at]
    exact hy2
  · rw [← hn, midJ_all, hn, hm2, hm1, hf1, hf2, hm1]
    rfl
  · rw [hf2, hm1]
    rfl
end Go.Proofs.Ytmkpakhpjgocjaa.Hf

/- An append of some things onto a row of the call's own, or onto one that is empty and has no room: the row behind it lies above a mark. -/
namespace Go.Proofs.Ytmkpakhpjgocjaa.Ap
open Go.RowKit

def Own0 (w : World) (base : Nat) (e : TypeId) (size : Nat) (v : Value) (n : Nat) (xs : List Value) : Prop :=
  (∃ b, v = .slice (some b) 0 0 ∧ n = 0 ∧ xs = []) ∨ w.ownsRow base e size v n xs
theorem Own0.below {w w' : World} {base : Nat} {e : TypeId} {size : Nat} {v : Value} {n : Nat} {xs : List Value} (h : Own0 w base e size v n xs) (b : Below w.heap.size w w') : Own0 w' base e size v n xs := by
  rcases h with h | ⟨hl, h⟩
  · exact .inl h
  · refine .inr ⟨hl, ?_⟩
    rcases h with h | ⟨g, cap, cur, hv, hg, hb, rest⟩
    · exact .inl h
    · exact .inr ⟨g, cap, cur, hv, hg, by rw [b.block g (Array.getElem?_eq_some_iff.1 hb).1]; exact hb, rest⟩
theorem Own0.alloc {w : World} {base : Nat} {e : TypeId} {size : Nat} {v : Value} {n : Nat} {xs : List Value} (h : Own0 w base e size v n xs) (o : Obj) : Own0 (w.alloc o) base e size v n xs :=
  h.below ((Below.refl _ _).alloc (Nat.le_refl _) o)
/-- where no block from the mark on has turned -/
theorem Own0.keep {w w' : World} {base : Nat} {e : TypeId} {size : Nat} {v : Value} {n : Nat} {xs : List Value} (h : Own0 w base e size v n xs) (b : ∀ k, base ≤ k → k < w.heap.size → w'.heap[k]? = w.heap[k]?) : Own0 w' base e size v n xs := by
  rcases h with h | ⟨hl, h⟩
  · exact .inl h
  · refine .inr ⟨hl, ?_⟩
    rcases h with h | ⟨g, cap, cur, hv, hg, hb, rest⟩
    · exact .inl h
    · exact .inr ⟨g, cap, cur, hv, hg, by rw [b g hg (Array.getElem?_eq_some_iff.1 hb).1]; exact hb, rest⟩

theorem run_append_own0 {P : Program} (w : World) (base : Nat) (t ty e : TypeId) (i : TypeInfo) (z : Value) (size bytes : Nat) (ht : P.underlying t = some (.slice e)) (hi : P.info? e = some i) (hz : i.zero = some z)
    (hsize : i.size = size) (hby : i.bytes = bytes) (hzs : z.cells.size = size) (hsz : 0 < size)
    (v : Value) (n : Nat) (xs : List Value) (hown : Own0 w base e size v n xs)
    (a : Addr) (m c : Nat) (news : List Value) (hl : news.length = m * size) (hnews : ∀ j u, news[j]? = some u → w.cell? (a.add j) = some u) (h1 : ∀ u ∈ news, u.oneCell' = true) (hm : 0 < m)
    (h63 : n + m ≤ maxLen) (hbytes : (n + m) * bytes ≤ 140737488355328) (hbase : base ≤ w.heap.size) :
    ∃ v' w', (Builtin.append_ #[t, t] ty #[v, .slice (some a) m c]).run P w = .ok v' w' ∧ w'.ownsRow base e size v' (n + m) (xs ++ news) ∧ ∀ B, B ≤ base → Below B w w' := by
  rcases hown with ⟨b, rfl, rfl, rfl⟩ | hown
  · subst hsize
    subst hby
    have hsmall : m ≤ 9223372036854775807 := by simp only [maxLen] at h63; omega
    have hr := run_append_grow (P := P) w t ty e i z ht hi hz b 0 0 [] (by simp) (by simp) a m c news hl hnews (by omega) (by omega) (growslice_fits (by omega) hbytes)
    refine ⟨_, _, hr, ?_, fun B hB => ?_⟩
    · have hge := grownCap_ge w (0 + m) 0 e
      have hcm : grownCap w (0 + m) 0 e ≤ maxLen := grownCap_le_maxLen w (0 + m) 0 e h63
      refine ⟨by simpa using hl, .inr ⟨w.heap.size, _, _, rfl, hbase, heap_alloc_new w.drew _, hge, hcm, ?_, ?_⟩⟩
      · simp only [Array.size_append, List.size_toArray, size_zeroCells, hzs, hl, List.length_nil]
        rw [Nat.zero_add, ← Nat.add_mul]
        congr 1
        omega
      · simp only [Array.toList_append, List.nil_append]
        rw [show (0 + m) * i.size = news.length by rw [Nat.zero_add, hl]]
        exact List.take_left
    · exact ((Below.refl B w).drew).alloc (by simp; omega) _
  · obtain ⟨v', w', hr, h2, h3, _⟩ := run_append_own (P := P) w base t ty e i z size bytes ht hi hz hsize hby hzs hsz v n xs hown a m c news hl hnews h1 h63 hbytes hbase
    refine ⟨v', w', hr, h2, fun B hB => (Below.refl B w).grown h3 (by omega) ?_⟩
    intro k hk
    exact Nat.le_trans hB (hown.lt k hk).1

theorem wpList_append_own0 {P : Program} (w : World) {ops : Array Oper} {rest : List Oper} {o : Oper} {a : Act} {Q : Exit → Act → World → Prop} (hgd : o.guard = none) (s x : Operand) (t : TypeId)
    (ho : o.op = .call { callee := .builtin .append, args := #[s, x], argTypes := #[t, t] })
    (base : Nat) (e : TypeId) (i : TypeInfo) (z : Value) (size bytes : Nat) (ht : P.underlying t = some (.slice e)) (hi : P.info? e = some i) (hz : i.zero = some z)
    (hsize : i.size = size) (hby : i.bytes = bytes) (hzs : z.cells.size = size) (hsz : 0 < size)
    (v : Value) (n : Nat) (xs : List Value) (hs : a.eval s = v) (hown : Own0 w base e size v n xs)
    (ad : Addr) (m c : Nat) (news : List Value) (hx : a.eval x = .slice (some ad) m c) (hl : news.length = m * size) (hnews : ∀ j u, news[j]? = some u → w.cell? (ad.add j) = some u) (h1 : ∀ u ∈ news, u.oneCell' = true) (hm : 0 < m)
    (h63 : n + m ≤ maxLen) (hbytes : (n + m) * bytes ≤ 140737488355328) (hbase : base ≤ w.heap.size)
    (h : ∀ v' w', w'.ownsRow base e size v' (n + m) (xs ++ news) → (∀ B, B ≤ base → Below B w w') → wpList P ops Q rest (a.put o.dst v') w') : wpList P ops Q (o :: rest) a w :=
  wpList_plain hgd fun _ hK => by
    obtain ⟨v', w', hr, h2, h3⟩ := run_append_own0 (P := P) w base t o.type e i z size bytes ht hi hz hsize hby hzs hsz v n xs hown ad m c news hl hnews h1 hm h63 hbytes hbase
    unfold Oper.wp execOp
    simp only [ho, resolve, invoke, builtin, Sem.run_bind, Sem.run_pure, Result.andThen_ok, List.map_toArray, List.map_cons, List.map_nil, hs, hx, hr]
    exact hK _ _ (h v' w' h2 h3)
end Go.Proofs.Ytmkpakhpjgocjaa.Ap
