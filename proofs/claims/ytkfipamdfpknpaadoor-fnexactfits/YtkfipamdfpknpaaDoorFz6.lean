/- Texts put together: NumPlain, JoinLaws. -/
import Derived.Laws.BitsAllLaws
import Derived.Laws.BytesArg
import Derived.Laws.IdiomStrings
import Derived.Laws.AppendOwn
import Derived.Below
import Derived.Laws.CopyOwn
import Derived.WalkKit
/- Plain mathematics of numbers as bytes: the folded number, its bytes seven bits each, and how many there are. -/
namespace Go.Proofs.YtkfipamdfpknpaaDoor.Nu
open Go.RowKit
def zz (n : Int) : Nat := if n < 0 then (-(2 * n) - 1).toNat else (2 * n).toNat
def numH (u k : Nat) : List UInt8 := (List.range k).map fun j => UInt8.ofNat (u / 128 ^ j % 128 + 128)
def numL (u k : Nat) : List UInt8 := numH u k ++ [UInt8.ofNat (u / 128 ^ k)]
def cnt : Nat → Nat → Nat
  | 0, _ => 0
  | f + 1, u => if u < 128 then 0 else cnt f (u / 128) + 1
def numB (u : Nat) : List UInt8 := numL u (cnt 9 u)
def putS (n : Int) : ByteArray := ⟨(numB (zz n)).toArray⟩
theorem cnt_le (f : Nat) : ∀ u, cnt f u ≤ f := by
  induction f with
  | zero => intro u; exact Nat.le_refl 0
  | succ f ih =>
    intro u
    unfold cnt
    split
    · omega
    · have := ih (u / 128); omega
def bv (b : UInt8) : Value := .int .u8 (b.toNat : Int)
theorem own_string {P : Program} {w : World} {base e src dst : TypeId} {v : Value} (l : List UInt8) (h : w.ownsRow base e 1 v l.length (l.map bv))
    (hs : P.underlying src = some (.slice e)) (he : P.underlying e = some (.int .u8)) (hd : P.underlying dst = some .string) :
    (convert src dst v).run P w = .ok (.string ⟨l.toArray⟩) w := by
  obtain ⟨_, h⟩ := h
  rcases h with ⟨rfl, hn⟩ | ⟨g, cap, cur, rfl, _, hb, hle, _, hsz, ht⟩
  · have : l = [] := List.length_eq_zero_iff.1 hn
    subst this
    exact run_convert_bytes_nil w src e hs he 0 0 dst hd
  · refine run_convert_bytes_back w src dst e ⟨g, 0, none⟩ cap l hs he hd ?_
    intro j hj
    have e1 : (⟨g, 0, none⟩ : Addr).add j = ⟨g, j, none⟩ := by unfold Addr.add; split <;> simp_all
    rw [e1]
    have e2 : w.cell? ⟨g, j, none⟩ = cur[j]? := by simp [World.cell?, hb]
    rw [e2]
    have e3 := congrArg (fun l : List Value => l[j]?) ht
    simp only [Nat.mul_one] at e3
    rw [List.getElem?_take_of_lt hj] at e3
    rw [← Array.getElem?_toList, e3]
    simp [List.getElem?_map, List.getElem?_eq_getElem hj, bv]
theorem app_below {B : Nat} {e : TypeId} {w wr w1 : World} {v : Value} {n size : Nat} {xs : List Value} {o : Obj} (hbel : Below B w wr) (hB : B ≤ w.heap.size)
    (hown : wr.ownsRow B e size v n xs) (hgrow : (wr.alloc o).grownBy w1 v.ownBlock) : Below B w w1 := by
  have hs : B ≤ wr.heap.size := Nat.le_trans hB hbel.size
  refine (hbel.alloc hs o).grown hgrow (by simp; omega) ?_
  intro k hk
  exact (hown.lt k hk).1
theorem arr_string {P : Program} {w : World} {g e t src dst : TypeId} {cs : Array Value} (l : List UInt8) (cap : Nat) (hb : w.heap[g]? = some (.cells cs t (0, 0))) (hl : cs.toList.take l.length = l.map bv)
    (hs : P.underlying src = some (.slice e)) (he : P.underlying e = some (.int .u8)) (hd : P.underlying dst = some .string) :
    (convert src dst (.slice (some ⟨g, 0, none⟩) l.length cap)).run P w = .ok (.string ⟨l.toArray⟩) w := by
  refine run_convert_bytes_back w src dst e ⟨g, 0, none⟩ cap l hs he hd ?_
  intro j hj
  have e1 : (⟨g, 0, none⟩ : Addr).add j = ⟨g, j, none⟩ := by unfold Addr.add; split <;> simp_all
  rw [e1]
  have e2 : w.cell? ⟨g, j, none⟩ = cs[j]? := by simp [World.cell?, hb]
  rw [e2]
  have e3 := congrArg (fun l : List Value => l[j]?) hl
  rw [List.getElem?_take_of_lt hj] at e3
  rw [← Array.getElem?_toList, e3]
  simp [List.getElem?_map, List.getElem?_eq_getElem hj, bv]
end Go.Proofs.YtkfipamdfpknpaaDoor.Nu


/- A law on Go's copy of a text into a row of bytes that the call itself made, over any program; and what two such copies leave. -/
namespace Go.Proofs.YtkfipamdfpknpaaDoor.Nu
open Go.RowKit
theorem bv_one (l : List UInt8) : ∀ u ∈ l.map bv, u.oneCell' = true := by
  intro u hu
  obtain ⟨b, _, rfl⟩ := List.mem_map.1 hu
  rfl
theorem run_copy_string {P : Program} (w : World) (dT sT ty elem : TypeId) (dp : Option Addr) (g off dLen dCap : Nat) (s : ByteArray) (cur : List Value) (t : TypeId)
    (hu : P.underlying dT = some (.slice elem)) (hs : (P.info? elem).map (·.size) = some 1) (hg : w.heap[g]? = some (.cells cur.toArray t (0, 0)))
    (hdp : 0 < s.size → dp = some ⟨g, off, none⟩) (hlen : s.size ≤ dLen) (hfit : off + s.size ≤ cur.length) :
    ∃ w', (Builtin.copy_ #[dT, sT] ty #[.slice dp dLen dCap, .string s]).run P w = .ok (goInt s.size) w' ∧ w'.heap[g]? = some (.cells (splice cur off (s.data.toList.map bv)).toArray t (0, 0)) ∧
      w'.os = w.os ∧ w'.tape = w.tape ∧ w'.output = w.output ∧ w'.heap.size = w.heap.size ∧ ∀ k, k ≠ g → w'.heap[k]? = w.heap[k]? := by
  cases hq : P.info? elem with
  | none => simp [hq] at hs
  | some i =>
    have hmin : Nat.min s.size dLen = s.size := Nat.min_eq_left hlen
    have hcs : (s.data.toList.map bv).length = s.size := by simp
    by_cases h0 : s.size = 0
    · have hnil : s.data.toList.map bv = [] := List.eq_nil_of_length_eq_zero (by simpa using h0)
      refine ⟨w, ?_, ?_, rfl, rfl, rfl, rfl, fun _ _ => rfl⟩
      · have hd : s.data.toList = [] := by simpa using hnil
        have hd' : s.data = #[] := by rw [← Array.toArray_toList (xs := s.data), hd]
        cases dp with
        | none => simp [Builtin.copy_, run_underlying hu, Builtin.lenOf, Builtin.firstCells, Go.sizeOf, typeInfo, hq, hmin]
        | some a => simp [Builtin.copy_, run_underlying hu, Builtin.lenOf, Builtin.firstCells, Go.sizeOf, typeInfo, hq, hmin, hd', storeCells]
      · rw [hnil]
        simpa [splice] using hg
    · obtain rfl := hdp (by omega)
      have hst := run_storeCells_at P g off t (s.data.toList.map bv) 0 cur.toArray w hg (by simpa using hfit) (bv_one _)
      refine ⟨w.setRow g (splice cur off (s.data.toList.map bv)).toArray, ?_, setRow_heap w g _ _ t _ hg, rfl, rfl, rfl, by simp [World.setRow], fun k hk => setRow_other w g k _ hk⟩
      have hst' : (storeCells ⟨g, off, none⟩ (s.data.toList.map fun b => Value.int .u8 (b.toNat : Int))).run P w = .ok () (w.setRow g (splice cur off (s.data.toList.map bv)).toArray) := by
        refine Eq.trans hst ?_
        simp [splice]
      have htk : List.take s.size (List.map (fun b => Value.int IntKind.u8 (b.toNat : Int)) s.data.toList) = s.data.toList.map fun b => Value.int .u8 (b.toNat : Int) :=
        List.take_of_length_le (by simp)
      simp [Builtin.copy_, run_underlying hu, Builtin.lenOf, Builtin.firstCells, Go.sizeOf, typeInfo, hq, hmin]
      rw [htk, hst']
      rfl
theorem copy_below {B : Nat} {w w1 w2 : World} (hb : Below B w w1) (k1 : w2.os = w1.os) (k2 : w2.tape = w1.tape) (k3 : w2.output = w1.output) (k4 : w2.heap.size = w1.heap.size)
    (k5 : ∀ k, k ≠ B → w2.heap[k]? = w1.heap[k]?) : Below B w w2 :=
  hb.trans ⟨k1, k2, k3, by omega, fun k hk => k5 k (by omega)⟩
theorem splice_two {α : Type} (cur A C : List α) (h : cur.length = A.length + C.length) : splice (splice cur 0 A) A.length C = A ++ C := by
  unfold splice
  simp
  omega
theorem made_block {w : World} {base e g n : Nat} {xs : List Value} (h : w.ownsRow base e 1 (.slice (some ⟨g, 0, none⟩) n n) n xs) :
    ∃ cur : List Value, w.heap[g]? = some (.cells cur.toArray e (0, 0)) ∧ cur.length = n := by
  obtain ⟨_, h⟩ := h
  rcases h with ⟨h, _⟩ | ⟨g', cap, cur, hv, _, hb, _, _, hsz, _⟩
  · simp at h
  · simp at hv
    obtain ⟨rfl, rfl⟩ := hv
    exact ⟨cur.toList, by simpa using hb, by simpa using hsz⟩
theorem join_eq (a b : ByteArray) : (⟨(a.data.toList ++ b.data.toList).toArray⟩ : ByteArray) = a ++ b := by
  have := ByteArray.mk_append_mk a.data.toList b.data.toList
  simpa using this.symm
theorem join_facts {P : Program} {w w1 : World} {B dT sT ty e : TypeId} {a b : ByteArray} {cur : List Value} {dp : Option Addr} {n dLen dCap : Nat}
    (hu : P.underlying dT = some (.slice e)) (he : P.underlying e = some (.int .u8)) (hd : P.underlying sT = some .string) (hs : (P.info? e).map (·.size) = some 1)
    (hblk : w1.heap[B]? = some (.cells cur.toArray e (0, 0))) (hlen : cur.length = n) (hn : n = a.size + b.size) (hbel : Below B w w1)
    (hdp : 0 < b.size → dp = some ⟨B, a.size, none⟩) (hdl : b.size ≤ dLen) :
    ∃ w2 w3, (Builtin.copy_ #[dT, sT] ty #[.slice (some ⟨B, 0, none⟩) n n, .string a]).run P w1 = .ok (goInt a.size) w2 ∧
      (Builtin.copy_ #[dT, sT] ty #[.slice dp dLen dCap, .string b]).run P w2 = .ok (goInt b.size) w3 ∧
      (convert dT sT (.slice (some ⟨B, 0, none⟩) n n)).run P w3 = .ok (.string (a ++ b)) w3 ∧ Below B w w3 := by
  obtain ⟨w2, hcp, hb2, k1, k2, k3, k4, k5⟩ := run_copy_string (P := P) w1 dT sT ty e (some ⟨B, 0, none⟩) B 0 n n a cur e hu hs hblk (fun _ => rfl) (by omega) (by omega)
  have hbel2 := copy_below hbel k1 k2 k3 k4 k5
  have hl2 : (splice cur 0 (a.data.toList.map bv)).length = n := by rw [length_splice _ _ _ (by simp; omega)]; exact hlen
  obtain ⟨w3, hcp3, hb3, m1, m2, m3, m4, m5⟩ := run_copy_string (P := P) w2 dT sT ty e dp B a.size dLen dCap b _ e hu hs hb2 hdp hdl (by omega)
  refine ⟨w2, w3, hcp, hcp3, ?_, copy_below hbel2 m1 m2 m3 m4 m5⟩
  have hsp : splice (splice cur 0 (a.data.toList.map bv)) a.size (b.data.toList.map bv) = (a.data.toList ++ b.data.toList).map bv := by
    have := splice_two cur (a.data.toList.map bv) (b.data.toList.map bv) (by simp; omega)
    simpa using this
  rw [hsp] at hb3
  have hll : (a.data.toList ++ b.data.toList).length = n := by simp; omega
  have := arr_string (P := P) (src := dT) (dst := sT) (a.data.toList ++ b.data.toList) n hb3 (List.take_of_length_le (by simp)) hu he hd
  rw [hll, join_eq] at this
  exact this
end Go.Proofs.YtkfipamdfpknpaaDoor.Nu

