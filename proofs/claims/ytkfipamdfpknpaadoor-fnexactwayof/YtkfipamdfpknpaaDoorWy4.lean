/- Texts put together: ShaVar, ShaPlain3. -/
import Derived.Test.YtkfipamdfpknpaaDoorWy2
import Derived.Test.YtkfipamdfpknpaaDoorWy3
/- A package variable that holds a row of numbers: its block bears whatever mark. -/
namespace Go.Proofs.YtkfipamdfpknpaaDoor.Sh
open Go.RowKit
def IsV (w : World) (g : Nat) (k : IntKind) (n : Nat) (f : Nat → Int) : Prop := ∃ t fr, w.heap[g]? = some (.cells (rowF k n f) t fr)
theorem IsV.cell {w : World} {g : Nat} {k : IntKind} {n : Nat} {f : Nat → Int} (h : IsV w g k n f) {j : Nat} (hj : j < n) : w.cell? ⟨g, j, none⟩ = some (.int k (f j)) := by
 obtain ⟨t, fr, h⟩ := h
 rw [cell_of_row w g j _ t fr h, rowF_get k n f j hj]
theorem IsV.lt {w : World} {g : Nat} {k : IntKind} {n : Nat} {f : Nat → Int} (h : IsV w g k n f) : g < w.heap.size := by
 obtain ⟨t, fr, h⟩ := h
 exact (Array.getElem?_eq_some_iff.1 h).1
theorem IsV.of_heap {w w' : World} {g : Nat} {k : IntKind} {n : Nat} {f : Nat → Int} (h : IsV w g k n f) (e : w'.heap[g]? = w.heap[g]?) : IsV w' g k n f := by
 obtain ⟨t, fr, h⟩ := h
 exact ⟨t, fr, by rw [e]; exact h⟩
theorem IsV.below {w w' : World} {g B : Nat} {k : IntKind} {n : Nat} {f : Nat → Int} (h : IsV w g k n f) (b : Below B w w') (hg : g < B) : IsV w' g k n f := h.of_heap (b.block g hg)
theorem wpList_load_var {P : Program} {w : World} {ops : Array Oper} {rest : List Oper} {a : Act} {Q : Exit → Act → World → Prop} {d : Tmp} {p : Operand} {ty tt : TypeId} {pos : String} {af : Array Edge}
  {g : Nat} {k : IntKind} {n : Nat} {f : Nat → Int} {e : TypeId} (hb : IsV w g k n f) (hu : P.underlying ty = some (.array n e)) (hi : (P.info? ty).map (·.size) = some n)
  (hp : a.eval p = .pointer (some ⟨g, 0, none⟩)) (h : wpList P ops Q rest (a.put (some d) (.agg (rowF k n f))) w) :
  wpList P ops Q (⟨some d, .load ty p, tt, pos, af, none⟩ :: rest) a w := by
 refine wpList_plain rfl fun K hK => ?_
 obtain ⟨t, fr, hb⟩ := hb
 have hl : (Instr.loadAt ty (.pointer (some ⟨g, 0, none⟩))).run P w = .ok (.agg (rowF k n f)) w := by
  simp only [Instr.loadAt, Instr.sureAddr, Sem.run_bind, Sem.run_pure, Result.andThen]
  exact run_loadVar_row w g t ty _ fr _ hb hu rfl (by rw [rowF_size]; exact hi)
 unfold Oper.wp
 simp [execOp, hp, hl, Result.andThen]
 exact hK _ _ h
end Go.Proofs.YtkfipamdfpknpaaDoor.Sh


/- Plain mathematics of SHA-256: the numbers of the rounds, a round, a block taken into a state. -/
namespace Go.Proofs.YtkfipamdfpknpaaDoor.Sh
def keyL : List Int := [1116352408, 1899447441, 3049323471, 3921009573, 961987163, 1508970993, 2453635748, 2870763221, 3624381080, 310598401, 607225278, 1426881987, 1925078388, 2162078206, 2614888103, 3248222580, 3835390401, 4022224774, 264347078, 604807628, 770255983, 1249150122, 1555081692, 1996064986, 2554220882, 2821834349, 2952996808, 3210313671, 3336571891, 3584528711, 113926993, 338241895, 666307205, 773529912, 1294757372, 1396182291, 1695183700, 1986661051, 2177026350, 2456956037, 2730485921, 2820302411, 3259730800, 3345764771, 3516065817, 3600352804, 4094571909, 275423344, 430227734, 506948616, 659060556, 883997877, 958139571, 1322822218, 1537002063, 1747873779, 1955562222, 2024104815, 2227730452, 2361852424, 2428436474, 2756734187, 3204031479, 3329325298]
def keyF (j : Nat) : Int := keyL.getD j 0
def firstL : List Int := [1779033703, 3144134277, 1013904242, 2773480762, 1359893119, 2600822924, 528734635, 1541459225]
def firstF (j : Nat) : Int := firstL.getD j 0
structure St where
 a : Int
 b : Int
 c : Int
 d : Int
 e : Int
 f : Int
 g : Int
 h : Int
def bx (x y : Int) : Int := bits BinOp.xor IntKind.u32 x y
def ba (x y : Int) : Int := bits BinOp.and IntKind.u32 x y
def big1 (e : Int) : Int := bx (bx (rotI e 6) (rotI e 11)) (rotI e 25)
def big0 (a : Int) : Int := bx (bx (rotI a 2) (rotI a 13)) (rotI a 22)
def pick (e f g : Int) : Int := bx (ba e f) (ba (bx IntKind.u32.max e) g)
def most (a b c : Int) : Int := bx (bx (ba a b) (ba a c)) (ba b c)
def t1 (s : St) (K W : Int) : Int := s.h + big1 s.e + pick s.e s.f s.g + K + W
def t2 (s : St) : Int := big0 s.a + most s.a s.b s.c
def stepS (s : St) (K W : Int) : St := ⟨(t1 s K W + t2 s) % 4294967296, s.a, s.b, s.c, (s.d + t1 s K W) % 4294967296, s.e, s.f, s.g⟩
def start (s : Nat → Int) : St := ⟨s 0, s 1, s 2, s 3, s 4, s 5, s 6, s 7⟩
def run (B : Nat → Nat) (s : Nat → Int) : Nat → St
 | 0 => start s
 | k + 1 => stepS (run B s k) (keyF k) (wv B k)
def St.at (x : St) (j : Nat) : Int := [x.a, x.b, x.c, x.d, x.e, x.f, x.g, x.h].getD j 0
def blk (B : Nat → Nat) (s : Nat → Int) (j : Nat) : Int := (s j + (run B s 64).at j) % 4294967296
def addF (x : St) (s : Nat → Int) (j : Nat) : Nat → Int := fun i => if i < j then (s i + x.at i) % 4294967296 else s i
theorem addF_zero (x : St) (s : Nat → Int) (i : Nat) : s i = addF x s 0 i := by simp [addF]
theorem addF_at (x : St) (s : Nat → Int) (j : Nat) : addF x s j j = s j := by simp [addF]
theorem addF_next (x : St) (s : Nat → Int) (j i : Nat) (upd' : Nat → Int) (h1 : upd' j = (s j + x.at j) % 4294967296) (h2 : ∀ i, i ≠ j → upd' i = addF x s j i) : upd' i = addF x s (j + 1) i := by
 by_cases e : i = j
 ·subst e; rw [h1]; simp [addF]
 ·rw [h2 i e]
  have : (i < j + 1) = (i < j) := propext ⟨fun h => by omega, fun h => by omega⟩
  simp [addF, this]
theorem addF_end (B : Nat → Nat) (s : Nat → Int) (x : St) (hx : x = run B s 64) (i : Nat) (hi : i < 8) : addF x s 8 i = blk B s i := by
 simp [addF, blk, hi, hx]
theorem step_walk (xa xb xc xd xe xf xg xh kk wk : Int) :
  (⟨((xh + big1 xe + pick xe xf xg + kk + wk) % 4294967296 + (big0 xa + most xa xb xc) % 4294967296) % 4294967296, xa, xb, xc, (xd + (xh + big1 xe + pick xe xf xg + kk + wk) % 4294967296) % 4294967296, xe, xf, xg⟩ : St)
   = stepS ⟨xa, xb, xc, xd, xe, xf, xg, xh⟩ kk wk := by
 simp [stepS, t1, t2]
end Go.Proofs.YtkfipamdfpknpaaDoor.Sh

