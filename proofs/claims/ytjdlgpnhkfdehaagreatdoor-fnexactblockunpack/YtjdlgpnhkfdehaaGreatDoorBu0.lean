/- Texts put together: Builder, NumPlain, NumWalks, JoinLaws. -/
import Derived.Shelf.Strings.Builder1
import Derived.Test.YtjdlgpnhkfdehaaGreatDoorChecked
import Derived.WalkKit
import Derived.Laws.BitsAllLaws
import Derived.Laws.BytesArg
import Derived.Laws.IdiomStrings
import Derived.Laws.AppendOwn
import Derived.Below
import Derived.WalkSpells
import Derived.WalkLawsBesides
import Derived.Laws.CopyOwn
/- A strings.Builder of the call's own: its copy check and WriteString walked, String out of the library's own contract. -/
namespace Go.Proofs.YtjdlgpnhkfdehaaGreatDoor.Sb
open Go.Shelf Go.RowKit
def lays169_ren : Go.Shelf.Ren := ⟨fun | 169 => 104 | n => n, fun | 70 => 110 | 9 => 9 | 0 => 0 | 72 => 112 | 37 => 22 | 127 => 159 | 3 => 3 | 5 => 5 | n => n, fun | n => n⟩
theorem lays169 : Go.Proofs.Lays.n169 Tryz.prog lays169_ren := {
  mixed := by kernel_rfl
  f169 := Tryz.func104.trans (congrArg some (by kernel_rfl))
  t0 := Tryz.underlying0
  a0 := Tryz.isAgg0
  z0 := Tryz.sizeOf0
  v0 := Tryz.zeroValue0
  t3 := Tryz.underlying3
  a3 := Tryz.isAgg3
  z3 := Tryz.sizeOf3
  v3 := Tryz.zeroValue3
  t9 := Tryz.underlying9
  a9 := Tryz.isAgg9
  z9 := Tryz.sizeOf9
  v9 := Tryz.zeroValue9
  t37 := Tryz.underlying22
  a37 := Tryz.isAgg22
  z37 := Tryz.sizeOf22
  v37 := Tryz.zeroValue22
  t70 := Tryz.underlying110
  a70 := Tryz.isAgg110
  z70 := Tryz.sizeOf110
  v70 := Tryz.zeroValue110
  t72 := Tryz.underlying112
  a72 := Tryz.isAgg112
  z72 := Tryz.sizeOf112
  v72 := Tryz.zeroValue112
  t127 := Tryz.underlying159
  a127 := Tryz.isAgg159
  z127 := Tryz.sizeOf159
  v127 := Tryz.zeroValue159 }
theorem builderX : Builder.Extra Tryz.prog lays169_ren := {
  sizeBuilder := by kernel_rfl
  liesBuilder := by kernel_rfl
  t5 := Tryz.underlying5
  a5 := Tryz.isAgg5
  z5 := Tryz.sizeOf5
  v5 := Tryz.zeroValue5
  infoByte := by kernel_rfl
  cellsByte := by kernel_rfl
  sizeByte := by kernel_rfl
  neB5 := by decide }
theorem string_any (B b : Nat) (l : List UInt8) (w : World) (h : Lib.IsBuilder 112 5 B b (Lib.byteCells l) w) (hBw : B ≤ w.heap.size) :
    Calls Tryz.prog 104 #[.pointer (some ⟨b, 0, none⟩)] w fun e w' => e = .returned (.string ⟨l.toArray⟩) ∧ Below B w w' := Any.Builder_String_any lays169 builderX B b l w h hBw
set_option maxHeartbeats 1000000 in
set_option maxRecDepth 100000 in
theorem check_used (b : Nat) (w : World) (h0 : w.cell? ⟨b, 0, none⟩ = some (.pointer (some ⟨b, 0, none⟩))) :
    Calls Tryz.prog 153 #[.pointer (some ⟨b, 0, none⟩)] w fun e w' => e = .returned (.tuple #[]) ∧ w' = w := by
  obtain ⟨j, hj, _⟩ := Option.map_eq_some_iff.1 builderX.sizeBuilder
  go_enter Tryz.func153, Tryz.ntmps153
  go_wp2
  rw [Lib.run_neq_ptr_same w _ Tryz.underlying110 hj]
  go_wp2
  go_end0
  exact ⟨rfl, rfl⟩
set_option maxHeartbeats 1000000 in
set_option maxRecDepth 100000 in
theorem check_fresh (b : Nat) (w : World) (h0 : w.cell? ⟨b, 0, none⟩ = some (.pointer none)) (hsh : w.shape? b = some (112, 2)) (hfz : w.frozen? ⟨b, 0, none⟩ = false) :
    Calls Tryz.prog 153 #[.pointer (some ⟨b, 0, none⟩)] w fun e w' => e = .returned (.tuple #[]) ∧ w' = w.setCell ⟨b, 0, none⟩ (.pointer (some ⟨b, 0, none⟩)) := by
  obtain ⟨j, hj, hjs⟩ := Option.map_eq_some_iff.1 builderX.sizeBuilder
  go_enter Tryz.func153, Tryz.ntmps153
  go_wp2
  rw [Lib.run_to_unsafe w ⟨b, 0, none⟩ Tryz.underlying110 Tryz.underlying205 hj (by rw [hjs]; decide) hsh (Nat.zero_lt_succ 1)]
  simp only [Result.andThen]
  rw [Oper.upon_value]
  go_wp2
  rw [run_callFunc_extern Tryz.func198 (by kernel_rfl) (by kernel_rfl) (by kernel_rfl) (e := Extern.AbiNoEscape.same) (by kernel_rfl)]
  rw [Lib.run_noEscape]
  simp only [Result.andThen]
  rw [Oper.upon_value]
  go_wp2
  rw [Lib.run_from_unsafe w ⟨b, 0, none⟩ Tryz.underlying205 Tryz.underlying110 hj hsh builderX.liesBuilder]
  simp only [Result.andThen]
  rw [Oper.upon_value]
  go_wp2
  go_end0
  exact ⟨rfl, rfl⟩
theorem check_any (B b : Nat) (bs : List Value) (w : World) (h : Lib.IsBuilder 112 5 B b bs w) :
    Calls Tryz.prog 153 #[.pointer (some ⟨b, 0, none⟩)] w fun e w' => e = .returned (.tuple #[]) ∧ (Lib.BuilderAt 112 5 B b (.pointer (some ⟨b, 0, none⟩)) bs w' ∧ Below B w w') := by
  rcases h with h | h
  · refine (check_fresh b w h.cell0 h.shape h.frozen0).mono ?_
    rintro e w' ⟨rfl, rfl⟩
    exact ⟨rfl, h.used _, (Below.refl B w).setCell (p := ⟨b, 0, none⟩) h.1 _⟩
  · refine (check_used b w h.cell0).mono ?_
    rintro e w' ⟨rfl, rfl⟩
    exact ⟨rfl, h, Below.refl B _⟩
set_option maxHeartbeats 2000000 in
set_option maxRecDepth 100000 in
/-- a text written behind what it holds -/
theorem write_any (B b : Nat) (bs : List Value) (s : ByteArray) (w : World) (h : Lib.IsBuilder 112 5 B b bs w) (hlen : bs.length + s.size ≤ 140737488355328) (hBw : B ≤ w.heap.size) :
    Calls Tryz.prog 103 #[.pointer (some ⟨b, 0, none⟩), .string s] w fun e w' => e = .returned (.tuple #[.int .i64 s.size, .nilIface]) ∧ (Lib.BuilderAt 112 5 B b (.pointer (some ⟨b, 0, none⟩)) (bs ++ Lib.strCells s) w' ∧ Below B w w') := by
  obtain ⟨i0, hi, hz0, hz1, hz2⟩ := info_parts builderX.infoByte
  go_enter Tryz.func103, Tryz.ntmps103
  go_wp2_with fail
  refine (check_any B b bs _ h).mono ?_
  rintro e w1 ⟨rfl, h1, hb1⟩
  obtain ⟨hB, v, hbk, hown, hne⟩ := h1
  have c0 : w1.cell? ⟨b, 0, none⟩ = some (.pointer (some ⟨b, 0, none⟩)) := by rw [Lib.cell_of_heap hbk]; rfl
  have c1 : w1.cell? ⟨b, 1, none⟩ = some v := by rw [Lib.cell_of_heap hbk]; rfl
  go_wp2_with (at_builtin; refine Lib.wpList_append_own_string _ rfl _ _ 22 9 rfl B 5 i0 Tryz.underlying22 Tryz.underlying9 hi hz0 hz1 hz2 _ _ _ rfl hown s rfl ?c3 ?c4 ?c5 ?_)
  case c3 => unfold maxLen; omega
  case c4 => omega
  case c5 => have := hb1.size; omega
  intro v' w2 hown' hgrow _
  have hlt : b < w1.heap.size := by
    rcases Nat.lt_or_ge b w1.heap.size with h' | h'
    · exact h'
    · simp [Array.getElem?_eq_none h'] at hbk
  have hb2 : w2.heap[b]? = some (.cells #[.pointer (some ⟨b, 0, none⟩), v] 112 (0, 0)) := by
    rw [hgrow.block b hlt (fun e => hne e.symm)]
    exact hbk
  have d0 : w2.cell? ⟨b, 0, none⟩ = some (.pointer (some ⟨b, 0, none⟩)) := by rw [Lib.cell_of_heap hb2]; rfl
  have d1 : w2.cell? ⟨b, 1, none⟩ = some v := by rw [Lib.cell_of_heap hb2]; rfl
  have f1 : w2.frozen? ⟨b, 1, none⟩ = false := Lib.frozen_of_heap hb2 1
  obtain ⟨ao, n', cap, rfl⟩ : ∃ ao n' cap, v' = .slice ao n' cap := by
    rcases hown'.2 with ⟨hv, _⟩ | ⟨g, cap, cur, hv, _⟩
    · exact ⟨_, _, _, hv⟩
    · exact ⟨_, _, _, hv⟩
  go_wp2_with fail
  go_ret2
  refine ⟨rfl, ?_, ?_⟩
  · exact Lib.BuilderAt.put (T := 112) (e := 5) hB hb2 (bs' := bs ++ Lib.strCells s) (by simpa [Lib.strCells_length] using hown') builderX.neB5
  · exact (hb1.grown hgrow (by have := hb1.size; omega) (fun k hk => (hown.lt k hk).1)).setCell (p := ⟨b, 1, none⟩) hB _
end Go.Proofs.YtjdlgpnhkfdehaaGreatDoor.Sb


/- Plain mathematics of numbers as bytes: the folded number, its bytes seven bits each, and how many there are. -/
namespace Go.Proofs.YtjdlgpnhkfdehaaGreatDoor.Nu
open Go.RowKit
def zz (n : Int) : Nat := if n < 0 then (-(2 * n) - 1).toNat else (2 * n).toNat
theorem zz_lt (n : Int) (h1 : -9223372036854775808 ≤ n) (h2 : n ≤ 9223372036854775807) : zz n < 18446744073709551616 := by
  unfold zz; split <;> omega
theorem zz_neg (n : Int) (h : n < 0) : (zz n : Int) = 2 * -(n + 1) + 1 := by unfold zz; rw [if_pos h]; omega
theorem zz_pos (n : Int) (h : ¬ n < 0) : (zz n : Int) = 2 * n := by unfold zz; rw [if_neg h]; omega
theorem zz_pos' (n : Int) (h : ¬ n < 0) : (zz n : Int) = n * 2 := by rw [zz_pos n h]; omega
theorem not64 (x : Nat) (h : x < 18446744073709551616) : 18446744073709551615 ^^^ x = 18446744073709551615 - x := by
  have e := congrArg BitVec.toNat (BitVec.allOnes_xor (x := BitVec.ofNat 64 x))
  rw [BitVec.toNat_xor, BitVec.toNat_not, BitVec.toNat_allOnes, BitVec.toNat_ofNat, Nat.mod_eq_of_lt (by omega)] at e
  exact e
theorem fold_not (n : Int) (h1 : -9223372036854775808 ≤ n) (h : n < 0) :
    bits BinOp.xor IntKind.u64 IntKind.u64.max (IntKind.u64.wrap (IntKind.u64.wrap n * 2)) = (zz n : Int) := by
  have e : IntKind.u64.wrap (IntKind.u64.wrap n * 2) = ((2 * n + 18446744073709551616).toNat : Int) := by
    rw [IntKind.wrap_u64, IntKind.wrap_u64]; omega
  rw [e, show IntKind.u64.max = ((18446744073709551615 : Nat) : Int) from rfl, u64_xor_nat _ _ (by decide) (by omega), not64 _ (by omega), zz_neg n h]
  omega
def numH (u k : Nat) : List UInt8 := (List.range k).map fun j => UInt8.ofNat (u / 128 ^ j % 128 + 128)
def numL (u k : Nat) : List UInt8 := numH u k ++ [UInt8.ofNat (u / 128 ^ k)]
def cnt : Nat → Nat → Nat
  | 0, _ => 0
  | f + 1, u => if u < 128 then 0 else cnt f (u / 128) + 1
def numB (u : Nat) : List UInt8 := numL u (cnt 9 u)
def putS (n : Int) : ByteArray := ⟨(numB (zz n)).toArray⟩
theorem numH_succ (u k : Nat) : numH u (k + 1) = numH u k ++ [UInt8.ofNat (u / 128 ^ k % 128 + 128)] := by
  simp [numH, List.range_succ]
theorem numH_length (u k : Nat) : (numH u k).length = k := by simp [numH]
theorem numL_length (u k : Nat) : (numL u k).length = k + 1 := by simp [numL, numH_length]
theorem pow_div (u k : Nat) : u / 128 ^ (k + 1) = u / 128 ^ k / 128 := by rw [Nat.pow_succ, Nat.div_div_eq_div_mul]
theorem div_pow (u k : Nat) : u / 128 ^ (k + 1) = u / 128 / 128 ^ k := by rw [Nat.pow_succ, Nat.mul_comm, Nat.div_div_eq_div_mul]
theorem cnt_of (f : Nat) : ∀ u k, k ≤ f → (∀ j, j < k → 128 ≤ u / 128 ^ j) → u / 128 ^ k < 128 → cnt f u = k := by
  induction f with
  | zero => intro u k hk _ _; have : k = 0 := by omega
            rw [this]; rfl
  | succ f ih =>
    intro u k hk hall hlast
    match k with
    | 0 =>
      simp at hlast
      unfold cnt; rw [if_pos hlast]
    | k + 1 =>
      have h0 : 128 ≤ u := by simpa using hall 0 (by omega)
      unfold cnt
      rw [if_neg (by omega), ih (u / 128) k (by omega) (fun j hj => by have := hall (j + 1) (by omega); rw [div_pow] at this; exact this) (by rw [← div_pow]; exact hlast)]
theorem cnt_le (f : Nat) : ∀ u, cnt f u ≤ f := by
  induction f with
  | zero => intro u; exact Nat.le_refl 0
  | succ f ih =>
    intro u
    unfold cnt
    split
    · omega
    · have := ih (u / 128); omega
theorem few (u k : Nat) (hu : u < 18446744073709551616) (h : 128 ≤ u / 128 ^ k) : k < 9 := by
  rcases Nat.lt_or_ge k 9 with h9 | h9
  · exact h9
  · exfalso
    have e : 128 ^ 9 ≤ 128 ^ k := Nat.pow_le_pow_right (by decide) h9
    have : u / 128 ^ k ≤ u / 128 ^ 9 := Nat.div_le_div_left e (by decide)
    have h2 : (128 : Nat) ^ 9 = 9223372036854775808 := by decide
    rw [h2] at this
    omega
theorem numB_of (u k : Nat) (hk : k ≤ 9) (hall : ∀ j, j < k → 128 ≤ u / 128 ^ j) (hlast : u / 128 ^ k < 128) : numB u = numL u k := by
  unfold numB; rw [cnt_of 9 u k hk hall hlast]
theorem numB_length (u : Nat) : (numB u).length ≤ 10 ∧ 1 ≤ (numB u).length := by
  have := cnt_le 9 u
  unfold numB; rw [numL_length]; omega
theorem all_more (u k : Nat) (hall : ∀ j, j < k → 128 ≤ u / 128 ^ j) (h : 128 ≤ u / 128 ^ k) : ∀ j, j < k + 1 → 128 ≤ u / 128 ^ j := by
  intro j hj
  by_cases e : j = k
  · rw [e]; exact h
  · exact hall j (by omega)
def bv (b : UInt8) : Value := .int .u8 (b.toNat : Int)
theorem own_string {P : Program} {w : World} {base e src dst : TypeId} {v : Value} (l : List UInt8) (h : w.ownsRow base e 1 v l.length (l.map bv))
    (hs : P.underlying src = some (.slice e)) (he : P.underlying e = some (.int .u8)) (hd : P.underlying dst = some .string) :
    (convert src dst v).run P w = .ok (.string ⟨l.toArray⟩) w := by
  obtain ⟨_, h⟩ := h
  rcases h with ⟨rfl, hn⟩ | ⟨g, cap, cur, rfl, _, hb, hle, _, hsz, ht⟩
  · have : l = [] := List.length_eq_zero_iff.1 hn
    subst this
    exact run_convert_bytes_nil w src e hs he 0 0 dst hd
  · refine run_convert_bytes_back w src dst e ⟨g, 0, none⟩ cap l hs he hd ?_
    intro j hj
    have e1 : (⟨g, 0, none⟩ : Addr).add j = ⟨g, j, none⟩ := by unfold Addr.add; split <;> simp_all
    rw [e1]
    have e2 : w.cell? ⟨g, j, none⟩ = cur[j]? := by simp [World.cell?, hb]
    rw [e2]
    have e3 := congrArg (fun l : List Value => l[j]?) ht
    simp only [Nat.mul_one] at e3
    rw [List.getElem?_take_of_lt hj] at e3
    rw [← Array.getElem?_toList, e3]
    simp [List.getElem?_map, List.getElem?_eq_getElem hj, bv]
theorem bv_hi (q : Nat) : bv (UInt8.ofNat (q % 128 + 128)) = .int .u8 ((q : Int) % 128 + 128) := by
  unfold bv
  rw [UInt8.toNat_ofNat', Nat.mod_eq_of_lt (by omega)]
  congr 1
theorem bv_lo (q : Nat) (h : q < 128) : bv (UInt8.ofNat q) = .int .u8 (q : Int) := by
  unfold bv
  rw [UInt8.toNat_ofNat', Nat.mod_eq_of_lt (by omega)]
theorem app_below {B : Nat} {e : TypeId} {w wr w1 : World} {v : Value} {n size : Nat} {xs : List Value} {o : Obj} (hbel : Below B w wr) (hB : B ≤ w.heap.size)
    (hown : wr.ownsRow B e size v n xs) (hgrow : (wr.alloc o).grownBy w1 v.ownBlock) : Below B w w1 := by
  have hs : B ≤ wr.heap.size := Nat.le_trans hB hbel.size
  refine (hbel.alloc hs o).grown hgrow (by simp; omega) ?_
  intro k hk
  exact (hown.lt k hk).1
theorem hi_row {w1 : World} {B k U q : Nat} {e : TypeId} {v' : Value} (hq : q = U / 128 ^ k)
    (h : w1.ownsRow B e 1 v' (k + 1) ((numH U k).map bv ++ [.int .u8 ((q : Int) % 128 + 128)])) : w1.ownsRow B e 1 v' (k + 1) ((numH U (k + 1)).map bv) := by
  rw [numH_succ, List.map_append, List.map_singleton, ← hq, bv_hi]
  exact h
theorem lo_row {w1 : World} {B k U q : Nat} {e : TypeId} {v' : Value} (hq : q = U / 128 ^ k) (hlo : q < 128)
    (h : w1.ownsRow B e 1 v' (k + 1) ((numH U k).map bv ++ [.int .u8 (q : Int)])) : w1.ownsRow B e 1 v' (numL U k).length ((numL U k).map bv) := by
  rw [numL_length]
  unfold numL
  rw [List.map_append, List.map_singleton, ← hq, bv_lo q hlo]
  exact h
theorem or_hi (q : Nat) (h : q ≤ 18446744073709551615) : bits BinOp.or IntKind.u8 (IntKind.u8.wrap (bits BinOp.and IntKind.u64 (q : Int) 127)) 128 = (q : Int) % 128 + 128 := by
  have e1 : bits BinOp.and IntKind.u64 (q : Int) 127 = ((q % 128 : Nat) : Int) := by
    have := u64_and_nat q 127 (by omega) (by decide)
    rw [nat_mask7] at this
    exact this
  have e2 : IntKind.u8.wrap ((q % 128 : Nat) : Int) = ((q % 128 : Nat) : Int) := by rw [IntKind.wrap_u8']; omega
  rw [e1, e2]
  have e3 := u8_or_nat (q % 128) 128 (by omega) (by decide)
  rw [Nat.or_comm, nat_join 7 128 (q % 128) (by decide) (by omega)] at e3
  refine Eq.trans e3 ?_
  omega
theorem take_set {cs : Array Value} {l : List Value} {k : Nat} (hk : k < cs.size) (h : cs.toList.take k = l) (v : Value) : (cs.setIfInBounds k v).toList.take (k + 1) = l ++ [v] := by
  subst h
  rw [Array.toList_setIfInBounds, List.take_succ_eq_append_getElem (by simpa using hk)]
  congr 1
  · rw [List.take_set_of_le (Nat.le_refl k)]
  · simp
theorem arr_string {P : Program} {w : World} {g e t src dst : TypeId} {cs : Array Value} (l : List UInt8) (cap : Nat) (hb : w.heap[g]? = some (.cells cs t (0, 0))) (hl : cs.toList.take l.length = l.map bv)
    (hs : P.underlying src = some (.slice e)) (he : P.underlying e = some (.int .u8)) (hd : P.underlying dst = some .string) :
    (convert src dst (.slice (some ⟨g, 0, none⟩) l.length cap)).run P w = .ok (.string ⟨l.toArray⟩) w := by
  refine run_convert_bytes_back w src dst e ⟨g, 0, none⟩ cap l hs he hd ?_
  intro j hj
  have e1 : (⟨g, 0, none⟩ : Addr).add j = ⟨g, j, none⟩ := by unfold Addr.add; split <;> simp_all
  rw [e1]
  have e2 : w.cell? ⟨g, j, none⟩ = cs[j]? := by simp [World.cell?, hb]
  rw [e2]
  have e3 := congrArg (fun l : List Value => l[j]?) hl
  rw [List.getElem?_take_of_lt hj] at e3
  rw [← Array.getElem?_toList, e3]
  simp [List.getElem?_map, List.getElem?_eq_getElem hj, bv]
theorem or_hi' (q : Nat) (h : q ≤ 18446744073709551615) : bits BinOp.or IntKind.u8 (bits BinOp.and IntKind.u64 (q : Int) 127 % 256) 128 = (q : Int) % 128 + 128 := by
  have := or_hi q h
  rw [IntKind.wrap_u8'] at this
  exact this
theorem impl_hi {wr : World} {B k U q : Nat} {cs : Array Value} {t : TypeId} (hq : q = U / 128 ^ k) (hqb : q ≤ 18446744073709551615) (hblk : wr.heap[B]? = some (.cells cs t (0, 0))) (hsz : cs.size = 10) (hk : k < 9)
    (htk : cs.toList.take k = (numH U k).map bv) :
    ∃ cs', (wr.setCell ⟨B, k, none⟩ (.int .u8 (bits BinOp.or IntKind.u8 (bits BinOp.and IntKind.u64 (q : Int) 127 % 256) 128))).heap[B]? = some (.cells cs' t (0, 0)) ∧ cs'.size = 10 ∧ cs'.toList.take (k + 1) = (numH U (k + 1)).map bv := by
  rw [or_hi' q hqb]
  refine ⟨_, heap_setCell_same wr B k cs t _ hblk, by simpa using hsz, ?_⟩
  rw [take_set (by omega) htk, numH_succ, List.map_append, List.map_singleton, ← hq, bv_hi]
theorem impl_lo {wr : World} {B k U q : Nat} {cs : Array Value} {t : TypeId} (hq : q = U / 128 ^ k) (hlo : q < 128) (hblk : wr.heap[B]? = some (.cells cs t (0, 0))) (hsz : cs.size = 10) (hk : k ≤ 9)
    (htk : cs.toList.take k = (numH U k).map bv) :
    ∃ cs', (wr.setCell ⟨B, k, none⟩ (.int .u8 (q : Int))).heap[B]? = some (.cells cs' t (0, 0)) ∧ cs'.toList.take (numL U k).length = (numL U k).map bv := by
  refine ⟨_, heap_setCell_same wr B k cs t _ hblk, ?_⟩
  rw [numL_length, take_set (by omega) htk]
  unfold numL
  rw [List.map_append, List.map_singleton, ← hq, bv_lo q hlo]
end Go.Proofs.YtjdlgpnhkfdehaaGreatDoor.Nu


/- The walks of the two functions that write a number as bytes: each answers Nu.putS of its number, and writes nothing that was there. -/
namespace Go.Proofs.YtjdlgpnhkfdehaaGreatDoor.Nu
open Go.RowKit
theorem hide {p : Prop} (h : p) : Hid p := h
theorem ret_int {k : IntKind} {a b : Int} (h : a = b) : Ending.returned (.int k a) = .returned (.int k b) := by rw [h]
theorem ret_str {a b : ByteArray} (h : a = b) : Ending.returned (.string a) = .returned (.string b) := by rw [h]
theorem Tryz.info5 : (Tryz.prog.info? 5).map (fun i => (i.zero, i.size, i.bytes)) = some (some (.int .u8 0), 1, 1) := by kernel_rfl
set_option maxHeartbeats 400000 in
theorem fold_spec (n : Int) (w : World) (h1 : -9223372036854775808 ≤ n) (h2 : n ≤ 9223372036854775807) :
    Calls Tryz.prog 188 #[.int .i64 n] w fun e w' => e = .returned (.int .u64 (zz n)) ∧ w' = w := by
  by_cases h : n < 0
  · have HZ : Hid ((zz n : Int) = 2 * -(n + 1) + 1) := zz_neg n h
    go_enter Tryz.func188, Tryz.ntmps188
    go_wp2
    go_ret
    exact ⟨ret_int HZ.out.symm, rfl⟩
  · have HZ : Hid ((zz n : Int) = 2 * n) := zz_pos n h
    go_enter Tryz.func188, Tryz.ntmps188
    go_wp2
    go_ret
    exact ⟨ret_int HZ.out.symm, rfl⟩
set_option maxHeartbeats 400000 in
theorem fold_impl (n : Int) (w : World) (h1 : -9223372036854775808 ≤ n) (h2 : n ≤ 9223372036854775807) :
    Calls Tryz.prog 185 #[.int .i64 n] w fun e w' => e = .returned (.int .u64 (zz n)) ∧ w' = w := by
  by_cases h : n < 0
  · have HZ := hide (fold_not n h1 h)
    go_enter Tryz.func185, Tryz.ntmps185
    go_wp2
    go_ret
    exact ⟨ret_int HZ.out, rfl⟩
  · have HZ := hide (zz_pos' n h)
    go_enter Tryz.func185, Tryz.ntmps185
    go_wp2
    go_ret
    exact ⟨ret_int HZ.out.symm, rfl⟩
set_option maxRecDepth 100000 in
set_option maxHeartbeats 1000000 in
theorem put_spec (n : Int) (w : World) (h1 : -9223372036854775808 ≤ n) (h2 : n ≤ 9223372036854775807) :
    Calls Tryz.prog 137 #[.int .i64 n] w fun e w' => e = .returned (.string (putS n)) ∧ Below w.heap.size w w' := by
  obtain ⟨U, hU⟩ : ∃ U, U = zz n := ⟨_, rfl⟩
  have hz := zz_lt n h1 h2
  rw [← hU] at hz
  have HU := hide hU
  clear hU
  obtain ⟨i0, hi, hz0, hz1, hz2⟩ := info_parts Tryz.info5
  go_enter Tryz.func137, Tryz.ntmps137
  go_wp2_with (go_at_call 188; refine (fold_spec _ _ h1 h2).mono ?_; rw [← HU.out]; rintro e w' ⟨rfl, hw⟩; subst w')
  go_loopw [3, 4] (fun u v wr => ∃ k q : Nat, k ≤ 9 ∧ u = .int .u64 q ∧ q = U / 128 ^ k ∧ (∀ j, j < k → 128 ≤ U / 128 ^ j) ∧ wr.ownsRow w.heap.size 5 1 v k ((numH U k).map bv) ∧ Below w.heap.size w wr) (fun u _ _ => (intOf u).toNat)
  case atStart => exact ⟨0, U, by omega, rfl, by simp, fun j hj => absurd hj (Nat.not_lt_zero j), World.ownsRow_made _ _ _ (Nat.le_refl _) (by decide) rfl, (Below.refl _ _).alloc (Nat.le_refl _) _⟩
  case round =>
    obtain ⟨k, q, hk, rfl, hq, hall, hown, hbel⟩ := hrel
    have hqb : q ≤ 18446744073709551615 := by have := Nat.div_le_self U (128 ^ k); omega
    have HQ := hide hq
    have HA := hide hall
    clear hq hall
    by_cases hge : 128 ≤ q
    · have hk9 : k < 9 := few U k hz (by rw [← HQ.out]; exact hge)
      go_wp2_with (at_builtin; refine wpList_append_own _ rfl (.tmp 10) (.tmp 15) 22 rfl w.heap.size 5 i0 (.int .u8 0) 1 1 Tryz.underlying22 hi hz0 hz1 hz2 rfl (by decide) _ _ _ rfl (hown.alloc _) ⟨wr.heap.size, 0, none⟩ 1 1 [.int .u8 ((q : Int) % 128 + 128)] rfl rfl ?c1 ?c2 ?c3 ?c4 ?c5 ?_)
      case c1 =>
        intro j u hj
        match j, hj with
        | 0, hj => simp at hj; subst hj; simp [Addr.add]
      case c2 => intro u hu; simp at hu; subst hu; rfl
      case c3 => unfold maxLen; omega
      case c4 => omega
      case c5 => have := hbel.size; simp; omega
      intro v' w1 hown' hgrow _
      have hb1 := app_below hbel (Nat.le_refl _) hown hgrow
      have hr1 := hi_row HQ.out hown'
      clear hown' hgrow hown
      go_wp2
      go_roundw
      case rel => exact ⟨k + 1, q / 128, by omega, by go_num, by rw [pow_div, ← HQ.out], all_more U k HA.out (by rw [← HQ.out]; exact hge), hr1, hb1⟩
      case measure => simp [intOf]; omega
    · have hlo : q < 128 := by omega
      have HB := hide (numB_of U k hk HA.out (by rw [← HQ.out]; exact hlo))
      go_wp2_with (at_builtin; refine wpList_append_own _ rfl (.tmp 19) (.tmp 22) 22 rfl w.heap.size 5 i0 (.int .u8 0) 1 1 Tryz.underlying22 hi hz0 hz1 hz2 rfl (by decide) _ _ _ rfl (hown.alloc _) ⟨wr.heap.size, 0, none⟩ 1 1 [.int .u8 (q : Int)] rfl rfl ?c1 ?c2 ?c3 ?c4 ?c5 ?_)
      case c1 =>
        intro j u hj
        match j, hj with
        | 0, hj => simp at hj; subst hj; simp [Addr.add]
      case c2 => intro u hu; simp at hu; subst hu; rfl
      case c3 => unfold maxLen; omega
      case c4 => omega
      case c5 => have := hbel.size; simp; omega
      intro v' w1 hown' hgrow _
      have hb1 := app_below hbel (Nat.le_refl _) hown hgrow
      have hconv := own_string (P := Tryz.prog) (src := 22) (dst := 9) _ (lo_row HQ.out hlo hown') Tryz.underlying22 Tryz.underlying5 Tryz.underlying9
      clear hown' hgrow hown
      go_wp2
      go_ret
      exact ⟨ret_str (by rw [putS, ← HU.out, HB.out]), hb1⟩
theorem slice10 (a : Addr) (h : Int) (h0 : 0 ≤ h) (h1 : h ≤ 10) (u : World) :
    (Instr.sliceAt 193 (.pointer (some a)) none (some (.int .i64 h)) none).run Tryz.prog u = .ok (.slice (some a) h.toNat 10) u := by
  have ea : Tryz.prog.arrayLen 193 = 10 := by kernel_rfl
  have es : ∀ u : World, (Go.sizeOf (Tryz.prog.elem 193)).run Tryz.prog u = .ok 1 u := fun u => by kernel_rfl
  rw [run_sliceAt_array_h u 193 a (by kernel_rfl) .i64 h h0 (by rw [ea]; exact h1), es u, ea]
  simp [Result.andThen, slicedAt, Addr.add]
set_option maxRecDepth 100000 in
set_option maxHeartbeats 1000000 in
theorem put_impl (n : Int) (w : World) (h1 : -9223372036854775808 ≤ n) (h2 : n ≤ 9223372036854775807) :
    Calls Tryz.prog 133 #[.int .i64 n] w fun e w' => e = .returned (.string (putS n)) ∧ Below w.heap.size w w' := by
  obtain ⟨U, hU⟩ : ∃ U, U = zz n := ⟨_, rfl⟩
  have hz := zz_lt n h1 h2
  rw [← hU] at hz
  have HU := hide hU
  clear hU
  go_enter Tryz.func133, Tryz.ntmps133
  go_wp2_with (go_at_call 185; refine (fold_impl _ _ h1 h2).mono ?_; rw [← HU.out]; rintro e w' ⟨rfl, hw⟩; subst w')
  go_loopw [4, 5] (fun u m wr => ∃ (k q : Nat) (cs : Array Value), k ≤ 9 ∧ u = .int .u64 q ∧ m = .int .i64 k ∧ q = U / 128 ^ k ∧ (∀ j, j < k → 128 ≤ U / 128 ^ j) ∧ wr.heap[w.heap.size]? = some (.cells cs 193 (0, 0)) ∧ cs.size = 10 ∧ cs.toList.take k = (numH U k).map bv ∧ Below w.heap.size w wr) (fun u _ _ => (intOf u).toNat)
  case atStart => exact ⟨0, U, _, by omega, rfl, rfl, by simp, fun j hj => absurd hj (Nat.not_lt_zero j), heap_alloc_new _ _, rfl, rfl, (Below.refl _ _).alloc (Nat.le_refl _) _⟩
  case round =>
    obtain ⟨k, q, cs, hk, rfl, rfl, hq, hall, hblk, hsz, htk, hbel⟩ := hrel
    have hqb : q ≤ 18446744073709551615 := by have := Nat.div_le_self U (128 ^ k); omega
    have HQ := hide hq
    have HA := hide hall
    have HT := hide htk
    have HB := hide hblk
    have HS := hide hsz
    have hfz := frozen_of_row wr w.heap.size k cs 193 hblk
    obtain ⟨x, hx⟩ : ∃ x, wr.cell? ⟨w.heap.size, k, none⟩ = some x := ⟨cs[k]'(by omega), by rw [cell_of_row wr _ k cs _ _ hblk]; exact Array.getElem?_eq_getElem (by omega)⟩
    clear hq hall htk hblk hsz
    by_cases hge : 128 ≤ q
    · have hk9 : k < 9 := few U k hz (by rw [← HQ.out]; exact hge)
      have HN := hide (impl_hi HQ.out hqb HB.out HS.out hk9 HT.out)
      go_wp2
      go_roundw
      case rel =>
        obtain ⟨cs', e1, e2, e3⟩ := HN.out
        exact ⟨k + 1, q / 128, cs', by omega, by go_num, by go_num, by rw [pow_div, ← HQ.out], all_more U k HA.out (by rw [← HQ.out]; exact hge), e1, e2, e3, hbel.setCell (Nat.le_refl _) _⟩
      case measure => simp [intOf]; omega
    · have hlo : q < 128 := by omega
      have HN := hide (numB_of U k hk HA.out (by rw [← HQ.out]; exact hlo))
      have hsl := slice10 ⟨w.heap.size, 0, none⟩ ((k : Int) + 1) (by omega) (by omega)
      have e1 : ((k : Int) + 1).toNat = (numL U k).length := by rw [numL_length]; omega
      rw [e1] at hsl
      clear e1
      have hcv : (convert 22 9 (.slice (some ⟨w.heap.size, 0, none⟩) (numL U k).length 10)).run Tryz.prog (wr.setCell ⟨w.heap.size, k, none⟩ (.int .u8 (q : Int))) = .ok (.string ⟨(numL U k).toArray⟩) (wr.setCell ⟨w.heap.size, k, none⟩ (.int .u8 (q : Int))) := by
        obtain ⟨cs', e1, e2⟩ := impl_lo HQ.out hlo HB.out HS.out hk HT.out
        exact arr_string (P := Tryz.prog) _ 10 e1 e2 Tryz.underlying22 Tryz.underlying5 Tryz.underlying9
      go_wp2
      go_ret
      exact ⟨ret_str (by rw [putS, ← HU.out, HN.out]), hbel.setCell (Nat.le_refl _) _⟩
end Go.Proofs.YtjdlgpnhkfdehaaGreatDoor.Nu


/- A law on Go's copy of a text into a row of bytes that the call itself made, over any program; and what two such copies leave. -/
namespace Go.Proofs.YtjdlgpnhkfdehaaGreatDoor.Nu
open Go.RowKit
theorem bv_one (l : List UInt8) : ∀ u ∈ l.map bv, u.oneCell' = true := by
  intro u hu
  obtain ⟨b, _, rfl⟩ := List.mem_map.1 hu
  rfl
theorem run_copy_string {P : Program} (w : World) (dT sT ty elem : TypeId) (dp : Option Addr) (g off dLen dCap : Nat) (s : ByteArray) (cur : List Value) (t : TypeId)
    (hu : P.underlying dT = some (.slice elem)) (hs : (P.info? elem).map (·.size) = some 1) (hg : w.heap[g]? = some (.cells cur.toArray t (0, 0)))
    (hdp : 0 < s.size → dp = some ⟨g, off, none⟩) (hlen : s.size ≤ dLen) (hfit : off + s.size ≤ cur.length) :
    ∃ w', (Builtin.copy_ #[dT, sT] ty #[.slice dp dLen dCap, .string s]).run P w = .ok (goInt s.size) w' ∧ w'.heap[g]? = some (.cells (splice cur off (s.data.toList.map bv)).toArray t (0, 0)) ∧
      w'.os = w.os ∧ w'.tape = w.tape ∧ w'.output = w.output ∧ w'.heap.size = w.heap.size ∧ ∀ k, k ≠ g → w'.heap[k]? = w.heap[k]? := by
  cases hq : P.info? elem with
  | none => simp [hq] at hs
  | some i =>
    have hmin : Nat.min s.size dLen = s.size := Nat.min_eq_left hlen
    have hcs : (s.data.toList.map bv).length = s.size := by simp
    by_cases h0 : s.size = 0
    · have hnil : s.data.toList.map bv = [] := List.eq_nil_of_length_eq_zero (by simpa using h0)
      refine ⟨w, ?_, ?_, rfl, rfl, rfl, rfl, fun _ _ => rfl⟩
      · have hd : s.data.toList = [] := by simpa using hnil
        have hd' : s.data = #[] := by rw [← Array.toArray_toList (xs := s.data), hd]
        cases dp with
        | none => simp [Builtin.copy_, run_underlying hu, Builtin.lenOf, Builtin.firstCells, Go.sizeOf, typeInfo, hq, hmin]
        | some a => simp [Builtin.copy_, run_underlying hu, Builtin.lenOf, Builtin.firstCells, Go.sizeOf, typeInfo, hq, hmin, hd', storeCells]
      · rw [hnil]
        simpa [splice] using hg
    · obtain rfl := hdp (by omega)
      have hst := run_storeCells_at P g off t (s.data.toList.map bv) 0 cur.toArray w hg (by simpa using hfit) (bv_one _)
      refine ⟨w.setRow g (splice cur off (s.data.toList.map bv)).toArray, ?_, setRow_heap w g _ _ t _ hg, rfl, rfl, rfl, by simp [World.setRow], fun k hk => setRow_other w g k _ hk⟩
      have hst' : (storeCells ⟨g, off, none⟩ (s.data.toList.map fun b => Value.int .u8 (b.toNat : Int))).run P w = .ok () (w.setRow g (splice cur off (s.data.toList.map bv)).toArray) := by
        refine Eq.trans hst ?_
        simp [splice]
      have htk : List.take s.size (List.map (fun b => Value.int IntKind.u8 (b.toNat : Int)) s.data.toList) = s.data.toList.map fun b => Value.int .u8 (b.toNat : Int) :=
        List.take_of_length_le (by simp)
      simp [Builtin.copy_, run_underlying hu, Builtin.lenOf, Builtin.firstCells, Go.sizeOf, typeInfo, hq, hmin]
      rw [htk, hst']
      rfl
theorem copy_below {B : Nat} {w w1 w2 : World} (hb : Below B w w1) (k1 : w2.os = w1.os) (k2 : w2.tape = w1.tape) (k3 : w2.output = w1.output) (k4 : w2.heap.size = w1.heap.size)
    (k5 : ∀ k, k ≠ B → w2.heap[k]? = w1.heap[k]?) : Below B w w2 :=
  hb.trans ⟨k1, k2, k3, by omega, fun k hk => k5 k (by omega)⟩
theorem splice_two {α : Type} (cur A C : List α) (h : cur.length = A.length + C.length) : splice (splice cur 0 A) A.length C = A ++ C := by
  unfold splice
  simp
  omega
theorem made_block {w : World} {base e g n : Nat} {xs : List Value} (h : w.ownsRow base e 1 (.slice (some ⟨g, 0, none⟩) n n) n xs) :
    ∃ cur : List Value, w.heap[g]? = some (.cells cur.toArray e (0, 0)) ∧ cur.length = n := by
  obtain ⟨_, h⟩ := h
  rcases h with ⟨h, _⟩ | ⟨g', cap, cur, hv, _, hb, _, _, hsz, _⟩
  · simp at h
  · simp at hv
    obtain ⟨rfl, rfl⟩ := hv
    exact ⟨cur.toList, by simpa using hb, by simpa using hsz⟩
theorem join_eq (a b : ByteArray) : (⟨(a.data.toList ++ b.data.toList).toArray⟩ : ByteArray) = a ++ b := by
  have := ByteArray.mk_append_mk a.data.toList b.data.toList
  simpa using this.symm
theorem join_facts {P : Program} {w w1 : World} {B dT sT ty e : TypeId} {a b : ByteArray} {cur : List Value} {dp : Option Addr} {n dLen dCap : Nat}
    (hu : P.underlying dT = some (.slice e)) (he : P.underlying e = some (.int .u8)) (hd : P.underlying sT = some .string) (hs : (P.info? e).map (·.size) = some 1)
    (hblk : w1.heap[B]? = some (.cells cur.toArray e (0, 0))) (hlen : cur.length = n) (hn : n = a.size + b.size) (hbel : Below B w w1)
    (hdp : 0 < b.size → dp = some ⟨B, a.size, none⟩) (hdl : b.size ≤ dLen) :
    ∃ w2 w3, (Builtin.copy_ #[dT, sT] ty #[.slice (some ⟨B, 0, none⟩) n n, .string a]).run P w1 = .ok (goInt a.size) w2 ∧
      (Builtin.copy_ #[dT, sT] ty #[.slice dp dLen dCap, .string b]).run P w2 = .ok (goInt b.size) w3 ∧
      (convert dT sT (.slice (some ⟨B, 0, none⟩) n n)).run P w3 = .ok (.string (a ++ b)) w3 ∧ Below B w w3 := by
  obtain ⟨w2, hcp, hb2, k1, k2, k3, k4, k5⟩ := run_copy_string (P := P) w1 dT sT ty e (some ⟨B, 0, none⟩) B 0 n n a cur e hu hs hblk (fun _ => rfl) (by omega) (by omega)
  have hbel2 := copy_below hbel k1 k2 k3 k4 k5
  have hl2 : (splice cur 0 (a.data.toList.map bv)).length = n := by rw [length_splice _ _ _ (by simp; omega)]; exact hlen
  obtain ⟨w3, hcp3, hb3, m1, m2, m3, m4, m5⟩ := run_copy_string (P := P) w2 dT sT ty e dp B a.size dLen dCap b _ e hu hs hb2 hdp hdl (by omega)
  refine ⟨w2, w3, hcp, hcp3, ?_, copy_below hbel2 m1 m2 m3 m4 m5⟩
  have hsp : splice (splice cur 0 (a.data.toList.map bv)) a.size (b.data.toList.map bv) = (a.data.toList ++ b.data.toList).map bv := by
    have := splice_two cur (a.data.toList.map bv) (b.data.toList.map bv) (by simp; omega)
    simpa using this
  rw [hsp] at hb3
  have hll : (a.data.toList ++ b.data.toList).length = n := by simp; omega
  have := arr_string (P := P) (src := dT) (dst := sT) (a.data.toList ++ b.data.toList) n hb3 (List.take_of_length_le (by simp)) hu he hd
  rw [hll, join_eq] at this
  exact this
theorem cut_facts {P : Program} {w w1 : World} {B dT sT ty e : TypeId} {a : ByteArray} {cur : List Value} {n : Nat}
    (hu : P.underlying dT = some (.slice e)) (he : P.underlying e = some (.int .u8)) (hd : P.underlying sT = some .string) (hs : (P.info? e).map (·.size) = some 1)
    (hblk : w1.heap[B]? = some (.cells cur.toArray e (0, 0))) (hlen : cur.length = n) (hn : n = a.size) (hbel : Below B w w1) :
    ∃ w2, (Builtin.copy_ #[dT, sT] ty #[.slice (some ⟨B, 0, none⟩) n n, .string a]).run P w1 = .ok (goInt a.size) w2 ∧
      (convert dT sT (.slice (some ⟨B, 0, none⟩) n n)).run P w2 = .ok (.string a) w2 ∧ Below B w w2 := by
  obtain ⟨w2, hcp, hb2, k1, k2, k3, k4, k5⟩ := run_copy_string (P := P) w1 dT sT ty e (some ⟨B, 0, none⟩) B 0 n n a cur e hu hs hblk (fun _ => rfl) (by omega) (by omega)
  refine ⟨w2, hcp, ?_, copy_below hbel k1 k2 k3 k4 k5⟩
  have hsp : splice cur 0 (a.data.toList.map bv) = a.data.toList.map bv := by
    unfold splice
    simp
    omega
  rw [hsp] at hb2
  have hll : a.data.toList.length = n := by simp; omega
  have := arr_string (P := P) (src := dT) (dst := sT) a.data.toList n hb2 (List.take_of_length_le (by simp)) hu he hd
  rw [hll] at this
  simpa using this
end Go.Proofs.YtjdlgpnhkfdehaaGreatDoor.Nu

