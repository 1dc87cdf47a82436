/- Texts put together: DrawCn, FrontBS, DrawCm. -/
import Derived.Test.YtmkpakhpjgocjaaCzDrawFb
import Derived.Test.YtmkpakhpjgocjaaCz10
import Derived.Test.YtmkpakhpjgocjaaBlkSpec
import Derived.Test.YtmkpakhpjgocjaaCz21
import Derived.Test.YtmkpakhpjgocjaaCz8
/- What is drawn for lengths: some counts; weak on purpose: at most 20 numbers. -/
namespace Go.Proofs.Ytmkpakhpjgocjaa.Dr
open Go.RowKit
open Go.Proofs.Ytmkpakhpjgocjaa.In (OwnI one_newI one_cellI)
open Go.Proofs.Ytmkpakhpjgocjaa.In.Try (infoI2)

/-- a list of numbers of the call's own, beside a source that is drawn from -/
structure Dn (w : World) (B : Nat) (a : Option Addr) (len cap : Nat) (W : World) (v : Value) (l : List Int) (n : Nat) : Prop where
  own : OwnI W w.heap.size v l
  le : l.length ≤ n
  src : Src W B a len cap
  aft : Aft B w W
  hB : B < w.heap.size
theorem Aft.low {B : Nat} {w a b : World} (h : Aft B w a) (k : Below w.heap.size a b) : Aft B w b :=
  ⟨k.os.trans h.os, k.tape.trans h.tape, k.output.trans h.output, Nat.le_trans h.size k.size, fun i hi hn => (k.block i hi).trans (h.block i hi hn)⟩
theorem Dn.only {w : World} {B : Nat} {a : Option Addr} {len cap : Nat} {W W' : World} {v : Value} {l : List Int} {n : Nat} (h : Dn w B a len cap W v l n) (hs : Src W' B a len cap) (ho : Only B W W') : Dn w B a len cap W' v l n :=
  ⟨owns_only h.own ho h.hB, h.le, hs, h.aft.trans ho.aft, h.hB⟩
theorem Dn.alloc {w : World} {B : Nat} {a : Option Addr} {len cap : Nat} {W : World} {v : Value} {l : List Int} {n : Nat} (h : Dn w B a len cap W v l n) (o : Obj) : Dn w B a len cap (W.alloc o) v l n :=
  ⟨Ze.OwnI.alloc h.own o, h.le, h.src.below ((Below.refl _ _).alloc (Nat.le_refl _) o), h.aft.trans (aft_below ((Below.refl _ _).alloc (Nat.le_refl _) o)), h.hB⟩
theorem Dn.below {w : World} {B : Nat} {a : Option Addr} {len cap : Nat} {W W' : World} {v : Value} {l : List Int} {n : Nat} (h : Dn w B a len cap W v l n) (hb : Below W.heap.size W W') : Dn w B a len cap W' v l n :=
  ⟨h.own.below hb, h.le, h.src.below hb, h.aft.trans (aft_below hb), h.hB⟩
theorem Dn.new {w : World} {B : Nat} {a : Option Addr} {len cap : Nat} {W : World} (n : Nat) (hs : Src W B a len cap) (ha : Aft B w W) (hB : B < w.heap.size) : Dn w B a len cap (W.alloc (.cells #[] 2)) (.slice (some ⟨W.heap.size, 0, none⟩) 0 0) [] n :=
  ⟨(Hf.own_none W).mono ha.size, Nat.zero_le _, hs.below ((Below.refl _ _).alloc (Nat.le_refl _) _), ha.trans (aft_below ((Below.refl _ _).alloc (Nat.le_refl _) _)), hB⟩
theorem Dn.app {w : World} {B : Nat} {a : Option Addr} {len cap : Nat} {W W' : World} {v v' : Value} {l : List Int} {n : Nat} {u : Int} {o : Obj} (h : Dn w B a len cap W v l n)
    (hown : W'.ownsRow w.heap.size 2 1 v' (l.length + 1) (l.map (Value.int .i64) ++ [.int .i64 u])) (hgrow : (W.alloc o).grownBy W' v.ownBlock) : Dn w B a len cap W' v' (l ++ [u]) (n + 1) := by
  have hb := In.app_one (Below.refl w.heap.size W) h.aft.size (Nat.le_refl _) h.own hgrow
  exact ⟨In.OwnI.snoc hown, by rw [List.length_append]; have := h.le; simp; omega, h.src.stays fun k hk => hb.block k (by have := h.hB; omega), h.aft.low hb, h.hB⟩
theorem Dn.mono {w : World} {B : Nat} {a : Option Addr} {len cap : Nat} {W : World} {v : Value} {l : List Int} {n m : Nat} (h : Dn w B a len cap W v l n) (hm : n ≤ m) : Dn w B a len cap W v l m := ⟨h.own, Nat.le_trans h.le hm, h.src, h.aft, h.hB⟩
theorem Dn.slice {w : World} {B : Nat} {a : Option Addr} {len cap : Nat} {W : World} {v : Value} {l : List Int} {n : Nat} (h : Dn w B a len cap W v l n) : ∃ x c, v = .slice x l.length c := by
  obtain ⟨x, c, hv, _, _⟩ := h.own.ints
  exact ⟨x, c, hv⟩
theorem six_cell (x y : Int) (j : Nat) (hj : j < 6) : ∃ u : Int, (#[Value.int .i64 0, .int .i64 1, .int .i64 1, .int .i64 2, .int .i64 x, .int .i64 y] : Array Value)[j]? = some (.int .i64 u) := by
  obtain rfl | rfl | rfl | rfl | rfl | rfl : j = 0 ∨ j = 1 ∨ j = 2 ∨ j = 3 ∨ j = 4 ∨ j = 5 := by omega
  all_goals exact ⟨_, rfl⟩
theorem three_cell (x y z : Int) (j : Nat) (hj : j < 3) : ∃ u : Int, (#[Value.int .i64 x, .int .i64 y, .int .i64 z] : Array Value)[j]? = some (.int .i64 u) := by
  obtain rfl | rfl | rfl : j = 0 ∨ j = 1 ∨ j = 2 := by omega
  all_goals exact ⟨_, rfl⟩
theorem four_cell (x y z t : Int) (j : Nat) (hj : j < 4) : ∃ u : Int, (#[Value.int .i64 x, .int .i64 y, .int .i64 z, .int .i64 t] : Array Value)[j]? = some (.int .i64 u) := by
  obtain rfl | rfl | rfl | rfl : j = 0 ∨ j = 1 ∨ j = 2 ∨ j = 3 := by omega
  all_goals exact ⟨_, rfl⟩
/-- a number out of a block that was just laid, behind a draw -/
theorem drawn_cell {B : Nat} {W W' : World} {cs : Array Value} {t : TypeId} {j : Nat} {u : Int} (hB : B < W.heap.size) (ho : Only B (W.alloc (.cells cs t)) W') (h : cs[j]? = some (.int .i64 u)) : W'.cell? ⟨W.heap.size, j, none⟩ = some (.int .i64 u) := by
  refine (World.cell?_of_block (w := W.alloc (.cells cs t)) (a := ⟨W.heap.size, j, none⟩) (ho.2.2.2.2 W.heap.size (by omega))).trans ?_
  rw [cell_of_row _ _ j _ _ _ (heap_alloc_last W _)]
  exact h

theorem min4_any (n : Nat) (W : World) : Calls Try.prog 113 #[.int .i64 10000, .int .i64 (2 * (n : Int))] W fun e w' => e = .returned (.int .i64 (min 10000 (2 * n) : Nat)) ∧ w' = W := by
  have := Bk.minS_any 10000 (2 * n) W
  rw [show ((2 * n : Nat) : Int) = 2 * (n : Int) by omega] at this
  exact this

set_option maxRecDepth 100000 in
set_option maxHeartbeats 4000000 in
theorem counts4_any (B : Nat) (a : Option Addr) (len cap : Nat) (w : World) (hl : len ≤ 1048576) (hs : Src w B a len cap) :
    Calls Try.prog 65 #[.pointer (some ⟨B, 0, none⟩)] w fun e w' => ∃ v l, e = .returned v ∧ Dn w B a len cap w' v l 20 := by
  obtain ⟨i1, hi1, hy0, hy1, hy2⟩ := info_parts infoI2
  have hB := hs.lt
  have D0 := hideD (Dn.new (w := w) 0 hs (Aft.refl _ _) hB)
  clear hs
  go_enter Try.func65, Try.ntmps65
  go_wp2_with fail
  refine (n_any B a len cap 10 _ hl (by omega) D0.out.src).mono ?_
  rintro e w1 ⟨r, rfl, p0, p1, hs1, ho1⟩
  obtain ⟨m, rfl⟩ := Int.eq_ofNat_of_zero_le p0
  have hm : m ≤ 10 := by omega
  have D1 := hideD (D0.out.only hs1 ho1)
  clear hs1 ho1 p0 p1 D0
  go_wp2_with fail
  go_loopw [4, 3] (fun iv tv wr => ∃ (k : Nat) (l : List Int), iv = .int .i64 k ∧ k ≤ 10 ∧ Dn w B a len cap wr tv l (10 - k)) (fun iv _ _ => (intOf iv).toNat)
  case atStart => exact ⟨m, [], rfl, hm, D1.out.mono (by omega)⟩
  case round =>
    obtain ⟨k, l, rfl, hk, hd⟩ := hrel
    have D2 := hideD hd
    clear hd D1
    by_cases hlt : 0 < k
    · obtain ⟨kp, hkp⟩ : ∃ kp, k = kp + 1 := ⟨k - 1, by omega⟩
      have ek : (k : Int) - 1 = (kp : Int) := by omega
      have HK := hideD hkp
      have hkz : (0 : Int) < (k : Int) := by omega
      clear hkp
      go_wp2_with fail
      refine (n_any B a len cap 9 _ hl (by omega) D2.out.src).mono ?_
      rintro e w3 ⟨r3, rfl, _, _, hs3, ho3⟩
      have D3 := hideD (D2.out.only hs3 ho3)
      clear hs3 ho3 D2
      go_wp2_with fail
      refine (n_any B a len cap 10001 _ hl (by omega) D3.out.src).mono ?_
      rintro e w4 ⟨r4, rfl, _, _, hs4, ho4⟩
      have D4 := hideD (D3.out.only hs4 ho4)
      clear hs4 ho4 D3
      go_wp2_with fail
      have D5 := hideD (D4.out.alloc (.cells #[.int .i64 0, .int .i64 1, .int .i64 1, .int .i64 2, .int .i64 r3, .int .i64 r4] 2))
      refine (n_any B a len cap 6 _ hl (by omega) D5.out.src).mono ?_
      rintro e w6 ⟨r6, rfl, q0, q1, hs6, ho6⟩
      obtain ⟨j, rfl⟩ := Int.eq_ofNat_of_zero_le q0
      have hj : j < 6 := by omega
      have hj6 : (j : Int) < 6 := by omega
      obtain ⟨u, hu⟩ := six_cell r3 r4 j hj
      have hcu := drawn_cell (by have := D4.out.aft.size; omega) ho6 hu
      have D6 := hideD (D5.out.only hs6 ho6)
      have hz6 := D6.out.aft.size
      have hle := D6.out.le
      obtain ⟨x6, c6, hv6⟩ := D6.out.slice
      subst hv6
      clear hs6 ho6 D5 hu q0 q1
      go_wp2_with (at_builtin; refine wpList_append_own _ rfl (.tmp 13) (.tmp 23) 23 rfl w.heap.size 2 i1 (.int .i64 0) 1 8 Try.underlying23 hi1 hy0 hy1 hy2 rfl (by decide) _ l.length (l.map (Value.int .i64)) rfl ?own ⟨w6.heap.size, 0, none⟩ 1 1 [.int .i64 u] rfl rfl (one_newI _ _ _) (one_cellI _) (by unfold maxLen; omega) (by omega) (by simp; omega) ?_)
      case own => exact Ze.OwnI.alloc D6.out.own _
      intro v7 w7 hown hgrow _
      have D7 := hideD (D6.out.app hown hgrow)
      clear hown hgrow hcu
      go_wp2_with fail
      go_roundw
      case rel => exact ⟨kp, l ++ [u], by go_num, by have := HK.out; omega, D7.out.mono (by have := HK.out; omega)⟩
      case measure => have := HK.out; simp [intOf]; omega
    · obtain rfl : k = 0 := by omega
      have D3 := hideD (D2.out.mono (show 10 - 0 ≤ 10 by omega))
      clear D2
      obtain ⟨x3, c3, hv3⟩ := D3.out.slice
      subst hv3
      go_wp2_with fail
      refine (one_any B a len cap 15 _ hl (by omega) D3.out.src).mono ?_
      rintro e w4 ⟨r4, rfl, hs4, ho4⟩
      have D4 := hideD (D3.out.only hs4 ho4)
      clear hs4 ho4 D3
      cases r4 with
      | false =>
        have DT := hideD (D4.out.mono (show 10 ≤ 11 by omega))
        clear D4
        go_wp2_with fail
        refine (one_any B a len cap 15 _ hl (by omega) DT.out.src).mono ?_
        rintro e w8 ⟨r8, rfl, hs8, ho8⟩
        have D8 := hideD (DT.out.only hs8 ho8)
        clear hs8 ho8 DT
        cases r8 with
        | false =>
          go_wp2_with fail
          go_ret
          exact ⟨_, _, rfl, D8.out.mono (by omega)⟩
        | true =>
          have D9 := hideD (Dn.new (w := w) 15 D8.out.src D8.out.aft hB)
          clear D8
          go_wp2_with fail
          go_loopw [3, 5] (fun tv nv wr => ∃ (l : List Int) (x : Option Addr) (c n : Nat), tv = .slice x l.length c ∧ nv = .int .i64 n ∧ n ≤ 10000 ∧ Dn w B a len cap wr (.slice x l.length c) l 15) (fun tv _ _ => match tv with | .slice _ k _ => 15 - k | _ => 0)
          case atStart => exact ⟨[], _, 0, 1, rfl, rfl, by omega, D9.out⟩
          case round =>
            obtain ⟨q, x, c, n, rfl, rfl, hn, hd⟩ := hrel
            have DQ := hideD hd
            have hle := hd.le
            have hzq := hd.aft.size
            clear hd D9
            by_cases hlt15 : q.length < 15
            · have hq' : (q.length : Int) < 15 := by omega
              go_wp2_with (at_builtin; refine wpList_append_own _ rfl (.tmp 41) (.tmp 43) 23 rfl w.heap.size 2 i1 (.int .i64 0) 1 8 Try.underlying23 hi1 hy0 hy1 hy2 rfl (by decide) _ q.length (q.map (Value.int .i64)) rfl ?own ⟨wr.heap.size, 0, none⟩ 1 1 [.int .i64 (n : Int)] rfl rfl (one_newI _ _ _) (one_cellI _) (by unfold maxLen; omega) (by omega) (by simp; omega) ?_)
              case own => exact Ze.OwnI.alloc DQ.out.own _
              intro v7 w7 hown hgrow _
              have D7 := hideD ((Dn.app (n := q.length) ⟨DQ.out.own, Nat.le_refl _, DQ.out.src, DQ.out.aft, DQ.out.hB⟩ hown hgrow).mono (show q.length + 1 ≤ 15 by omega))
              obtain ⟨x7, c7, hv7⟩ := D7.out.slice
              subst hv7
              clear hown hgrow
              go_wp2_with fail
              refine (min4_any n _).mono ?_
              rintro e w10 ⟨rfl, hw10⟩
              subst w10
              go_wp2_with fail
              go_roundw
              case rel => exact ⟨q ++ [(n : Int)], x7, c7, min 10000 (2 * n), by rw [List.length_append]; rfl, rfl, by omega, D7.out⟩
              case measure => simp; omega
            · have hq' : ¬ (q.length : Int) < 15 := by omega
              go_wp2_with fail
              go_ret
              first | exact ⟨_, q, rfl, DQ.out.mono (by omega)⟩ | exact ⟨_, rfl, q, DQ.out.mono (by omega)⟩
      | true =>
        go_wp2_with fail
        have D5 := hideD (D4.out.alloc (.cells #[.int .i64 (-1), .int .i64 10000, .int .i64 10001] 2))
        refine (n_any B a len cap 3 _ hl (by omega) D5.out.src).mono ?_
        rintro e w6 ⟨r6, rfl, q0, q1, hs6, ho6⟩
        obtain ⟨j, rfl⟩ := Int.eq_ofNat_of_zero_le q0
        have hj : j < 3 := by omega
        have hj6 : (j : Int) < 3 := by omega
        obtain ⟨u, hu⟩ := three_cell (-1) 10000 10001 j hj
        have hcu := drawn_cell (by have := D4.out.aft.size; omega) ho6 hu
        have D6 := hideD (D5.out.only hs6 ho6)
        have hz6 := D6.out.aft.size
        have hle := D6.out.le
        clear hs6 ho6 D5 hu q0 q1
        go_wp2_with (at_builtin; refine wpList_append_own _ rfl (.tmp 27) (.tmp 33) 23 rfl w.heap.size 2 i1 (.int .i64 0) 1 8 Try.underlying23 hi1 hy0 hy1 hy2 rfl (by decide) _ l.length (l.map (Value.int .i64)) rfl ?own ⟨w6.heap.size, 0, none⟩ 1 1 [.int .i64 u] rfl rfl (one_newI _ _ _) (one_cellI _) (by unfold maxLen; omega) (by omega) (by simp; omega) ?_)
        case own => exact Ze.OwnI.alloc D6.out.own _
        intro v7 w7 hown hgrow _
        have DT := hideD (D6.out.app hown hgrow)
        clear hown hgrow hcu D4 D6
        go_wp2_with fail
        refine (one_any B a len cap 15 _ hl (by omega) DT.out.src).mono ?_
        rintro e w8 ⟨r8, rfl, hs8, ho8⟩
        have D8 := hideD (DT.out.only hs8 ho8)
        clear hs8 ho8 DT
        cases r8 with
        | false =>
          go_wp2_with fail
          go_ret
          exact ⟨_, _, rfl, D8.out.mono (by omega)⟩
        | true =>
          have D9 := hideD (Dn.new (w := w) 15 D8.out.src D8.out.aft hB)
          clear D8
          go_wp2_with fail
          go_loopw [3, 5] (fun tv nv wr => ∃ (l : List Int) (x : Option Addr) (c n : Nat), tv = .slice x l.length c ∧ nv = .int .i64 n ∧ n ≤ 10000 ∧ Dn w B a len cap wr (.slice x l.length c) l 15) (fun tv _ _ => match tv with | .slice _ k _ => 15 - k | _ => 0)
          case atStart => exact ⟨[], _, 0, 1, rfl, rfl, by omega, D9.out⟩
          case round =>
            obtain ⟨q, x, c, n, rfl, rfl, hn, hd⟩ := hrel
            have DQ := hideD hd
            have hle := hd.le
            have hzq := hd.aft.size
            clear hd D9
            by_cases hlt15 : q.length < 15
            · have hq' : (q.length : Int) < 15 := by omega
              go_wp2_with (at_builtin; refine wpList_append_own _ rfl (.tmp 41) (.tmp 43) 23 rfl w.heap.size 2 i1 (.int .i64 0) 1 8 Try.underlying23 hi1 hy0 hy1 hy2 rfl (by decide) _ q.length (q.map (Value.int .i64)) rfl ?own ⟨wr.heap.size, 0, none⟩ 1 1 [.int .i64 (n : Int)] rfl rfl (one_newI _ _ _) (one_cellI _) (by unfold maxLen; omega) (by omega) (by simp; omega) ?_)
              case own => exact Ze.OwnI.alloc DQ.out.own _
              intro v7 w7 hown hgrow _
              have D7 := hideD ((Dn.app (n := q.length) ⟨DQ.out.own, Nat.le_refl _, DQ.out.src, DQ.out.aft, DQ.out.hB⟩ hown hgrow).mono (show q.length + 1 ≤ 15 by omega))
              obtain ⟨x7, c7, hv7⟩ := D7.out.slice
              subst hv7
              clear hown hgrow
              go_wp2_with fail
              refine (min4_any n _).mono ?_
              rintro e w10 ⟨rfl, hw10⟩
              subst w10
              go_wp2_with fail
              go_roundw
              case rel => exact ⟨q ++ [(n : Int)], x7, c7, min 10000 (2 * n), by rw [List.length_append]; rfl, rfl, by omega, D7.out⟩
              case measure => simp; omega
            · have hq' : ¬ (q.length : Int) < 15 := by omega
              go_wp2_with fail
              go_ret
              first | exact ⟨_, q, rfl, DQ.out.mono (by omega)⟩ | exact ⟨_, rfl, q, DQ.out.mono (by omega)⟩
end Go.Proofs.Ytmkpakhpjgocjaa.Dr

/- What the specification's FrontBack answers. -/
namespace Go.Proofs.Ytmkpakhpjgocjaa.Fr
open Go.RowKit
open Go.Proofs.Ytmkpakhpjgocjaa.Sh (IsB rowF upd made_row upd_same upd_other strF)
open Go.Proofs.Ytmkpakhpjgocjaa.Ze (hideZ numsR upTo upTo_yes numsR_of numsR_long numsR_yes nums_spec)
open Go.Proofs.Ytmkpakhpjgocjaa.St (Aft)
open Go.Proofs.Ytmkpakhpjgocjaa.In (Ints)
open Go.Proofs.Ytmkpakhpjgocjaa.Nu (ret_strJ bv own_string app_below)
open Go.Proofs.Ytmkpakhpjgocjaa.Ap (Own0 wpList_append_own0)

def Own0B (w : World) (base : Nat) (v : Value) (l : List UInt8) : Prop := Own0 w base 5 1 v l.length (l.map bv)
theorem own0_string {P : Program} {w : World} {base src dst : TypeId} {v : Value} (l : List UInt8) (h : Own0B w base v l)
    (hs : P.underlying src = some (.slice 5)) (he : P.underlying 5 = some (.int .u8)) (hd : P.underlying dst = some .string) :
    (convert src dst v).run P w = .ok (.string ⟨l.toArray⟩) w := by
  rcases h with ⟨b, rfl, h0, _⟩ | h
  · obtain rfl : l = [] := List.eq_nil_of_length_eq_zero h0
    exact run_convert_bytes_back w src dst 5 b 0 [] hs he hd (by intro j hj; exact absurd hj (Nat.not_lt_zero j))
  · exact own_string l h hs he hd
theorem one_newB (W : World) (s : Int) (t : TypeId) : ∀ (j : Nat) (u : Value), [(Value.int .u8) s][j]? = some u → (W.alloc (.cells #[.int .u8 s] t)).cell? ((⟨W.heap.size, 0, none⟩ : Addr).add j) = some u := by
  intro j u hj
  match j, hj with
  | 0, hj => simp at hj; subst hj; simp [Addr.add]
theorem one_cellB (s : Int) : ∀ u ∈ [(Value.int .u8) s], u.oneCell' = true := by
  intro u hu
  simp at hu
  subst hu
  rfl
theorem own0B_snoc {w : World} {base : Nat} {v : Value} {l : List UInt8} {x : Int} (h0 : 0 ≤ x) (h1 : x < 256) (h : w.ownsRow base 5 1 v (l.length + 1) (l.map bv ++ [.int .u8 x])) : Own0B w base v (l ++ [UInt8.ofNat x.toNat]) := by
  refine .inr ?_
  have e : bv (UInt8.ofNat x.toNat) = .int .u8 x := by
    simp [bv]
    omega
  rw [List.length_append, List.map_append, List.map_singleton, e]
  exact h

set_option maxRecDepth 100000 in
set_option maxHeartbeats 1000000 in
theorem frontBack_spec (l : List Int) (a : Option Addr) (cap B : Nat) (w : World) (hi : Ints w B a l) (hB : B ≤ w.heap.size) (hn : l.length ≤ 1048576) :
    Calls Try.prog 48 #[.slice a l.length cap] w fun e w' => e = .returned (.string ⟨(fbackR l).toArray⟩) ∧ Below w.heap.size w w' := by
  obtain ⟨i0, hi0, hz0, hz1, hz2⟩ := info_parts Nu.Try.infoJ5
  have HS := hideZ (hi.mono hB)
  have HU := hideZ (fun W (hW : Below w.heap.size w W) => nums_spec l 255 a cap w.heap.size W ((hi.mono hB).below hW) hn)
  have hb0 : Below w.heap.size w (w.alloc (.cells #[] 5)) := (Below.refl _ _).alloc (Nat.le_refl _) _
  have HB0 := hideZ hb0
  have HRS := hideZ (row_spec (w.alloc (.cells #[] 5)))
  have zs : (w.alloc (.cells #[] 5)).heap.size = w.heap.size + 1 := by simp
  rw [zs] at HRS
  clear hi hb0 zs
  cases hu : numsR l 255 with
  | false =>
    rw [fbackR_no hu]
    rw [hu] at HU
    clear hu
    generalize l.length = n at HU hn ⊢
    go_enter Try.func48, Try.ntmps48
    go_wp2_with fail
    refine HRS.out.mono ?_
    rintro e w1 ⟨rfl, hr1, hb1⟩
    have HB1 := hideZ (HB0.out.trans (hb1.mono (by omega)))
    have H0 : Hid (Own0B w1 (w.heap.size + 2) (.slice (some ⟨w.heap.size, 0, none⟩) 0 0) []) := .inl ⟨_, rfl, rfl, rfl⟩
    have hcv := own0_string (P := Try.prog) (src := 22) (dst := 9) [] H0.out Try.underlying22 Try.underlying5 Try.underlying9
    clear hr1 hb1
    by_cases h0 : 0 < n
    · have hd0 : decide ((0 : Int) < (n : Int)) = true := decide_eq_true (by omega)
      go_wp2_with fail
      go_loopw [5, 3] (fun i u wr => i = .int .i64 0 ∧ u = .slice (some ⟨w.heap.size, 0, none⟩) 0 0 ∧ wr = w1) (fun _ _ _ => 0)
      case atStart => exact ⟨rfl, rfl, rfl⟩
      case round =>
        obtain ⟨rfl, rfl, rfl⟩ := hrel
        go_wp2_with fail
        refine (HU.out _ HB1.out).mono ?_
        rintro e w' ⟨rfl, hw⟩
        subst w'
        go_wp2_with fail
        go_ret
        exact ⟨rfl, HB1.out⟩
    · have hd0 : decide ((0 : Int) < (n : Int)) = false := decide_eq_false (by omega)
      go_wp2_with fail
      go_loopw [5, 3] (fun i u wr => i = .int .i64 0 ∧ u = .slice (some ⟨w.heap.size, 0, none⟩) 0 0 ∧ wr = w1) (fun _ _ _ => 0)
      case atStart => exact ⟨rfl, rfl, rfl⟩
      case round =>
        obtain ⟨rfl, rfl, rfl⟩ := hrel
        go_wp2_with fail
        go_ret
        exact ⟨rfl, HB1.out⟩
  | true =>
    rw [fbackR_yes hu]
    have HUP := hideZ (upTo_yes (numsR_yes hu).2)
    have hlong := (numsR_yes hu).1
    rw [hu] at HU
    clear hu
    obtain ⟨n, hln⟩ : ∃ n, n = l.length := ⟨_, rfl⟩
    have HLN := hideZ hln
    rw [← hln] at HU hlong ⊢
    clear hln hn
    go_enter Try.func48, Try.ntmps48
    go_wp2_with fail
    refine HRS.out.mono ?_
    rintro e w1 ⟨rfl, hr1, hb1⟩
    have HB1 := hideZ (HB0.out.trans (hb1.mono (by omega)))
    have HR1 := hideZ hr1
    have hg1 := hr1.lt
    clear hr1 hb1 HRS
    go_wp2_with fail
    go_loopw [5, 3] (fun i u wr => ∃ k : Nat, i = .int .i64 k ∧ k ≤ n ∧ IsB wr (w.heap.size + 1) 5 .u8 256 (kst (l.take k)).2 ∧ Own0B wr (w.heap.size + 2) u (kst (l.take k)).1 ∧ Below w.heap.size w wr) (fun i _ _ => n - (intOf i).toNat)
    case atStart => exact ⟨0, rfl, Nat.zero_le _, HR1.out, .inl ⟨_, rfl, rfl, rfl⟩, HB1.out⟩
    case round =>
      obtain ⟨k, rfl, hk, hrow, hown, hbel⟩ := hrel
      obtain ⟨hfull, hlen⟩ := kst_full l HUP.out k (by have := HLN.out; omega)
      have R1 := hideZ hrow
      have O1 := hideZ hown
      have GB := hideZ hbel
      have hgs := hrow.lt
      clear hbel
      by_cases hlt : k < n
      · have hd0 : decide ((k : Int) < (n : Int)) = true := decide_eq_true (by omega)
        have hkl : k < l.length := by rw [← HLN.out]; exact hlt
        obtain ⟨b, off, rfl, hb, hc⟩ := (HS.out.below GB.out).some (by omega)
        have ci := hc k hkl
        have HC : Hid (∀ W : World, Below w.heap.size w W → W.cell? ⟨b, off + k, none⟩ = some (.int .i64 l[k])) := fun W hW => by
          obtain ⟨b', off', e1, _, hc'⟩ := ((HS.out.below hW).some (by omega : 0 < l.length))
          cases e1
          exact hc' k hkl
        have hx255 := HUP.out _ (List.getElem_mem hkl)
        have HM := hideZ (kst_more hkl)
        obtain ⟨x, hx⟩ : ∃ x, x = l[k] := ⟨_, rfl⟩
        rw [← hx] at ci hx255 HM HC
        obtain ⟨p, rfl⟩ : ∃ p : Nat, x = p := ⟨x.toNat, by omega⟩
        have hp : p < 256 := by omega
        have hfp := hfull.2 p hp
        rw [Int.toNat_natCast] at HM
        obtain ⟨f, hf⟩ : ∃ f, f = (kst (l.take k)).2 := ⟨_, rfl⟩
        obtain ⟨bs, hbs⟩ : ∃ bs, bs = (kst (l.take k)).1 := ⟨_, rfl⟩
        rw [← hf] at R1 HM hrow hfp
        rw [← hbs] at O1 HM hlen hown
        have c1 := hrow.cell (j := p) hp
        obtain ⟨y, hy⟩ : ∃ y, y = f p := ⟨_, rfl⟩
        rw [← hy] at c1 hfp HM
        have HFP := hideZ hfp
        have HL := hideZ hlen
        clear hc hx hf hbs hrow hown hfull hlen hy hfp
        go_wp2_with fail
        refine (HU.out _ GB.out).mono ?_
        rintro e w' ⟨rfl, hw⟩
        subst w'
        go_wp2_with (at_builtin; refine wpList_append_own0 _ rfl (.tmp 18) (.tmp 26) 22 rfl (w.heap.size + 2) 5 i0 (.int .u8 0) 1 1 Try.underlying22 hi0 hz0 hz1 hz2 rfl (by decide) _ bs.length (bs.map bv) rfl (Own0.alloc O1.out _) ⟨wr.heap.size, 0, none⟩ 1 1 [.int .u8 y] rfl rfl (one_newB _ _ _) (one_cellB _) (by decide) (by unfold maxLen; have := HL.out; omega) (by have := HL.out; omega) (by simp; omega) ?_)
        intro v' w5 hown' hb5
        have N5 := hideZ (own0B_snoc HFP.out.1 HFP.out.2 hown')
        have ba : Below (w.heap.size + 2) wr w5 := ((Below.refl (w.heap.size + 2) wr).alloc (by omega) _).trans (hb5 _ (Nat.le_refl _))
        have R5 := hideZ (R1.out.below ba (by omega))
        have B5 := hideZ (GB.out.trans (ba.mono (by omega)))
        have c5 := HC.out w5 B5.out
        have HFS := hideZ (front_spec (w.heap.size + 1) p 256 5 f w5 R5.out hp)
        have z5 := ba.size
        clear hown' hb5 ba ci c1
        go_wp2_with fail
        refine HFS.out.mono ?_
        rintro e w6 ⟨rfl, hr6, ha6⟩
        have R6 := hideZ hr6
        have N6 := hideZ (N5.out.keep (fun j hj1 hj2 => ha6.2.2.2.2 j hj2 (by omega)))
        have B6 := hideZ (Aft.below B5.out ha6 (by omega) (by omega))
        clear hr6 ha6
        go_wp2_with fail
        go_roundw
        case rel => exact ⟨k + 1, by go_num, by omega, by rw [HM.out]; exact R6.out, by rw [HM.out]; exact N6.out, B6.out⟩
        case measure => simp [intOf]; omega
      · have hd0 : decide ((k : Int) < (n : Int)) = false := decide_eq_false (by omega)
        obtain rfl : k = n := by omega
        have HT : Hid (l.take k = l) := by
          unfold Hid
          rw [HLN.out, List.take_length]
        rw [HT.out] at hown
        have hcv := own0_string (P := Try.prog) (src := 22) (dst := 9) _ hown Try.underlying22 Try.underlying5 Try.underlying9
        clear hrow hown hfull hlen
        go_wp2_with fail
        go_ret
        exact ⟨rfl, GB.out⟩
end Go.Proofs.Ytmkpakhpjgocjaa.Fr

/- What is drawn for codes: lengths, symbols, bits; weak on purpose. -/
namespace Go.Proofs.Ytmkpakhpjgocjaa.Dr
open Go.RowKit
open Go.Proofs.Ytmkpakhpjgocjaa.In (OwnI IsO Ints one_newI one_cellI)
open Go.Proofs.Ytmkpakhpjgocjaa.In.Try (infoI2)
open Go.Proofs.Ytmkpakhpjgocjaa.Hf (lensR)

theorem lensR_le (l : List Int) : (lensR l).length ≤ l.length := by
  unfold lensR
  split
  · unfold Hf.lenOf Hf.nats
    rw [Hf.up_length, Hf.ofN_length, List.length_map]
    exact Nat.le_refl _
  · exact Nat.zero_le _
theorem ownI_set {W : World} {base : Nat} {v : Value} {l : List Int} (h : OwnI W base v l) (j : Nat) (u : Int) (hj : j < l.length) : ∃ g c, v = .slice (some ⟨g, 0, none⟩) l.length c ∧ base ≤ g ∧ g < W.heap.size ∧ W.cell? ⟨g, j, none⟩ = some (.int .i64 l[j]) ∧ W.frozen? ⟨g, j, none⟩ = false ∧ OwnI (W.setCell ⟨g, j, none⟩ (.int .i64 u)) base v (l.set j u) := by
  have hs := h.split
  obtain ⟨h1, h2⟩ := h
  rcases h2 with ⟨_, h0⟩ | ⟨g, c, cur, hv, hg, hb, hn, hm, hz, ht⟩
  · omega
  · have hlt : g < W.heap.size := (Array.getElem?_eq_some_iff.1 hb).1
    have hc : cur[j]? = some (.int .i64 l[j]) := by
      have e : cur.toList[j]? = (cur.toList.take (l.length * 1))[j]? := by rw [List.getElem?_take_of_lt (by omega)]
      rw [← Array.getElem?_toList, e, ht, List.getElem?_map, List.getElem?_eq_getElem hj]
      rfl
    refine ⟨g, c, hv, hg, hlt, (cell_of_row W g j _ _ _ hb).trans hc, frozen_of_row W g j _ _ hb, ?_⟩
    refine ⟨by simp, .inr ⟨g, c, cur.setIfInBounds j (.int .i64 u), by rw [List.length_set]; exact hv, hg, heap_setCell_same W g j _ _ _ hb, by rw [List.length_set]; exact hn, hm, by rw [Array.size_setIfInBounds]; exact hz, ?_⟩⟩
    rw [List.length_set, Array.toList_setIfInBounds, List.take_set, ht, List.map_set]

set_option maxRecDepth 100000 in
set_option maxHeartbeats 2000000 in
theorem lengths4_any (B : Nat) (a : Option Addr) (len cap : Nat) (w : World) (hl : len ≤ 1048576) (hs : Src w B a len cap) :
    Calls Try.prog 69 #[.pointer (some ⟨B, 0, none⟩)] w fun e w' => ∃ v l, e = .returned v ∧ Dn w B a len cap w' v l 20 := by
  have hB := hs.lt
  have HS := hideD hs
  clear hs
  go_enter Try.func69, Try.ntmps69
  go_wp2_with fail
  refine (counts4_any B a len cap w hl HS.out).mono ?_
  rintro e w1 ⟨v1, l1, rfl, hd1⟩
  have D1 := hideD hd1
  have HL : Hid (Calls Try.prog 21 #[v1] w1 fun e w' => ∃ v, e = .returned v ∧ Dn w B a len cap w' v (lensR l1) 20) := by
    obtain ⟨x, c, rfl, _, hi⟩ := hd1.own.ints
    have hle := hd1.le
    refine (Hf.lengths_spec l1 x c w1.heap.size w1 hi (Nat.le_refl _) (by omega)).mono ?_
    rintro e w' ⟨v, rfl, ho, hb⟩
    exact ⟨v, rfl, ho.mono hd1.aft.size, Nat.le_trans (lensR_le l1) hle, hd1.src.below hb, hd1.aft.trans (aft_below hb), hd1.hB⟩
  clear hd1
  go_wp2_with fail
  refine HL.out.mono ?_
  rintro e w2 ⟨v2, rfl, hd2⟩
  have D2 := hideD hd2
  clear hd2 D1 HL HS
  obtain ⟨q, hq⟩ : ∃ q, q = lensR l1 := ⟨_, rfl⟩
  rw [← hq] at D2
  clear hq
  obtain ⟨x2, c2, hv2⟩ := D2.out.slice
  subst hv2
  go_wp2_with fail
  refine (one_any B a len cap 10 _ hl (by omega) D2.out.src).mono ?_
  rintro e w3 ⟨r3, rfl, hs3, ho3⟩
  have D3 := hideD (D2.out.only hs3 ho3)
  clear hs3 ho3 D2
  cases r3 with
  | false =>
    go_wp2_with fail
    go_ret
    first | exact ⟨_, q, rfl, D3.out⟩ | exact ⟨_, rfl, q, D3.out⟩
  | true =>
    by_cases h0 : 0 < q.length
    · have h0' : (0 : Int) < (q.length : Int) := by omega
      have hle := D3.out.le
      go_wp2_with fail
      refine (n_any B a len cap q.length _ hl (by omega) D3.out.src).mono ?_
      rintro e w4 ⟨r4, rfl, p0, p1, hs4, ho4⟩
      obtain ⟨j, rfl⟩ := Int.eq_ofNat_of_zero_le p0
      have hj : j < q.length := by omega
      have D4 := hideD (D3.out.only hs4 ho4)
      clear hs4 ho4 D3 p0 p1
      go_wp2_with fail
      refine (n_any B a len cap 15 _ hl (by omega) D4.out.src).mono ?_
      rintro e w5 ⟨r5, rfl, q0, q1, hs5, ho5⟩
      have D5 := hideD (D4.out.only hs5 ho5)
      clear hs5 ho5 D4
      obtain ⟨g, c, hv, hg, hgw, hcell, hfz, hset⟩ := ownI_set D5.out.own j (r5 - 1) hj
      obtain ⟨rfl, rfl⟩ : x2 = some ⟨g, 0, none⟩ ∧ c2 = c := by simpa using hv
      have HX : Hid (Dn w B a len cap (w5.setCell ⟨g, j, none⟩ (.int .i64 (r5 - 1))) (.slice (some ⟨g, 0, none⟩) q.length c2) (q.set j (r5 - 1)) 20) := by
        have hbw : Below w.heap.size w5 (w5.setCell ⟨g, j, none⟩ (.int .i64 (r5 - 1))) := (Below.refl _ _).setCell (by simpa using hg) _
        exact ⟨hset, by rw [List.length_set]; exact D5.out.le, D5.out.src.stays fun k hk => hbw.block k (by omega), D5.out.aft.low hbw, hB⟩
      have hjq : (j : Int) < (q.length : Int) := by omega
      generalize q[j] = old at hcell
      clear hset hv
      go_wp2_with fail
      go_ret
      first | exact ⟨_, _, rfl, HX.out⟩ | exact ⟨_, rfl, _, HX.out⟩
    · have h0' : decide ((0 : Int) < (q.length : Int)) = false := decide_eq_false (by omega)
      have h0'' : ¬ (0 : Int) < (q.length : Int) := by omega
      go_wp2_with fail
      go_ret
      first | exact ⟨_, q, rfl, D3.out⟩ | exact ⟨_, rfl, q, D3.out⟩

/-- a row of numbers beside the source -/
def RowI (w : World) (B : Nat) (x : Option Addr) (l : List Int) : Prop := l = [] ∨ ∃ b off, x = some ⟨b, off, none⟩ ∧ b < w.heap.size ∧ b ≠ B ∧ ∀ j (h : j < l.length), w.cell? ⟨b, off + j, none⟩ = some (.int .i64 l[j])
theorem Dn.rowI {w : World} {B : Nat} {a : Option Addr} {len cap : Nat} {W : World} {x : Option Addr} {c : Nat} {l : List Int} {n : Nat} (h : Dn w B a len cap W (.slice x l.length c) l n) : RowI W B x l := by
  rcases h.own.split with ⟨_, h0⟩ | ⟨g, cap', hv, hg, _, ho⟩
  · exact .inl h0
  · obtain ⟨rfl, rfl⟩ : x = some ⟨g, 0, none⟩ ∧ c = cap' := by simpa using hv
    exact .inr ⟨g, 0, rfl, ho.lt, by have := h.hB; omega, fun j hj => by rw [Nat.zero_add]; exact ho.cell hj⟩
theorem RowI.aft {w w' : World} {B : Nat} {x : Option Addr} {l : List Int} (h : RowI w B x l) (ha : Aft B w w') : RowI w' B x l := by
  rcases h with h | ⟨b, off, hx, hb, hne, hc⟩
  · exact .inl h
  · exact .inr ⟨b, off, hx, Nat.lt_of_lt_of_le hb ha.size, hne, fun j hj => (World.cell?_of_block (w := w) (a := ⟨b, off + j, none⟩) (ha.block b hb hne)).trans (hc j hj)⟩

set_option maxRecDepth 100000 in
set_option maxHeartbeats 2000000 in
theorem symbols4_any (B : Nat) (a : Option Addr) (len cap : Nat) (x : Option Addr) (c : Nat) (q : List Int) (w : World) (hl : len ≤ 1048576) (hq : q.length ≤ 20) (hs : Src w B a len cap) (hr : RowI w B x q) :
    Calls Try.prog 74 #[.pointer (some ⟨B, 0, none⟩), .slice x q.length c] w fun e w' => ∃ v l, e = .returned v ∧ Dn w B a len cap w' v l 12 := by
  obtain ⟨i1, hi1, hy0, hy1, hy2⟩ := info_parts infoI2
  have hB := hs.lt
  have HR := hideD hr
  have D0 := hideD (Dn.new (w := w) 0 hs (Aft.refl _ _) hB)
  clear hs hr
  obtain ⟨n, hn⟩ : ∃ n, n = q.length := ⟨_, rfl⟩
  have HN := hideD hn
  rw [← hn] at hq ⊢
  clear hn
  go_enter Try.func74, Try.ntmps74
  go_wp2_with fail
  refine (n_any B a len cap 12 _ hl (by omega) D0.out.src).mono ?_
  rintro e w1 ⟨r, rfl, p0, p1, hs1, ho1⟩
  obtain ⟨m, rfl⟩ := Int.eq_ofNat_of_zero_le p0
  have hm : m ≤ 12 := by omega
  have D1 := hideD (D0.out.only hs1 ho1)
  clear hs1 ho1 p0 p1 D0
  go_wp2_with fail
  go_loopw [6, 5, 7] (fun iv tv _ wr => ∃ (k : Nat) (l : List Int), iv = .int .i64 k ∧ k ≤ 12 ∧ Dn w B a len cap wr tv l (12 - k)) (fun iv _ _ _ => (intOf iv).toNat)
  case atStart => exact ⟨m, [], rfl, hm, D1.out.mono (by omega)⟩
  case round =>
    obtain ⟨k, l, rfl, hk, hd⟩ := hrel
    have D2 := hideD hd
    clear hd D1
    by_cases hlt : 0 < k
    · by_cases h0 : 0 < n
      · obtain ⟨kp, hkp⟩ : ∃ kp, k = kp + 1 := ⟨k - 1, by omega⟩
        have ek : (k : Int) - 1 = (kp : Int) := by omega
        have HK := hideD hkp
        have hkz : (0 : Int) < (k : Int) := by omega
        have h0' : (0 : Int) < (n : Int) := by omega
        clear hkp
        go_wp2_with fail
        refine (n_any B a len cap n _ hl (by omega) D2.out.src).mono ?_
        rintro e w3 ⟨r3, rfl, q0, q1, hs3, ho3⟩
        obtain ⟨i, rfl⟩ := Int.eq_ofNat_of_zero_le q0
        have hi : i < n := by omega
        have hi' : (i : Int) < (n : Int) := by omega
        have D3 := hideD (D2.out.only hs3 ho3)
        clear hs3 ho3 D2 q0 q1
        have hiq : i < q.length := by rw [← HN.out]; exact hi
        obtain ⟨b, off, rfl, hb, hne, hc⟩ : ∃ b off, x = some ⟨b, off, none⟩ ∧ b < w3.heap.size ∧ b ≠ B ∧ ∀ j (h : j < q.length), w3.cell? ⟨b, off + j, none⟩ = some (.int .i64 q[j]) := by
          rcases HR.out.aft D3.out.aft with h | h
          · rw [h] at hiq
            simp at hiq
          · exact h
        have ci := hc i hiq
        generalize q[i] = y at ci
        have hle := D3.out.le
        have hz3 := D3.out.aft.size
        clear hc hiq
        have HAP : Hid (∀ W, Dn w B a len cap W u5 l (12 - k) → ∃ x' c', u5 = .slice x' l.length c') := fun W h => h.slice
        obtain ⟨x5, c5, hv5⟩ := HAP.out _ D3.out
        subst hv5
        clear HAP
        by_cases hy : 0 < y
        · go_wp2_with (at_builtin; refine wpList_append_own _ rfl (.tmp 33) (.tmp 35) 23 rfl w.heap.size 2 i1 (.int .i64 0) 1 8 Try.underlying23 hi1 hy0 hy1 hy2 rfl (by decide) _ l.length (l.map (Value.int .i64)) rfl ?own ⟨w3.heap.size, 0, none⟩ 1 1 [.int .i64 (i : Int)] rfl rfl (one_newI _ _ _) (one_cellI _) (by unfold maxLen; omega) (by omega) (by simp; omega) ?_)
          case own => exact Ze.OwnI.alloc D3.out.own _
          intro v7 w7 hown hgrow _
          have D7 := hideD (D3.out.app hown hgrow)
          clear hown hgrow ci
          go_wp2_with fail
          go_roundw
          case rel => exact ⟨kp, l ++ [(i : Int)], by go_num, by have := HK.out; omega, D7.out.mono (by have := HK.out; omega)⟩
          case measure => have := HK.out; simp [intOf]; omega
        · have hy' : decide (0 < y) = false := by simp; omega
          go_wp2_with fail
          refine (one_any B a len cap 20 _ hl (by omega) D3.out.src).mono ?_
          rintro e w4 ⟨r4, rfl, hs4, ho4⟩
          have D4 := hideD (D3.out.only hs4 ho4)
          have hz4 := D4.out.aft.size
          clear hs4 ho4 D3 ci
          cases r4 with
          | false =>
            go_wp2_with fail
            go_roundw
            case rel => exact ⟨kp, l, by go_num, by have := HK.out; omega, D4.out.mono (by have := HK.out; omega)⟩
            case measure => have := HK.out; simp [intOf]; omega
          | true =>
            go_wp2_with (at_builtin; refine wpList_append_own _ rfl (.tmp 33) (.tmp 35) 23 rfl w.heap.size 2 i1 (.int .i64 0) 1 8 Try.underlying23 hi1 hy0 hy1 hy2 rfl (by decide) _ l.length (l.map (Value.int .i64)) rfl ?own ⟨w4.heap.size, 0, none⟩ 1 1 [.int .i64 (i : Int)] rfl rfl (one_newI _ _ _) (one_cellI _) (by unfold maxLen; omega) (by omega) (by simp; omega) ?_)
            case own => exact Ze.OwnI.alloc D4.out.own _
            intro v7 w7 hown hgrow _
            have D7 := hideD (D4.out.app hown hgrow)
            clear hown hgrow
            go_wp2_with fail
            go_roundw
            case rel => exact ⟨kp, l ++ [(i : Int)], by go_num, by have := HK.out; omega, D7.out.mono (by have := HK.out; omega)⟩
            case measure => have := HK.out; simp [intOf]; omega
      · obtain rfl : n = 0 := by omega
        have hkz : (0 : Int) < (k : Int) := by omega
        go_wp2_with fail
        go_ret
        first | exact ⟨_, l, rfl, D2.out.mono (by omega)⟩ | exact ⟨_, rfl, l, D2.out.mono (by omega)⟩
    · obtain rfl : k = 0 := by omega
      go_wp2_with fail
      go_ret
      first | exact ⟨_, l, rfl, D2.out.mono (by omega)⟩ | exact ⟨_, rfl, l, D2.out.mono (by omega)⟩
end Go.Proofs.Ytmkpakhpjgocjaa.Dr
