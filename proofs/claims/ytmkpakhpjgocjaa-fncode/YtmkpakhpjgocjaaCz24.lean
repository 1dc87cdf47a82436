/- Texts put together: DrawCs, DrawCg, CdPlain. -/
import Derived.Test.YtmkpakhpjgocjaaCz22
import Derived.Test.YtmkpakhpjgocjaaCz23
import Derived.Deep.CutRange
import Derived.Deep.RegionWith
import Derived.BigRegion
import Derived.Test.YtmkpakhpjgocjaaCz10
import Derived.Test.YtmkpakhpjgocjaaCz12
import Derived.Test.YtmkpakhpjgocjaaCz7
import Derived.Test.YtmkpakhpjgocjaaCz15
/- What is drawn for codes: bits as a text, and the draws of the law on codes. -/
namespace Go.Proofs.Ytmkpakhpjgocjaa.Dr
open Go.RowKit
open Go.Proofs.Ytmkpakhpjgocjaa.In (OwnI Ints)
open Go.Proofs.Ytmkpakhpjgocjaa.Ap (Own0 wpList_append_own0)
open Go.Proofs.Ytmkpakhpjgocjaa.Fr (Own0B own0_string one_newB one_cellB own0B_snoc)
open Go.Proofs.Ytmkpakhpjgocjaa.Nu (bv)

/-- a list of bytes of the call's own, beside a source that is drawn from -/
structure Db (w : World) (B : Nat) (a : Option Addr) (len cap : Nat) (W : World) (v : Value) (l : List UInt8) (n : Nat) : Prop where
  own : Own0B W w.heap.size v l
  le : l.length ≤ n
  src : Src W B a len cap
  aft : Aft B w W
  hB : B < w.heap.size
theorem Db.only {w : World} {B : Nat} {a : Option Addr} {len cap : Nat} {W W' : World} {v : Value} {l : List UInt8} {n : Nat} (h : Db w B a len cap W v l n) (hs : Src W' B a len cap) (ho : Only B W W') : Db w B a len cap W' v l n :=
  ⟨Own0.keep h.own fun k hk _ => ho.2.2.2.2 k (by have := h.hB; omega), h.le, hs, h.aft.trans ho.aft, h.hB⟩
theorem Db.new {w : World} {B : Nat} {a : Option Addr} {len cap : Nat} {W : World} (n : Nat) (hs : Src W B a len cap) (ha : Aft B w W) (hB : B < w.heap.size) : Db w B a len cap (W.alloc (.cells #[] 5)) (.slice (some ⟨W.heap.size, 0, none⟩) 0 0) [] n :=
  ⟨.inl ⟨_, rfl, rfl, rfl⟩, Nat.zero_le _, hs.below ((Below.refl _ _).alloc (Nat.le_refl _) _), ha.trans (aft_below ((Below.refl _ _).alloc (Nat.le_refl _) _)), hB⟩
theorem Db.app {w : World} {B : Nat} {a : Option Addr} {len cap : Nat} {W W' : World} {v v' : Value} {l : List UInt8} {n : Nat} {u : Int} {o : Obj} (h : Db w B a len cap W v l n) (h0 : 0 ≤ u) (h1 : u < 256)
    (hown : W'.ownsRow w.heap.size 5 1 v' (l.length + 1) (l.map bv ++ [.int .u8 u])) (hbel : ∀ C, C ≤ w.heap.size → Below C (W.alloc o) W') : Db w B a len cap W' v' (l ++ [UInt8.ofNat u.toNat]) (n + 1) := by
  have hb : Below w.heap.size W W' := ((Below.refl w.heap.size W).alloc h.aft.size o).trans (hbel _ (Nat.le_refl _))
  exact ⟨own0B_snoc h0 h1 hown, by rw [List.length_append]; have := h.le; simp; omega, h.src.stays fun k hk => hb.block k (by have := h.hB; omega), h.aft.low hb, h.hB⟩
theorem Db.mono {w : World} {B : Nat} {a : Option Addr} {len cap : Nat} {W : World} {v : Value} {l : List UInt8} {n m : Nat} (h : Db w B a len cap W v l n) (hm : n ≤ m) : Db w B a len cap W v l m := ⟨h.own, Nat.le_trans h.le hm, h.src, h.aft, h.hB⟩

set_option maxRecDepth 100000 in
set_option maxHeartbeats 2000000 in
theorem some4_any (B : Nat) (a : Option Addr) (len cap : Nat) (w : World) (hl : len ≤ 1048576) (hs : Src w B a len cap) :
    Calls Try.prog 72 #[.pointer (some ⟨B, 0, none⟩)] w fun e w' => ∃ s : ByteArray, s.size ≤ 22 ∧ e = .returned (.string s) ∧ Src w' B a len cap ∧ Aft B w w' := by
  obtain ⟨i0, hi0, hz0, hz1, hz2⟩ := info_parts Nu.Try.infoJ5
  have hB := hs.lt
  have D0 := hideD (Db.new (w := w) 0 hs (Aft.refl _ _) hB)
  clear hs
  go_enter Try.func72, Try.ntmps72
  go_wp2_with fail
  refine (n_any B a len cap 20 _ hl (by omega) D0.out.src).mono ?_
  rintro e w1 ⟨r, rfl, p0, p1, hs1, ho1⟩
  obtain ⟨m, rfl⟩ := Int.eq_ofNat_of_zero_le p0
  have hm : m ≤ 20 := by omega
  have D1 := hideD (D0.out.only hs1 ho1)
  clear hs1 ho1 p0 p1 D0
  go_wp2_with fail
  go_loopw [4, 3] (fun iv tv wr => ∃ (k : Nat) (l : List UInt8), iv = .int .i64 k ∧ k ≤ 20 ∧ Db w B a len cap wr tv l (20 - k)) (fun iv _ _ => (intOf iv).toNat)
  case atStart => exact ⟨m, [], rfl, hm, D1.out.mono (by omega)⟩
  case round =>
    obtain ⟨k, l, rfl, hk, hd⟩ := hrel
    have D2 := hideD hd
    clear hd D1
    by_cases hlt : 0 < k
    · obtain ⟨kp, hkp⟩ : ∃ kp, k = kp + 1 := ⟨k - 1, by omega⟩
      have ek : (k : Int) - 1 = (kp : Int) := by omega
      have HK := hideD hkp
      have hkz : (0 : Int) < (k : Int) := by omega
      clear hkp
      go_wp2_with fail
      refine (n_any B a len cap 2 _ hl (by omega) D2.out.src).mono ?_
      rintro e w3 ⟨r3, rfl, q0, q1, hs3, ho3⟩
      have D3 := hideD (D2.out.only hs3 ho3)
      have hz3 := D3.out.aft.size
      have hle := D3.out.le
      have hr3 : r3 ≤ 1 := by omega
      have hw3 : (48 + r3) % 256 = 48 + r3 := by omega
      clear hs3 ho3 D2 q1
      go_wp2_with (at_builtin; refine wpList_append_own0 _ rfl (.tmp 12) (.tmp 17) 22 rfl w.heap.size 5 i0 (.int .u8 0) 1 1 Try.underlying22 hi0 hz0 hz1 hz2 rfl (by decide) _ l.length (l.map bv) rfl (Own0.alloc D3.out.own _) ⟨w3.heap.size, 0, none⟩ 1 1 [.int .u8 (48 + r3)] rfl rfl (one_newB _ _ _) (one_cellB _) (by decide) (by unfold maxLen; omega) (by omega) (by simp; omega) ?_)
      intro v7 w7 hown hbel
      have D7 := hideD (D3.out.app (by omega) (by omega) hown hbel)
      clear hown hbel
      go_wp2_with fail
      go_roundw
      case rel => exact ⟨kp, _, by go_num, by have := HK.out; omega, D7.out.mono (by have := HK.out; omega)⟩
      case measure => have := HK.out; simp [intOf]; omega
    · obtain rfl : k = 0 := by omega
      go_wp2_with fail
      refine (one_any B a len cap 15 _ hl (by omega) D2.out.src).mono ?_
      rintro e w4 ⟨r4, rfl, hs4, ho4⟩
      have D4 := hideD (D2.out.only hs4 ho4)
      have hz4 := D4.out.aft.size
      have hle := D4.out.le
      clear hs4 ho4 D2
      cases r4 with
      | false =>
        have hcv := own0_string (P := Try.prog) (src := 22) (dst := 9) l D4.out.own Try.underlying22 Try.underlying5 Try.underlying9
        go_wp2_with fail
        go_ret
        exact ⟨⟨l.toArray⟩, by show l.toArray.size ≤ 22; rw [List.size_toArray]; omega, rfl, D4.out.src, D4.out.aft⟩
      | true =>
        go_wp2_with (at_builtin; refine wpList_append_own0 _ rfl (.tmp 21) (.tmp 22) 22 rfl w.heap.size 5 i0 (.int .u8 0) 1 1 Try.underlying22 hi0 hz0 hz1 hz2 rfl (by decide) _ l.length (l.map bv) rfl (Own0.alloc D4.out.own _) ⟨w4.heap.size, 0, none⟩ 1 1 [.int .u8 120] rfl rfl (one_newB _ _ _) (one_cellB _) (by decide) (by unfold maxLen; omega) (by omega) (by simp; omega) ?_)
        intro v7 w7 hown hbel
        have D7 := hideD (D4.out.app (by omega) (by omega) hown hbel)
        clear hown hbel
        have hcv := own0_string (P := Try.prog) (src := 22) (dst := 9) _ D7.out.own Try.underlying22 Try.underlying5 Try.underlying9
        have hl7 := D7.out.le
        generalize l ++ [UInt8.ofNat (120 : Int).toNat] = l7 at D7 hcv hl7
        go_wp2_with fail
        go_ret
        exact ⟨⟨l7.toArray⟩, by show l7.toArray.size ≤ 22; rw [List.size_toArray]; omega, rfl, D7.out.src, D7.out.aft⟩

/-- a draw out of a new source -/
theorem Aft.all {B : Nat} {w w1 w2 : World} (hB : w.heap.size = B) (hb : Below B w w1) (ha : Aft B w1 w2) : Below w.heap.size w w2 := by
  subst hB
  exact ha.below hb (Nat.le_refl _) hb.size

set_option maxHeartbeats 1000000 in
theorem drawLen_any (a : Option Addr) (len cap : Nat) (w : World) (hl : len ≤ 1048576) (hr : Row w w.heap.size a len) :
    Calls Try.prog 8 #[.slice a len cap] w fun e w' => ∃ v l, e = .returned v ∧ OwnI w' w.heap.size v l ∧ l.length ≤ 20 ∧ Below w.heap.size w w' := by
  have HR := hideD hr
  clear hr
  go_enter Try.func8, Try.ntmps8
  go_wp2_with fail
  refine (source_any a len cap _ hl HR.out).mono ?_
  rintro e w1 ⟨rfl, hs1, hb1, hz⟩
  have HS1 := hideD hs1
  have HB1 := hideD hb1
  have z1 := hb1.size
  clear hs1 hb1 hz
  go_wp2_with fail
  refine (counts4_any w.heap.size a len cap _ hl HS1.out).mono ?_
  rintro e w2 ⟨v, l, rfl, hd⟩
  have HX : Hid (OwnI w2 w.heap.size v l ∧ l.length ≤ 20 ∧ Below w.heap.size w w2) := ⟨hd.own.mono z1, hd.le, hd.aft.below HB1.out (Nat.le_refl _) z1⟩
  clear hd
  go_wp2_with fail
  go_ret
  first | exact ⟨_, l, rfl, HX.out⟩ | exact ⟨_, rfl, l, HX.out⟩
set_option maxHeartbeats 1000000 in
theorem drawWhole_any (a : Option Addr) (len cap : Nat) (w : World) (hl : len ≤ 1048576) (hr : Row w w.heap.size a len) :
    Calls Try.prog 10 #[.slice a len cap] w fun e w' => ∃ v l, e = .returned v ∧ OwnI w' w.heap.size v l ∧ l.length ≤ 20 ∧ Below w.heap.size w w' := by
  have HR := hideD hr
  clear hr
  go_enter Try.func10, Try.ntmps10
  go_wp2_with fail
  refine (source_any a len cap _ hl HR.out).mono ?_
  rintro e w1 ⟨rfl, hs1, hb1, hz⟩
  have HS1 := hideD hs1
  have HB1 := hideD hb1
  have z1 := hb1.size
  clear hs1 hb1 hz
  go_wp2_with fail
  refine (lengths4_any w.heap.size a len cap _ hl HS1.out).mono ?_
  rintro e w2 ⟨v, l, rfl, hd⟩
  have HX : Hid (OwnI w2 w.heap.size v l ∧ l.length ≤ 20 ∧ Below w.heap.size w w2) := ⟨hd.own.mono z1, hd.le, hd.aft.below HB1.out (Nat.le_refl _) z1⟩
  clear hd
  go_wp2_with fail
  go_ret
  first | exact ⟨_, l, rfl, HX.out⟩ | exact ⟨_, rfl, l, HX.out⟩
set_option maxHeartbeats 1000000 in
theorem drawPack_any (a : Option Addr) (len cap : Nat) (w : World) (hl : len ≤ 1048576) (hr : Row w w.heap.size a len) :
    Calls Try.prog 12 #[.slice a len cap] w fun e w' => ∃ s : ByteArray, s.size ≤ 22 ∧ e = .returned (.string s) ∧ Below w.heap.size w w' := by
  have HR := hideD hr
  clear hr
  go_enter Try.func12, Try.ntmps12
  go_wp2_with fail
  refine (source_any a len cap _ hl HR.out).mono ?_
  rintro e w1 ⟨rfl, hs1, hb1, hz⟩
  have HS1 := hideD hs1
  have HB1 := hideD hb1
  have z1 := hb1.size
  clear hs1 hb1 hz
  go_wp2_with fail
  refine (some4_any w.heap.size a len cap _ hl HS1.out).mono ?_
  rintro e w2 ⟨s, hs, rfl, _, ha⟩
  have HX := hideD (ha.below HB1.out (Nat.le_refl _) z1)
  clear ha
  go_wp2_with fail
  go_ret
  exact ⟨s, hs, rfl, HX.out⟩
set_option maxHeartbeats 1000000 in
theorem drawOpen_any (a : Option Addr) (len cap : Nat) (w : World) (hl : len ≤ 1048576) (hr : Row w w.heap.size a len) :
    Calls Try.prog 13 #[.slice a len cap] w fun e w' => ∃ (s : ByteArray) (m : Int), s.size ≤ 5 ∧ e = .returned (.tuple #[.string s, .int .i64 m]) ∧ Below w.heap.size w w' := by
  have HR := hideD hr
  clear hr
  go_enter Try.func13, Try.ntmps13
  go_wp2_with fail
  refine (source_any a len cap _ hl HR.out).mono ?_
  rintro e w1 ⟨rfl, hs1, hb1, hz⟩
  have HS1 := hideD hs1
  have HB1 := hideD hb1
  have z1 := hb1.size
  clear hs1 hb1 hz
  go_wp2_with fail
  refine (n_any w.heap.size a len cap 5 _ hl (by omega) HS1.out).mono ?_
  rintro e w2 ⟨r, rfl, p0, p1, hs2, ho2⟩
  obtain ⟨m, rfl⟩ := Int.eq_ofNat_of_zero_le p0
  have hm : m ≤ 5 := by omega
  have HB2 := hideD (bytes_any w.heap.size a len cap m w2 hl (by omega) hs2)
  have BA2 := hideD (ho2.below HB1.out (Nat.le_refl _))
  have z2 := BA2.out.size
  clear hs2 ho2 p0 p1
  go_wp2_with fail
  refine HB2.out.mono ?_
  rintro e w3 ⟨l, hlen, rfl, hs3, ha3⟩
  have HS3 := hideD hs3
  have BA3 := hideD (ha3.below BA2.out (Nat.le_refl _) z2)
  have hsz : (⟨l.toArray⟩ : ByteArray).size ≤ 5 := by show l.toArray.size ≤ 5; rw [List.size_toArray]; omega
  clear hs3 ha3
  generalize (⟨l.toArray⟩ : ByteArray) = s at hsz ⊢
  have HN := hideD (fun (W : World) (h : Src W w.heap.size a len cap) => n_any w.heap.size a len cap (8 * (s.size : Int) + 3) W hl (by omega) h)
  go_wp2_with fail
  refine (HN.out _ HS3.out).mono ?_
  rintro e w4 ⟨r4, rfl, p0, p1, _, ho4⟩
  have BA4 := hideD (ho4.below BA3.out (Nat.le_refl _))
  clear ho4
  go_wp2_with fail
  go_ret2
  exact ⟨s, _, hsz, rfl, BA4.out⟩

set_option maxHeartbeats 1000000 in
theorem drawPut_any (a : Option Addr) (len cap : Nat) (w : World) (hl : len ≤ 1048576) (hr : Row w w.heap.size a len) :
    Calls Try.prog 14 #[.slice a len cap] w fun e w' => ∃ v l v2 l2, e = .returned (.tuple #[v, v2]) ∧ OwnI w' w.heap.size v l ∧ l.length ≤ 20 ∧ OwnI w' w.heap.size v2 l2 ∧ l2.length ≤ 12 ∧ Below w.heap.size w w' := by
  have HR := hideD hr
  clear hr
  go_enter Try.func14, Try.ntmps14
  go_wp2_with fail
  refine (source_any a len cap _ hl HR.out).mono ?_
  rintro e w1 ⟨rfl, hs1, hb1, hz⟩
  have HS1 := hideD hs1
  have HB1 := hideD hb1
  have z1 := hb1.size
  clear hs1 hb1 hz
  go_wp2_with fail
  refine (lengths4_any w.heap.size a len cap _ hl HS1.out).mono ?_
  rintro e w2 ⟨v, l, rfl, hd⟩
  obtain ⟨x, c, hv⟩ := hd.slice
  subst hv
  have HSY := hideD (symbols4_any w.heap.size a len cap x c l w2 hl hd.le hd.src hd.rowI)
  have D2 := hideD hd
  have hle := hd.le
  have B2 := hideD (hd.aft.below HB1.out (Nat.le_refl _) z1)
  have hB1 := HS1.out.lt
  have z2 := hd.aft.size
  clear hd
  go_wp2_with fail
  refine HSY.out.mono ?_
  rintro e w3 ⟨v3, l3, rfl, hd3⟩
  have HX : Hid (OwnI w3 w.heap.size (.slice x l.length c) l ∧ l.length ≤ 20 ∧ OwnI w3 w.heap.size v3 l3 ∧ l3.length ≤ 12 ∧ Below w.heap.size w w3) := by
    refine ⟨?_, hle, hd3.own.mono (by omega), hd3.le, hd3.aft.below B2.out (Nat.le_refl _) (by omega)⟩
    obtain ⟨h1, h2⟩ := D2.out.own
    refine OwnI.mono ⟨h1, ?_⟩ z1
    rcases h2 with h2 | ⟨g, cap', cur, e1, e2, e3, e4⟩
    · exact .inl h2
    · exact .inr ⟨g, cap', cur, e1, e2, (hd3.aft.block g (Array.getElem?_eq_some_iff.1 e3).1 (by omega)).trans e3, e4⟩
  clear hd3
  go_wp2_with fail
  go_ret2
  exact ⟨_, l, v3, l3, rfl, HX.out⟩
end Go.Proofs.Ytmkpakhpjgocjaa.Dr

/- What is drawn for CodeGet and for BitsOf. -/
namespace Go.Proofs.Ytmkpakhpjgocjaa.Dr
open Go.RowKit
open Go.Proofs.Ytmkpakhpjgocjaa.In (OwnI Ints)
open Go.Proofs.Ytmkpakhpjgocjaa.Bi (putR)

theorem putR_size (l s : List Int) : (putR l s).size ≤ 4800 := by
  by_cases h : 400 < s.length ∨ Bi.whole l = false ∨ ¬ (∀ x ∈ s, Bi.okS l x)
  · rw [show putR l s = ⟨#[]⟩ from if_pos h]
    decide
  · rw [show putR l s = ⟨(Bi.putL l s).toArray⟩ from if_neg h]
    have hw : Bi.whole l = true := by
      cases hq : Bi.whole l with
      | true => rfl
      | false => exact absurd (Or.inr (Or.inl hq)) h
    have h1 := Bi.putL_le l (Bi.whole_ok hw) s
    have h2 : ¬ 400 < s.length := fun x => h (Or.inl x)
    show (Bi.putL l s).toArray.size ≤ 4800
    rw [List.size_toArray]
    omega
theorem own_aft {B base : Nat} {w w' : World} {v : Value} {l : List Int} (h : OwnI w base v l) (ha : Aft B w w') (hB : B < base) : OwnI w' base v l := by
  obtain ⟨h1, h2⟩ := h
  refine ⟨h1, ?_⟩
  rcases h2 with h2 | ⟨g, cap', cur, e1, e2, e3, e4⟩
  · exact .inl h2
  · exact .inr ⟨g, cap', cur, e1, e2, (ha.block g (Array.getElem?_eq_some_iff.1 e3).1 (by omega)).trans e3, e4⟩

set_option maxRecDepth 100000 in
set_option maxHeartbeats 2000000 in
theorem drawGet_any (a : Option Addr) (len cap : Nat) (w : World) (hl : len ≤ 1048576) (hr : Row w w.heap.size a len) :
    Calls Try.prog 16 #[.slice a len cap] w fun e w' => ∃ v l s m, e = .returned (.tuple #[v, .string s, .int .i64 m]) ∧ OwnI w' w.heap.size v l ∧ l.length ≤ 20 ∧ s.size ≤ 5000 ∧ Below w.heap.size w w' := by
  have HR := hideD hr
  clear hr
  go_enter Try.func16, Try.ntmps16
  go_wp2_with fail
  refine (source_any a len cap _ hl HR.out).mono ?_
  rintro e w1 ⟨rfl, hs1, hb1, hz⟩
  have HS1 := hideD hs1
  have HB1 := hideD hb1
  have z1 := hb1.size
  clear hs1 hb1 hz
  go_wp2_with fail
  refine (lengths4_any w.heap.size a len cap _ hl HS1.out).mono ?_
  rintro e w2 ⟨v, l, rfl, hd⟩
  obtain ⟨x, c, hv⟩ := hd.slice
  subst hv
  have HSY := hideD (symbols4_any w.heap.size a len cap x c l w2 hl hd.le hd.src hd.rowI)
  have D2 := hideD hd
  have hle := hd.le
  have B2 := hideD (hd.aft.below HB1.out (Nat.le_refl _) z1)
  have hB1 := HS1.out.lt
  have z2 := hd.aft.size
  clear hd
  go_wp2_with fail
  refine HSY.out.mono ?_
  rintro e w3 ⟨v3, l3, rfl, hd3⟩
  obtain ⟨y, cy, hv3⟩ := hd3.slice
  subst hv3
  have O3 := hideD (own_aft (base := w1.heap.size) D2.out.own hd3.aft hB1)
  have P3 := hideD (hd3.own)
  have S3 := hideD hd3.src
  have B3 := hideD (hd3.aft.below B2.out (Nat.le_refl _) (by omega))
  have z3 := hd3.aft.size
  have hle3 := hd3.le
  have HPUT : Hid (Calls Try.prog 32 #[.slice x l.length c, .slice y l3.length cy] w3 fun e w' => e = .returned (.string (putR l l3)) ∧ Below w3.heap.size w3 w') := by
    obtain ⟨x', c', hvx, _, hi⟩ := O3.out.ints
    obtain ⟨rfl, rfl⟩ : x = x' ∧ c = c' := by simpa using hvx
    obtain ⟨y', cy', hvy, _, hj⟩ := P3.out.ints
    obtain ⟨rfl, rfl⟩ : y = y' ∧ cy = cy' := by simpa using hvy
    exact Bi.put_spec l l3 x y c cy w3 hi hj (by omega) (by omega)
  have hps := putR_size l l3
  clear hd3 D2 HSY P3
  generalize putR l l3 = T at HPUT hps
  go_wp2_with fail
  refine HPUT.out.mono ?_
  rintro e w4 ⟨rfl, hb4⟩
  have O4 := hideD (O3.out.below hb4)
  have S4 := hideD (S3.out.below hb4)
  have B4 := hideD (B3.out.trans (hb4.mono (by omega)))
  have z4 := hb4.size
  clear hb4 O3 S3 B3
  go_wp2_with fail
  refine (some4_any w.heap.size a len cap _ hl S4.out).mono ?_
  rintro e w5 ⟨s, hs, rfl, hs5, ha5⟩
  have O5 := hideD (own_aft O4.out ha5 hB1)
  have S5 := hideD hs5
  have B5 := hideD (ha5.below B4.out (Nat.le_refl _) (by omega))
  have z5 := ha5.size
  clear hs5 ha5 O4 S4 B4
  have hts : (T ++ s).size ≤ 4900 := by rw [ByteArray.size_append]; omega
  have hov : T.size + s.size ≤ 9223372036854775807 := by omega
  go_wp2_with fail
  refine (one_any w.heap.size a len cap 3 _ hl (by omega) S5.out).mono ?_
  rintro e w6 ⟨r6, rfl, hs6, ho6⟩
  have O6 := hideD (owns_only O5.out ho6 hB1)
  have S6 := hideD hs6
  have B6 := hideD (ho6.below B5.out (Nat.le_refl _))
  clear hs6 ho6 O5 S5 B5
  generalize T ++ s = t at hts ⊢
  cases r6 with
  | false =>
    have hsz5 : t.size ≤ 5000 := by omega
    have O7 := O6
    have S7 := S6
    have B7 := B6
    clear O6 S6 B6
    go_wp2_with fail
    refine (one_any w.heap.size a len cap 15 _ hl (by omega) S7.out).mono ?_
    rintro e w8 ⟨r8, rfl, hs8, ho8⟩
    have O8 := hideD (owns_only O7.out ho8 hB1)
    have S8 := hideD hs8
    have B8 := hideD (ho8.below B7.out (Nat.le_refl _))
    have hz8 : w.heap.size < w8.heap.size := hs8.lt
    clear hs8 ho8 O7 S7 B7
    cases r8 with
    | true =>
      have NC : Hid (∀ (W : World) (j : Nat) (u : Int), (#[Value.int .i64 (-1), .int .i64 400, .int .i64 401] : Array Value)[j]? = some (.int .i64 u) → (W.alloc (.cells #[.int .i64 (-1), .int .i64 400, .int .i64 401] 2)).cell? ⟨W.heap.size, j, none⟩ = some (.int .i64 u)) := fun W j u h => (cell_of_row _ _ j _ _ _ (heap_alloc_last W _)).trans h
      have SA := hideD (S8.out.below ((Below.refl _ _).alloc (Nat.le_refl _) (.cells #[.int .i64 (-1), .int .i64 400, .int .i64 401] 2)))
      have OA := hideD (Ze.OwnI.alloc O8.out (.cells #[.int .i64 (-1), .int .i64 400, .int .i64 401] 2))
      have BA := hideD (B8.out.alloc B8.out.size (.cells #[.int .i64 (-1), .int .i64 400, .int .i64 401] 2))
      go_wp2_with fail
      go_region_with (first | (go_at_call 71; (with_reducible refine (n_any w.heap.size a len cap 3 _ hl (by omega) ?_).mono ?_); (· first | exact S8.out | exact SA.out); rintro e w9 ⟨r9, rfl, q0, q1, hs9, ho9⟩; obtain ⟨j, rfl⟩ := Int.eq_ofNat_of_zero_le q0; have hj : j < 3 := (by omega); have hj3 : (j : Int) < 3 := (by omega); obtain ⟨u, hu⟩ := three_cell (-1) 400 401 j hj; have hnc := NC.out w9 j u hu; first | (have hcu := drawn_cell (W := w8) hz8 (show Only w.heap.size (w8.alloc (.cells #[.int .i64 (-1), .int .i64 400, .int .i64 401] 2)) w9 from ho9) hu; have O9 := hideD (owns_only OA.out ho9 hB1); have B9 := hideD (ho9.below BA.out (Nat.le_refl _)); clear ho9 hs9) | (have O9 := hideD (owns_only O8.out ho9 hB1); have B9 := hideD (ho9.below B8.out (Nat.le_refl _)); have O9a := hideD (Ze.OwnI.alloc O9.out (.cells #[.int .i64 (-1), .int .i64 400, .int .i64 401] 2)); have B9a := hideD (B9.out.alloc B9.out.size (.cells #[.int .i64 (-1), .int .i64 400, .int .i64 401] 2)); clear ho9 hs9)))
      all_goals (try go_wp2_with fail)
      all_goals go_ret3
      all_goals first | exact ⟨_, l, _, _, rfl, O9.out.mono z1, hle, hsz5, B9.out⟩ | exact ⟨_, l, _, _, rfl, O9a.out.mono z1, hle, hsz5, B9a.out⟩
    | false =>
      go_wp2_with fail
      refine (n_any w.heap.size a len cap 2 _ hl (by omega) S8.out).mono ?_
      rintro e w9 ⟨r9, rfl, q0, q1, hs9, ho9⟩
      have O9 := hideD (owns_only O8.out ho9 hB1)
      have B9 := hideD (ho9.below B8.out (Nat.le_refl _))
      clear hs9 ho9
      go_wp2_with fail
      go_ret3
      exact ⟨_, l, _, _, rfl, O9.out.mono z1, hle, hsz5, B9.out⟩
  | true =>
    have HN := hideD (fun (W : World) (h : Src W w.heap.size a len cap) => n_any w.heap.size a len cap ((t.size : Int) + 1) W hl (by omega) h)
    go_wp2_with fail
    refine (HN.out _ S6.out).mono ?_
    rintro e w7 ⟨r7, rfl, q0, q1, hs7, ho7⟩
    obtain ⟨k, rfl⟩ := Int.eq_ofNat_of_zero_le q0
    have hk : (k : Int) ≤ (t.size : Int) := by omega
    have hte : (t.extract 0 k).size ≤ 5000 := by rw [ByteArray.size_extract]; omega
    have O7 := hideD (owns_only O6.out ho7 hB1)
    have S7 := hideD hs7
    have B7 := hideD (ho7.below B6.out (Nat.le_refl _))
    clear hs7 ho7 O6 S6 B6 q0 q1
    go_wp2_with fail
    generalize t.extract 0 k = t7 at hte ⊢
    have hsz5 := hte
    skip
    refine (one_any w.heap.size a len cap 15 _ hl (by omega) S7.out).mono ?_
    rintro e w8 ⟨r8, rfl, hs8, ho8⟩
    have O8 := hideD (owns_only O7.out ho8 hB1)
    have S8 := hideD hs8
    have B8 := hideD (ho8.below B7.out (Nat.le_refl _))
    have hz8 : w.heap.size < w8.heap.size := hs8.lt
    clear hs8 ho8 O7 S7 B7
    cases r8 with
    | true =>
      have NC : Hid (∀ (W : World) (j : Nat) (u : Int), (#[Value.int .i64 (-1), .int .i64 400, .int .i64 401] : Array Value)[j]? = some (.int .i64 u) → (W.alloc (.cells #[.int .i64 (-1), .int .i64 400, .int .i64 401] 2)).cell? ⟨W.heap.size, j, none⟩ = some (.int .i64 u)) := fun W j u h => (cell_of_row _ _ j _ _ _ (heap_alloc_last W _)).trans h
      have SA := hideD (S8.out.below ((Below.refl _ _).alloc (Nat.le_refl _) (.cells #[.int .i64 (-1), .int .i64 400, .int .i64 401] 2)))
      have OA := hideD (Ze.OwnI.alloc O8.out (.cells #[.int .i64 (-1), .int .i64 400, .int .i64 401] 2))
      have BA := hideD (B8.out.alloc B8.out.size (.cells #[.int .i64 (-1), .int .i64 400, .int .i64 401] 2))
      go_wp2_with fail
      go_region_with (first | (go_at_call 71; (with_reducible refine (n_any w.heap.size a len cap 3 _ hl (by omega) ?_).mono ?_); (· first | exact S8.out | exact SA.out); rintro e w9 ⟨r9, rfl, q0, q1, hs9, ho9⟩; obtain ⟨j, rfl⟩ := Int.eq_ofNat_of_zero_le q0; have hj : j < 3 := (by omega); have hj3 : (j : Int) < 3 := (by omega); obtain ⟨u, hu⟩ := three_cell (-1) 400 401 j hj; have hnc := NC.out w9 j u hu; first | (have hcu := drawn_cell (W := w8) hz8 (show Only w.heap.size (w8.alloc (.cells #[.int .i64 (-1), .int .i64 400, .int .i64 401] 2)) w9 from ho9) hu; have O9 := hideD (owns_only OA.out ho9 hB1); have B9 := hideD (ho9.below BA.out (Nat.le_refl _)); clear ho9 hs9) | (have O9 := hideD (owns_only O8.out ho9 hB1); have B9 := hideD (ho9.below B8.out (Nat.le_refl _)); have O9a := hideD (Ze.OwnI.alloc O9.out (.cells #[.int .i64 (-1), .int .i64 400, .int .i64 401] 2)); have B9a := hideD (B9.out.alloc B9.out.size (.cells #[.int .i64 (-1), .int .i64 400, .int .i64 401] 2)); clear ho9 hs9)))
      all_goals (try go_wp2_with fail)
      all_goals go_ret3
      all_goals first | exact ⟨_, l, _, _, rfl, O9.out.mono z1, hle, hsz5, B9.out⟩ | exact ⟨_, l, _, _, rfl, O9a.out.mono z1, hle, hsz5, B9a.out⟩
    | false =>
      go_wp2_with fail
      refine (n_any w.heap.size a len cap 2 _ hl (by omega) S8.out).mono ?_
      rintro e w9 ⟨r9, rfl, q0, q1, hs9, ho9⟩
      have O9 := hideD (owns_only O8.out ho9 hB1)
      have B9 := hideD (ho9.below B8.out (Nat.le_refl _))
      clear hs9 ho9
      go_wp2_with fail
      go_ret3
      exact ⟨_, l, _, _, rfl, O9.out.mono z1, hle, hsz5, B9.out⟩
end Go.Proofs.Ytmkpakhpjgocjaa.Dr

/- Plain facts for the law FnCode. -/
namespace Go.Proofs.Ytmkpakhpjgocjaa.fnCode
open Go.RowKit
open Go.Proofs.Ytmkpakhpjgocjaa.In (Ints OwnI)
open Go.Proofs.Ytmkpakhpjgocjaa.Hf (lensR nats lenOf dep up up_at up_length up_nats lenOf_facts)
open Go.Proofs.Ytmkpakhpjgocjaa.Bi (within within_yes packR packV openR putR getR putL whole okS)

theorem hideC {p : Prop} (h : p) : Hid p := h
theorem empty_of {s : ByteArray} (h : s.toList.isEmpty = false) : s ≠ ⟨#[]⟩ := by
  rintro rfl
  simp [ByteArray.toList_eq] at h
theorem lensR_len (lc : List Int) : (lensR lc).length ≤ lc.length := by
  unfold lensR
  split
  · rename_i h
    rw [up_length, (lenOf_facts (nats lc) (by unfold nats; rw [List.length_map]; exact (within_yes h).1)).1]
    unfold nats
    rw [List.length_map]
    exact Nat.le_refl _
  · simp
theorem getR_len (l : List Int) (t : ByteArray) (m : Int) : (getR l t m).1.length ≤ 400 := Bi.getR_length l t m
theorem codesR_len (l : List Int) (h : l.length ≤ 1048576) : (Bi.codesR l).length ≤ 1048576 := by
  unfold Bi.codesR
  split
  · rw [Bi.codesV_length]
    exact h
  · simp
theorem getD_nats {lc : List Int} (h : within lc 10000 = true) (j : Nat) : (nats lc).getD j 0 ≤ 10000 := by
  have hall : ∀ x ∈ nats lc, x ≤ 10000 := by
    intro x hx
    obtain ⟨y, hy, rfl⟩ := List.mem_map.1 hx
    have := (within_yes h).2 y hy
    omega
  rw [List.getD_eq_getElem?_getD]
  cases hj : (nats lc)[j]? with
  | none => simp
  | some x => exact hall x (List.mem_of_getElem? hj)
theorem cell_up {c : List Nat} {l : List Int} {W : World} {b off : Nat} (he : l = up c) (hc : ∀ j (h : j < l.length), W.cell? ⟨b, off + j, none⟩ = some (.int .i64 l[j])) (j : Nat) (hj : j < c.length) : W.cell? ⟨b, off + j, none⟩ = some (.int .i64 (c.getD j 0 : Nat)) := by
  subst he
  rw [hc j (by rw [up_length]; exact hj), up_at c j hj]
theorem code_rows {lc : List Int} {n5 n6 : Nat} {a5 a6 : Option Addr} {wz : World} (hn5 : n5 = lc.length) (hn6 : n6 = (lensR lc).length) (h20 : n5 ≤ 20) (i5 : Ints wz wz.heap.size a5 lc) (i6 : Ints wz wz.heap.size a6 (lensR lc)) (h0 : 0 < n6) :
    n6 = n5 ∧ ∃ b off b' off', a5 = some ⟨b, off, none⟩ ∧ a6 = some ⟨b', off', none⟩ ∧ (nats lc).length = n6 ∧ (∀ j, (nats lc).getD j 0 ≤ 10000) ∧ ∀ W, Below wz.heap.size wz W → ∀ j, j < n6 → W.cell? ⟨b, off + j, none⟩ = some (.int .i64 ((nats lc).getD j 0 : Nat)) ∧ W.cell? ⟨b', off' + j, none⟩ = some (.int .i64 (dep (lenOf (nats lc)) j : Nat)) := by
  have hw : within lc 10000 = true := by
    cases h : within lc 10000 with
    | true => rfl
    | false =>
      rw [hn6] at h0
      unfold lensR at h0
      rw [h] at h0
      simp at h0
  have hr : lensR lc = up (lenOf (nats lc)) := if_pos hw
  have hnl : (nats lc).length = lc.length := by unfold nats; rw [List.length_map]
  have hll : (lenOf (nats lc)).length = lc.length := by rw [(lenOf_facts (nats lc) (by omega)).1, hnl]
  have h56 : n6 = n5 := by rw [hn6, hr, up_length, hll, hn5]
  obtain ⟨b, off, e1, k1, c1⟩ := i5.some (by omega)
  obtain ⟨b', off', e2, k2, c2⟩ := i6.some (by omega)
  refine ⟨h56, b, off, b', off', e1, e2, by omega, getD_nats hw, fun W hW j hj => ⟨?_, ?_⟩⟩
  · rw [hW.cell (p := ⟨b, off + j, none⟩) k1]
    exact cell_up (up_nats lc 10000 hw).symm c1 j (by omega)
  · rw [hW.cell (p := ⟨b', off' + j, none⟩) k2]
    exact cell_up hr c2 j (by omega)
theorem sum_take (c : List Nat) (i : Nat) : (c.take (i + 1)).sum = (c.take i).sum + c.getD i 0 := by
  rw [List.getD_eq_getElem?_getD]
  by_cases h : i < c.length
  · rw [List.take_succ_eq_append_getElem h, List.sum_append, List.getElem?_eq_getElem h]
    simp
  · rw [List.take_of_length_le (by omega), List.take_of_length_le (by omega), List.getElem?_eq_none (by omega)]
    simp
theorem pack_back {t : ByteArray} (h : t.size ≤ 8000) (hne : (packR t).toList.isEmpty = false) : openR (packR t) t.size = t ∧ (packR t).size ≤ 1001 := by
  have h1 : ¬ (8000 < t.size ∨ Bi.good t = false) := fun q => empty_of hne (if_pos q)
  have h2 : Bi.good t = true := by
    cases q : Bi.good t with
    | true => rfl
    | false => exact absurd (.inr q) h1
  have h3 : packR t = packV t := if_neg h1
  rw [h3]
  refine ⟨Bi.open_pack h2 h, ?_⟩
  rw [Bi.packV_size]
  omega
theorem putR_le (l s : List Int) : (putR l s).size ≤ 4800 := by
  exact Dr.putR_size l s
theorem put_back {l s : List Int} {t : ByteArray} (ht : t = putR l s) (hne : t.toList.isEmpty = false) : getR l t (s.length : Int) = (s, (t.size : Int), 0) := by
  have hn := empty_of hne
  have hz := putR_le l s
  rw [← ht] at hz
  have h1 : ¬ (400 < s.length ∨ whole l = false ∨ ¬ (∀ x ∈ s, okS l x)) := fun q => hn (ht.trans (if_pos q))
  have h2 : putR l s = ⟨(putL l s).toArray⟩ := if_neg h1
  have hw : whole l = true := by
    cases q : whole l with
    | true => rfl
    | false => exact absurd (.inr (.inl q)) h1
  have ho : ∀ x ∈ s, okS l x := Classical.byContradiction fun q => h1 (.inr (.inr q))
  have hs : s.length ≤ 400 := Nat.le_of_not_lt fun q => h1 (.inl q)
  have e : t.data.toList = putL l s ++ [] := by rw [ht, h2]; simp
  have := Bi.get_put hw ho hs (z := []) e (by omega) (by rw [ht, h2]; exact Bi.put_good l s)
  rw [this]
  have : t.size = (putL l s).length := by
    show t.data.size = _
    rw [← Array.length_toList, e]
    simp
  rw [this]
end Go.Proofs.Ytmkpakhpjgocjaa.fnCode
