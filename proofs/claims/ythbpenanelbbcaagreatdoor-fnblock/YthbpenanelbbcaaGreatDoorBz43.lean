/- Texts put together: DrawCn, FrontBS, DrawCm, PutSpec, DrawCs, DrawCg, DrawBo. -/
import Derived.Test.YthbpenanelbbcaaGreatDoorBz39
import Derived.Test.YthbpenanelbbcaaGreatDoorBz20
import Derived.Test.YthbpenanelbbcaaGreatDoorBz42
import Derived.Test.YthbpenanelbbcaaGreatDoorBz37
import Derived.Test.YthbpenanelbbcaaGreatDoorBz19
import Derived.Test.YthbpenanelbbcaaGreatDoorBz31
import Derived.Deep.CutRange
import Derived.Deep.RegionWith
import Derived.BigRegion
/- What is drawn for lengths: some counts; weak on purpose: at most 20 numbers. -/
namespace Go.Proofs.YthbpenanelbbcaaGreatDoor.Dr
open Go.RowKit
open Go.Proofs.YthbpenanelbbcaaGreatDoor.In (OwnI one_newI one_cellI)
open Go.Proofs.YthbpenanelbbcaaGreatDoor.In.Tryz (infoI2)
structure Dn (w : World) (B : Nat) (a : Option Addr) (len cap : Nat) (W : World) (v : Value) (l : List Int) (n : Nat) : Prop where
 own : OwnI W w.heap.size v l
 le : l.length ≤ n
 src : Src W B a len cap
 aft : Aft B w W
 hB : B < w.heap.size
theorem Aft.low {B : Nat} {w a b : World} (h : Aft B w a) (k : Below w.heap.size a b) : Aft B w b :=
 ⟨k.os.trans h.os, k.tape.trans h.tape, k.output.trans h.output, Nat.le_trans h.size k.size, fun i hi hn => (k.block i hi).trans (h.block i hi hn)⟩
theorem Dn.only {w : World} {B : Nat} {a : Option Addr} {len cap : Nat} {W W' : World} {v : Value} {l : List Int} {n : Nat} (h : Dn w B a len cap W v l n) (hs : Src W' B a len cap) (ho : Only B W W') : Dn w B a len cap W' v l n :=
 ⟨owns_only h.own ho h.hB, h.le, hs, h.aft.trans ho.aft, h.hB⟩
theorem Dn.alloc {w : World} {B : Nat} {a : Option Addr} {len cap : Nat} {W : World} {v : Value} {l : List Int} {n : Nat} (h : Dn w B a len cap W v l n) (o : Obj) : Dn w B a len cap (W.alloc o) v l n :=
 ⟨Ze.OwnI.alloc h.own o, h.le, h.src.below ((Below.refl _ _).alloc (Nat.le_refl _) o), h.aft.trans (aft_below ((Below.refl _ _).alloc (Nat.le_refl _) o)), h.hB⟩
theorem Dn.below {w : World} {B : Nat} {a : Option Addr} {len cap : Nat} {W W' : World} {v : Value} {l : List Int} {n : Nat} (h : Dn w B a len cap W v l n) (hb : Below W.heap.size W W') : Dn w B a len cap W' v l n :=
 ⟨h.own.below hb, h.le, h.src.below hb, h.aft.trans (aft_below hb), h.hB⟩
theorem Dn.new {w : World} {B : Nat} {a : Option Addr} {len cap : Nat} {W : World} (n : Nat) (hs : Src W B a len cap) (ha : Aft B w W) (hB : B < w.heap.size) : Dn w B a len cap (W.alloc (.cells #[] 2)) (.slice (some ⟨W.heap.size, 0, none⟩) 0 0) [] n :=
 ⟨(Hf.own_none W).mono ha.size, Nat.zero_le _, hs.below ((Below.refl _ _).alloc (Nat.le_refl _) _), ha.trans (aft_below ((Below.refl _ _).alloc (Nat.le_refl _) _)), hB⟩
theorem Dn.mono {w : World} {B : Nat} {a : Option Addr} {len cap : Nat} {W : World} {v : Value} {l : List Int} {n m : Nat} (h : Dn w B a len cap W v l n) (hm : n ≤ m) : Dn w B a len cap W v l m := ⟨h.own, Nat.le_trans h.le hm, h.src, h.aft, h.hB⟩
theorem Dn.slice {w : World} {B : Nat} {a : Option Addr} {len cap : Nat} {W : World} {v : Value} {l : List Int} {n : Nat} (h : Dn w B a len cap W v l n) : ∃ x c, v = .slice x l.length c := by
 obtain ⟨x, c, hv, _, _⟩ := h.own.ints
 exact ⟨x, c, hv⟩
end Go.Proofs.YthbpenanelbbcaaGreatDoor.Dr


/- What the specification's FrontBack answers. -/
namespace Go.Proofs.YthbpenanelbbcaaGreatDoor.Fr
open Go.RowKit
open Go.Proofs.YthbpenanelbbcaaGreatDoor.Sh (IsB rowF upd made_row strF)
open Go.Proofs.YthbpenanelbbcaaGreatDoor.Ze (hideZ numsR upTo upTo_yes numsR_of numsR_long numsR_yes nums_spec)
open Go.Proofs.YthbpenanelbbcaaGreatDoor.St (Aft)
open Go.Proofs.YthbpenanelbbcaaGreatDoor.In (Ints)
open Go.Proofs.YthbpenanelbbcaaGreatDoor.Nu (ret_strJ bv own_string app_below)
open Go.Proofs.YthbpenanelbbcaaGreatDoor.Ap (Own0 wpList_append_own0)
def Own0B (w : World) (base : Nat) (v : Value) (l : List UInt8) : Prop := Own0 w base 5 1 v l.length (l.map bv)
theorem own0_string {P : Program} {w : World} {base src dst : TypeId} {v : Value} (l : List UInt8) (h : Own0B w base v l)
  (hs : P.underlying src = some (.slice 5)) (he : P.underlying 5 = some (.int .u8)) (hd : P.underlying dst = some .string) :
  (convert src dst v).run P w = .ok (.string ⟨l.toArray⟩) w := by
 rcases h with ⟨b, rfl, h0, _⟩ | h
 ·obtain rfl : l = [] := List.eq_nil_of_length_eq_zero h0
  exact run_convert_bytes_back w src dst 5 b 0 [] hs he hd (by intro j hj; exact absurd hj (Nat.not_lt_zero j))
 ·exact own_string l h hs he hd
theorem one_newB (W : World) (s : Int) (t : TypeId) : ∀ (j : Nat) (u : Value), [(Value.int .u8) s][j]? = some u → (W.alloc (.cells #[.int .u8 s] t)).cell? ((⟨W.heap.size, 0, none⟩ : Addr).add j) = some u := by
 intro j u hj
 match j, hj with
 | 0, hj => simp at hj; subst hj; simp [Addr.add]
theorem one_cellB (s : Int) : ∀ u ∈ [(Value.int .u8) s], u.oneCell' = true := by
 intro u hu
 simp at hu
 subst hu
 rfl
theorem own0B_snoc {w : World} {base : Nat} {v : Value} {l : List UInt8} {x : Int} (h0 : 0 ≤ x) (h1 : x < 256) (h : w.ownsRow base 5 1 v (l.length + 1) (l.map bv ++ [.int .u8 x])) : Own0B w base v (l ++ [UInt8.ofNat x.toNat]) := by
 refine .inr ?_
 have e : bv (UInt8.ofNat x.toNat) = .int .u8 x := by
  simp [bv]
  omega
 rw [List.length_append, List.map_append, List.map_singleton, e]
 exact h
set_option maxRecDepth 100000 in
set_option maxHeartbeats 1000000 in
theorem frontBack_spec (l : List Int) (a : Option Addr) (cap B : Nat) (w : World) (hi : Ints w B a l) (hB : B ≤ w.heap.size) (hn : l.length ≤ 1048576) :
  Calls Tryz.prog 65 #[.slice a l.length cap] w fun e w' => e = .returned (.string ⟨(fbackR l).toArray⟩) ∧ Below w.heap.size w w' := by
 obtain ⟨i0, hi0, hz0, hz1, hz2⟩ := info_parts Nu.Tryz.infoJ5
 have HS := hideZ (hi.mono hB)
 have HU := hideZ (fun W (hW : Below w.heap.size w W) => nums_spec l 255 a cap w.heap.size W ((hi.mono hB).below hW) hn)
 have hb0 : Below w.heap.size w (w.alloc (.cells #[] 5)) := (Below.refl _ _).alloc (Nat.le_refl _) _
 have HB0 := hideZ hb0
 have HRS := hideZ (row_spec (w.alloc (.cells #[] 5)))
 have zs : (w.alloc (.cells #[] 5)).heap.size = w.heap.size + 1 := by simp
 rw [zs] at HRS
 clear hi hb0 zs
 cases hu : numsR l 255 with
 | false =>
  rw [fbackR_no hu]
  rw [hu] at HU
  clear hu
  generalize l.length = n at HU hn ⊢
  go_enter Tryz.func65, Tryz.ntmps65
  go_wp2_with fail
  refine HRS.out.mono ?_
  rintro e w1 ⟨rfl, hr1, hb1⟩
  have HB1 := hideZ (HB0.out.trans (hb1.mono (by omega)))
  have H0 : Hid (Own0B w1 (w.heap.size + 2) (.slice (some ⟨w.heap.size, 0, none⟩) 0 0) []) := .inl ⟨_, rfl, rfl, rfl⟩
  have hcv := own0_string (P := Tryz.prog) (src := 22) (dst := 9) [] H0.out Tryz.underlying22 Tryz.underlying5 Tryz.underlying9
  clear hr1 hb1
  by_cases h0 : 0 < n
  ·have hd0 : decide ((0 : Int) < (n : Int)) = true := decide_eq_true (by omega)
   go_wp2_with fail
   go_loopw [5, 3] (fun i u wr => i = .int .i64 0 ∧ u = .slice (some ⟨w.heap.size, 0, none⟩) 0 0 ∧ wr = w1) (fun _ _ _ => 0)
   case atStart => exact ⟨rfl, rfl, rfl⟩
   case round =>
    obtain ⟨rfl, rfl, rfl⟩ := hrel
    go_wp2_with fail
    refine (HU.out _ HB1.out).mono ?_
    rintro e w' ⟨rfl, hw⟩
    subst w'
    go_wp2_with fail
    go_ret
    exact ⟨rfl, HB1.out⟩
  ·have hd0 : decide ((0 : Int) < (n : Int)) = false := decide_eq_false (by omega)
   go_wp2_with fail
   go_loopw [5, 3] (fun i u wr => i = .int .i64 0 ∧ u = .slice (some ⟨w.heap.size, 0, none⟩) 0 0 ∧ wr = w1) (fun _ _ _ => 0)
   case atStart => exact ⟨rfl, rfl, rfl⟩
   case round =>
    obtain ⟨rfl, rfl, rfl⟩ := hrel
    go_wp2_with fail
    go_ret
    exact ⟨rfl, HB1.out⟩
 | true =>
  rw [fbackR_yes hu]
  have HUP := hideZ (upTo_yes (numsR_yes hu).2)
  have hlong := (numsR_yes hu).1
  rw [hu] at HU
  clear hu
  obtain ⟨n, hln⟩ : ∃ n, n = l.length := ⟨_, rfl⟩
  have HLN := hideZ hln
  rw [← hln] at HU hlong ⊢
  clear hln hn
  go_enter Tryz.func65, Tryz.ntmps65
  go_wp2_with fail
  refine HRS.out.mono ?_
  rintro e w1 ⟨rfl, hr1, hb1⟩
  have HB1 := hideZ (HB0.out.trans (hb1.mono (by omega)))
  have HR1 := hideZ hr1
  have hg1 := hr1.lt
  clear hr1 hb1 HRS
  go_wp2_with fail
  go_loopw [5, 3] (fun i u wr => ∃ k : Nat, i = .int .i64 k ∧ k ≤ n ∧ IsB wr (w.heap.size + 1) 5 .u8 256 (kst (l.take k)).2 ∧ Own0B wr (w.heap.size + 2) u (kst (l.take k)).1 ∧ Below w.heap.size w wr) (fun i _ _ => n - (intOf i).toNat)
  case atStart => exact ⟨0, rfl, Nat.zero_le _, HR1.out, .inl ⟨_, rfl, rfl, rfl⟩, HB1.out⟩
  case round =>
   obtain ⟨k, rfl, hk, hrow, hown, hbel⟩ := hrel
   obtain ⟨hfull, hlen⟩ := kst_full l HUP.out k (by have := HLN.out; omega)
   have R1 := hideZ hrow
   have O1 := hideZ hown
   have GB := hideZ hbel
   have hgs := hrow.lt
   clear hbel
   by_cases hlt : k < n
   ·have hd0 : decide ((k : Int) < (n : Int)) = true := decide_eq_true (by omega)
    have hkl : k < l.length := by rw [← HLN.out]; exact hlt
    obtain ⟨b, off, rfl, hb, hc⟩ := (HS.out.below GB.out).some (by omega)
    have ci := hc k hkl
    have HC : Hid (∀ W : World, Below w.heap.size w W → W.cell? ⟨b, off + k, none⟩ = some (.int .i64 l[k])) := fun W hW => by
     obtain ⟨b', off', e1, _, hc'⟩ := ((HS.out.below hW).some (by omega : 0 < l.length))
     cases e1
     exact hc' k hkl
    have hx255 := HUP.out _ (List.getElem_mem hkl)
    have HM := hideZ (kst_more hkl)
    obtain ⟨x, hx⟩ : ∃ x, x = l[k] := ⟨_, rfl⟩
    rw [← hx] at ci hx255 HM HC
    obtain ⟨p, rfl⟩ : ∃ p : Nat, x = p := ⟨x.toNat, by omega⟩
    have hp : p < 256 := by omega
    have hfp := hfull.2 p hp
    rw [Int.toNat_natCast] at HM
    obtain ⟨f, hf⟩ : ∃ f, f = (kst (l.take k)).2 := ⟨_, rfl⟩
    obtain ⟨bs, hbs⟩ : ∃ bs, bs = (kst (l.take k)).1 := ⟨_, rfl⟩
    rw [← hf] at R1 HM hrow hfp
    rw [← hbs] at O1 HM hlen hown
    have c1 := hrow.cell (j := p) hp
    obtain ⟨y, hy⟩ : ∃ y, y = f p := ⟨_, rfl⟩
    rw [← hy] at c1 hfp HM
    have HFP := hideZ hfp
    have HL := hideZ hlen
    clear hc hx hf hbs hrow hown hfull hlen hy hfp
    go_wp2_with fail
    refine (HU.out _ GB.out).mono ?_
    rintro e w' ⟨rfl, hw⟩
    subst w'
    go_wp2_with (at_builtin; refine wpList_append_own0 _ rfl (.tmp 18) (.tmp 26) 22 rfl (w.heap.size + 2) 5 i0 (.int .u8 0) 1 1 Tryz.underlying22 hi0 hz0 hz1 hz2 rfl (by decide) _ bs.length (bs.map bv) rfl (Own0.alloc O1.out _) ⟨wr.heap.size, 0, none⟩ 1 1 [.int .u8 y] rfl rfl (one_newB _ _ _) (one_cellB _) (by decide) (by unfold maxLen; have := HL.out; omega) (by have := HL.out; omega) (by simp; omega) ?_)
    intro v' w5 hown' hb5
    have N5 := hideZ (own0B_snoc HFP.out.1 HFP.out.2 hown')
    have ba : Below (w.heap.size + 2) wr w5 := ((Below.refl (w.heap.size + 2) wr).alloc (by omega) _).trans (hb5 _ (Nat.le_refl _))
    have R5 := hideZ (R1.out.below ba (by omega))
    have B5 := hideZ (GB.out.trans (ba.mono (by omega)))
    have c5 := HC.out w5 B5.out
    have HFS := hideZ (front_spec (w.heap.size + 1) p 256 5 f w5 R5.out hp)
    have z5 := ba.size
    clear hown' hb5 ba ci c1
    go_wp2_with fail
    refine HFS.out.mono ?_
    rintro e w6 ⟨rfl, hr6, ha6⟩
    have R6 := hideZ hr6
    have N6 := hideZ (N5.out.keep (fun j hj1 hj2 => ha6.2.2.2.2 j hj2 (by omega)))
    have B6 := hideZ (Aft.below B5.out ha6 (by omega) (by omega))
    clear hr6 ha6
    go_wp2_with fail
    go_roundw
    case rel => exact ⟨k + 1, by go_num, by omega, by rw [HM.out]; exact R6.out, by rw [HM.out]; exact N6.out, B6.out⟩
    case measure => simp [intOf]; omega
   ·have hd0 : decide ((k : Int) < (n : Int)) = false := decide_eq_false (by omega)
    obtain rfl : k = n := by omega
    have HT : Hid (l.take k = l) := by
     unfold Hid
     rw [HLN.out, List.take_length]
    rw [HT.out] at hown
    have hcv := own0_string (P := Tryz.prog) (src := 22) (dst := 9) _ hown Tryz.underlying22 Tryz.underlying5 Tryz.underlying9
    clear hrow hown hfull hlen
    go_wp2_with fail
    go_ret
    exact ⟨rfl, GB.out⟩
end Go.Proofs.YthbpenanelbbcaaGreatDoor.Fr


/- What is drawn for codes: lengths, symbols, bits; weak on purpose. -/
namespace Go.Proofs.YthbpenanelbbcaaGreatDoor.Dr
open Go.RowKit
open Go.Proofs.YthbpenanelbbcaaGreatDoor.In (OwnI IsO Ints one_newI one_cellI)
open Go.Proofs.YthbpenanelbbcaaGreatDoor.In.Tryz (infoI2)
open Go.Proofs.YthbpenanelbbcaaGreatDoor.Hf (lensR)
theorem ownI_set {W : World} {base : Nat} {v : Value} {l : List Int} (h : OwnI W base v l) (j : Nat) (u : Int) (hj : j < l.length) : ∃ g c, v = .slice (some ⟨g, 0, none⟩) l.length c ∧ base ≤ g ∧ g < W.heap.size ∧ W.cell? ⟨g, j, none⟩ = some (.int .i64 l[j]) ∧ W.frozen? ⟨g, j, none⟩ = false ∧ OwnI (W.setCell ⟨g, j, none⟩ (.int .i64 u)) base v (l.set j u) := by
 have hs := h.split
 obtain ⟨h1, h2⟩ := h
 rcases h2 with ⟨_, h0⟩ | ⟨g, c, cur, hv, hg, hb, hn, hm, hz, ht⟩
 ·omega
 ·have hlt : g < W.heap.size := (Array.getElem?_eq_some_iff.1 hb).1
  have hc : cur[j]? = some (.int .i64 l[j]) := by
   have e : cur.toList[j]? = (cur.toList.take (l.length * 1))[j]? := by rw [List.getElem?_take_of_lt (by omega)]
   rw [← Array.getElem?_toList, e, ht, List.getElem?_map, List.getElem?_eq_getElem hj]
   rfl
  refine ⟨g, c, hv, hg, hlt, (cell_of_row W g j _ _ _ hb).trans hc, frozen_of_row W g j _ _ hb, ?_⟩
  refine ⟨by simp, .inr ⟨g, c, cur.setIfInBounds j (.int .i64 u), by rw [List.length_set]; exact hv, hg, heap_setCell_same W g j _ _ _ hb, by rw [List.length_set]; exact hn, hm, by rw [Array.size_setIfInBounds]; exact hz, ?_⟩⟩
  rw [List.length_set, Array.toList_setIfInBounds, List.take_set, ht, List.map_set]
def RowI (w : World) (B : Nat) (x : Option Addr) (l : List Int) : Prop := l = [] ∨ ∃ b off, x = some ⟨b, off, none⟩ ∧ b < w.heap.size ∧ b ≠ B ∧ ∀ j (h : j < l.length), w.cell? ⟨b, off + j, none⟩ = some (.int .i64 l[j])
theorem RowI.aft {w w' : World} {B : Nat} {x : Option Addr} {l : List Int} (h : RowI w B x l) (ha : Aft B w w') : RowI w' B x l := by
 rcases h with h | ⟨b, off, hx, hb, hne, hc⟩
 ·exact .inl h
 ·exact .inr ⟨b, off, hx, Nat.lt_of_lt_of_le hb ha.size, hne, fun j hj => (World.cell?_of_block (w := w) (a := ⟨b, off + j, none⟩) (ha.block b hb hne)).trans (hc j hj)⟩
end Go.Proofs.YthbpenanelbbcaaGreatDoor.Dr


/- The walks of the specification's CodePut, and of the law. -/
namespace Go.Proofs.YthbpenanelbbcaaGreatDoor.Bi
open Go.RowKit
open Go.Proofs.YthbpenanelbbcaaGreatDoor.In (Ints)
open Go.Proofs.YthbpenanelbbcaaGreatDoor.St (IsS)
open Go.Proofs.YthbpenanelbbcaaGreatDoor.Nu (ret_strJ own_string bv)
theorem own_lenB {w : World} {B m n : Nat} {e : TypeId} {v : Value} {xs : List Value} (h : w.ownsRow B e 1 v m xs) (hm : m = n) : w.ownsRow B e 1 v n xs := by rw [← hm]; exact h
set_option maxRecDepth 100000 in
set_option maxHeartbeats 4000000 in
theorem l04Put_any (l s : List Int) (a a' : Option Addr) (cap cap' : Nat) (w : World) (hl : Ints w w.heap.size a l) (hs : Ints w w.heap.size a' s) (hm : ¬ 400 < s.length) (hw : whole l = true) (hok : ∀ x ∈ s, okS l x) :
    Calls Tryz.prog 95 #[.slice a l.length cap, .slice a' s.length cap'] w fun e w' => e = .returned (.string ⟨(putL l s).toArray⟩) ∧ Below w.heap.size w w' := by
  obtain ⟨i0, hi0, hz0, hz1, hz2⟩ := info_parts Sb.builderX.infoByte
  have HC := hideB (codes_spec l a cap w.heap.size w hl (Nat.le_refl _) (whole_right hw))
  have HS := hideB hs
  have HK := hideB (whole_ok hw)
  have hn := whole_len hw
  have HCL := hideB (codesV_length l)
  have HOK := hideB (fun (j : Nat) (hj : j < s.length) => hok _ (List.getElem_mem hj))
  clear hl hs hw hok
  obtain ⟨n, hln⟩ : ∃ n, n = l.length := ⟨_, rfl⟩
  obtain ⟨m, hms⟩ : ∃ m, m = s.length := ⟨_, rfl⟩
  have HLN := hideB hln
  have HMS := hideB hms
  rw [← hln] at hn HC HCL ⊢
  rw [← hms] at hm ⊢
  clear hln hms
  go_enter Tryz.func95, Tryz.ntmps95
  go_wp2_with fail
  refine HC.out.mono ?_
  rintro e w1 ⟨rfl, hi1, hb1⟩
  have X1 := hideB hi1
  have B1 := hideB hb1
  have z1 : w.heap.size < w1.heap.size := hi1.lt
  clear hi1 hb1
  go_wp2_with fail
  go_loopw [7, 6] (fun i v wr => ∃ k : Nat, i = .int .i64 k ∧ k ≤ m ∧ wr.ownsRow w1.heap.size 5 1 v (putL l (s.take k)).length (Lib.byteCells (putL l (s.take k))) ∧ Below w1.heap.size w1 wr) (fun i _ _ => m - (intOf i).toNat)
  case atStart => exact ⟨0, rfl, Nat.zero_le _, World.ownsRow_made _ _ _ (Nat.le_refl _) (by decide) rfl, (Below.refl _ _).alloc (Nat.le_refl _) _⟩
  case round =>
    obtain ⟨k, rfl, hk, hown, hbel⟩ := hrel
    have HO := hideB hown
    have GB := hideB hbel
    have hbz := hbel.size
    clear hown hbel
    by_cases hlt : k < m
    · have hkl : k < s.length := by rw [← HMS.out]; exact hlt
      obtain ⟨b, off, rfl, hb, hc⟩ := (HS.out.below (B1.out.trans (GB.out.mono (Nat.le_of_lt z1)))).some (by omega)
      have ci := hc k hkl
      have HM := hideB (putL_more (l := l) hkl)
      have ho := HOK.out k hkl
      obtain ⟨x, hx⟩ : ∃ x, x = s[k] := ⟨_, rfl⟩
      rw [← hx] at ci HM ho
      clear hc hx
      obtain ⟨i, rfl⟩ : ∃ i : Nat, x = i := ⟨x.toNat, by have := ho.1; omega⟩
      have hin : i < n := by have h1 := ho.2.1; have h2 := HLN.out; omega
      have hiv : i < (codesV l).length := by rw [HCL.out]; omega
      have cc := (X1.out.below GB.out z1).cell hiv
      rw [codes_get l HK.out i hiv] at cc
      have hcl := codeOf_le l HK.out i
      obtain ⟨c, hcc⟩ : ∃ c, c = codeOf l i := ⟨_, rfl⟩
      have HCC := hideB hcc
      rw [← hcc] at cc hcl
      clear hcc ho
      obtain ⟨q, hq⟩ : ∃ q, q = (putL l (s.take k)).length := ⟨_, rfl⟩
      have hqb : q ≤ 4800 := by
        have h1 := putL_le l HK.out (s.take k)
        rw [List.length_take] at h1
        omega
      have HNX : Hid (Lib.byteCells (putL l (s.take k)) ++ Lib.strCells c = Lib.byteCells (putL l (s.take (k + 1)))) := by
        unfold Hid
        rw [HM.out, Lib.byteCells_append, Lib.strCells_eq, HCC.out]
        rfl
      have HNL : Hid (q + c.size = (putL l (s.take (k + 1))).length) := by
        unfold Hid
        rw [HM.out, List.length_append, hq, HCC.out]
        rfl
      have hown := HO.out
      rw [← hq] at hown
      clear hq
      go_wp2_with (at_builtin; refine Lib.wpList_append_own_string _ rfl _ _ 22 9 rfl w1.heap.size 5 i0 Tryz.underlying22 Tryz.underlying9 hi0 hz0 hz1 hz2 _ _ _ rfl hown c rfl ?c3 ?c4 ?c5 ?_)
      case c3 => unfold maxLen; omega
      case c4 => omega
      case c5 => omega
      intro v' w2 hown' hgrow _
      rw [HNX.out] at hown'
      have R2 := hideB (own_lenB hown' HNL.out)
      have B2 := hideB (GB.out.grown hgrow (by omega) (fun k hk => (hown.lt k hk).1))
      clear hown' hgrow hown
      go_wp2_with fail
      go_roundw
      case rel => exact ⟨k + 1, by go_num, by omega, R2.out, B2.out⟩
      case measure => simp [intOf]; omega
    · have HE : Hid (putL l (s.take k) = putL l s) := by
        unfold Hid
        rw [List.take_of_length_le (by have := HMS.out; omega)]
      have hcv := own_string (P := Tryz.prog) (src := 22) (dst := 9) (putL l (s.take k)) HO.out Tryz.underlying22 Tryz.underlying5 Tryz.underlying9
      rw [HE.out] at hcv
      go_wp2_with fail
      go_ret
      exact ⟨rfl, B1.out.trans (GB.out.mono (Nat.le_of_lt z1))⟩
end Go.Proofs.YthbpenanelbbcaaGreatDoor.Bi


/- What is drawn for codes: bits as a text, and the draws of the law on codes. -/
namespace Go.Proofs.YthbpenanelbbcaaGreatDoor.Dr
open Go.RowKit
open Go.Proofs.YthbpenanelbbcaaGreatDoor.In (OwnI Ints)
open Go.Proofs.YthbpenanelbbcaaGreatDoor.Ap (Own0 wpList_append_own0)
open Go.Proofs.YthbpenanelbbcaaGreatDoor.Fr (Own0B own0_string one_newB one_cellB own0B_snoc)
open Go.Proofs.YthbpenanelbbcaaGreatDoor.Nu (bv)
structure Db (w : World) (B : Nat) (a : Option Addr) (len cap : Nat) (W : World) (v : Value) (l : List UInt8) (n : Nat) : Prop where
 own : Own0B W w.heap.size v l
 le : l.length ≤ n
 src : Src W B a len cap
 aft : Aft B w W
 hB : B < w.heap.size
theorem Db.only {w : World} {B : Nat} {a : Option Addr} {len cap : Nat} {W W' : World} {v : Value} {l : List UInt8} {n : Nat} (h : Db w B a len cap W v l n) (hs : Src W' B a len cap) (ho : Only B W W') : Db w B a len cap W' v l n :=
 ⟨Own0.keep h.own fun k hk _ => ho.2.2.2.2 k (by have := h.hB; omega), h.le, hs, h.aft.trans ho.aft, h.hB⟩
theorem Db.new {w : World} {B : Nat} {a : Option Addr} {len cap : Nat} {W : World} (n : Nat) (hs : Src W B a len cap) (ha : Aft B w W) (hB : B < w.heap.size) : Db w B a len cap (W.alloc (.cells #[] 5)) (.slice (some ⟨W.heap.size, 0, none⟩) 0 0) [] n :=
 ⟨.inl ⟨_, rfl, rfl, rfl⟩, Nat.zero_le _, hs.below ((Below.refl _ _).alloc (Nat.le_refl _) _), ha.trans (aft_below ((Below.refl _ _).alloc (Nat.le_refl _) _)), hB⟩
theorem Db.mono {w : World} {B : Nat} {a : Option Addr} {len cap : Nat} {W : World} {v : Value} {l : List UInt8} {n m : Nat} (h : Db w B a len cap W v l n) (hm : n ≤ m) : Db w B a len cap W v l m := ⟨h.own, Nat.le_trans h.le hm, h.src, h.aft, h.hB⟩
end Go.Proofs.YthbpenanelbbcaaGreatDoor.Dr


/- What is drawn for CodeGet and for BitsOf. -/
namespace Go.Proofs.YthbpenanelbbcaaGreatDoor.Dr
open Go.RowKit
open Go.Proofs.YthbpenanelbbcaaGreatDoor.In (OwnI Ints)
open Go.Proofs.YthbpenanelbbcaaGreatDoor.Bi (putR)
end Go.Proofs.YthbpenanelbbcaaGreatDoor.Dr


/- What is drawn for BitsOf: two numbers. -/
namespace Go.Proofs.YthbpenanelbbcaaGreatDoor.Dr
open Go.RowKit
def v4 (a b c d : Int) (j : Nat) : Int := if j = 0 then a else if j = 1 then b else if j = 2 then c else d
theorem pick4 (a b c d : Int) (j : Nat) (h : j < [Value.int .i64 a, .int .i64 b, .int .i64 c, .int .i64 d].length) : [Value.int .i64 a, .int .i64 b, .int .i64 c, .int .i64 d][j] = .int .i64 (v4 a b c d j) := by
 obtain rfl | rfl | rfl | rfl : j = 0 ∨ j = 1 ∨ j = 2 ∨ j = 3 := by simp at h; omega
 all_goals rfl
theorem src_alloc {W : World} {B : Nat} {a : Option Addr} {len cap : Nat} (h : Src W B a len cap) (o : Obj) : Src (W.alloc o) B a len cap := h.below ((Below.refl _ _).alloc (Nat.le_refl _) o)
theorem src_drew {W : World} {B : Nat} {a : Option Addr} {len cap : Nat} (h : Src W B a len cap) : Src W.drew B a len cap := h
theorem only_cell {B : Nat} {W W' : World} (h : Only B W W') (g j : Nat) (hg : g ≠ B) : W'.cell? ⟨g, j, none⟩ = W.cell? ⟨g, j, none⟩ := World.cell?_of_block (w := W) (a := ⟨g, j, none⟩) (h.2.2.2.2 g hg)
end Go.Proofs.YthbpenanelbbcaaGreatDoor.Dr

