/- Texts put together: DrawMore, DrawRow, DrawPick. -/
import Derived.Test.YtmkpakhpjgocjaaCz16
import Derived.Test.YtmkpakhpjgocjaaNumPlain
import Derived.Test.YtmkpakhpjgocjaaStrO
/- What stays of a source while other memory is made; a coin, and bytes, that it gives. -/
namespace Go.Proofs.Ytmkpakhpjgocjaa.Dr
open Go.RowKit
open Go.Proofs.Ytmkpakhpjgocjaa.Nu (bv own_string)

/-- of what was there nothing has turned but block B -/
structure Aft (B : Nat) (w w' : World) : Prop where
  os : w'.os = w.os
  tape : w'.tape = w.tape
  output : w'.output = w.output
  size : w.heap.size ≤ w'.heap.size
  block : ∀ k, k < w.heap.size → k ≠ B → w'.heap[k]? = w.heap[k]?

theorem Aft.refl (B : Nat) (w : World) : Aft B w w := ⟨rfl, rfl, rfl, Nat.le_refl _, fun _ _ _ => rfl⟩
theorem Aft.trans {B : Nat} {a b c : World} (h : Aft B a b) (k : Aft B b c) : Aft B a c :=
  ⟨k.os.trans h.os, k.tape.trans h.tape, k.output.trans h.output, Nat.le_trans h.size k.size, fun i hi hn => (k.block i (Nat.lt_of_lt_of_le hi h.size) hn).trans (h.block i hi hn)⟩
theorem Only.aft {B : Nat} {w w' : World} (h : Only B w w') : Aft B w w' := ⟨h.1, h.2.1, h.2.2.1, by rw [h.2.2.2.1]; exact Nat.le_refl _, fun k _ hk => h.2.2.2.2 k hk⟩
theorem aft_below {B : Nat} {w w' : World} (h : Below w.heap.size w w') : Aft B w w' := ⟨h.os, h.tape, h.output, h.size, fun k hk _ => h.block k hk⟩
theorem Aft.below {B C : Nat} {w0 w w' : World} (hb : Below C w0 w) (h : Aft B w w') (hC : C ≤ B) (hS : C ≤ w.heap.size) : Below C w0 w' :=
  hb.trans ⟨h.os, h.tape, h.output, h.size, fun k hk => h.block k (by omega) (by omega)⟩

/-- a source stays where its block and what lies below it stay -/
theorem Src.stays {B : Nat} {w w' : World} {a : Option Addr} {len cap : Nat} (hs : Src w B a len cap) (h : ∀ k, k ≤ B → w'.heap[k]? = w.heap[k]?) : Src w' B a len cap := by
  obtain ⟨hr, at_, mix, size, hb, h0⟩ := hs
  refine ⟨?_, at_, mix, size, (h B (Nat.le_refl _)).trans hb, h0⟩
  rcases hr with h0 | ⟨b, off, rfl, hlt, hc⟩
  · exact .inl h0
  · refine .inr ⟨b, off, rfl, hlt, fun i hi => ?_⟩
    obtain ⟨z, hz, z1, z2⟩ := hc i hi
    exact ⟨z, (World.cell?_of_block (w := w) (a := ⟨b, off + i, none⟩) (h b (Nat.le_of_lt hlt))).trans hz, z1, z2⟩

theorem Src.lt {B : Nat} {w : World} {a : Option Addr} {len cap : Nat} (hs : Src w B a len cap) : B < w.heap.size := by
  obtain ⟨_, at_, mix, size, hb, _⟩ := hs
  rcases Nat.lt_or_ge B w.heap.size with h | h
  · exact h
  · rw [Array.getElem?_eq_none h] at hb
    exact absurd hb (by simp)

theorem Src.below {B : Nat} {w w' : World} {a : Option Addr} {len cap : Nat} (hs : Src w B a len cap) (h : Below w.heap.size w w') : Src w' B a len cap :=
  hs.stays fun k hk => h.block k (Nat.lt_of_le_of_lt hk hs.lt)

theorem one_any (B : Nat) (a : Option Addr) (len cap : Nat) (most : Int) (w : World) (hl : len ≤ 1048576) (hm2 : most ≤ 9223372036854775807) (hs : Src w B a len cap) :
    Calls Try.prog 70 #[.pointer (some ⟨B, 0, none⟩), .int .i64 most] w fun e w' => ∃ r : Bool, e = .returned (.bool r) ∧ Src w' B a len cap ∧ Only B w w' := by
  go_enter Try.func70, Try.ntmps70
  go_wp2_with fail
  refine (n_any B a len cap most _ hl hm2 hs).mono ?_
  rintro e w1 ⟨r, rfl, h0, h1, h2, h3⟩
  go_wp2
  go_ret
  exact ⟨_, rfl, h2, h3⟩

theorem owns_only {B base : Nat} {w w' : World} {e : TypeId} {v : Value} {n size : Nat} {xs : List Value} (h : w.ownsRow base e size v n xs) (ho : Only B w w') (hB : B < base) : w'.ownsRow base e size v n xs := by
  obtain ⟨h1, h2⟩ := h
  refine ⟨h1, ?_⟩
  rcases h2 with h2 | ⟨g, cap, cur, e1, e2, e3, e4⟩
  · exact .inl h2
  · exact .inr ⟨g, cap, cur, e1, e2, (ho.2.2.2.2 g (by omega)).trans e3, e4⟩

theorem aft_more {B : Nat} {w w1 w2 : World} (h : Aft B w w1) (hb : Below w.heap.size w1 w2) : Aft B w w2 :=
  ⟨hb.os.trans h.os, hb.tape.trans h.tape, hb.output.trans h.output, Nat.le_trans h.size hb.size, fun k hk hn => (hb.block k hk).trans (h.block k hk hn)⟩

theorem bv_int (r : Int) (h0 : 0 ≤ r) (h1 : r ≤ 255) : bv (UInt8.ofNat r.toNat) = .int .u8 r := by
  unfold bv
  rw [UInt8.toNat_ofNat', Nat.mod_eq_of_lt (by omega)]
  congr 1
  omega

theorem Try.infoD5 : (Try.prog.info? 5).map (fun i => (i.zero, i.size, i.bytes)) = some (some (.int .u8 0), 1, 1) := by kernel_rfl

set_option maxRecDepth 100000 in
set_option maxHeartbeats 2000000 in
/-- s.bytes(n): a text of n bytes -/
theorem bytes_any (B : Nat) (a : Option Addr) (len cap m : Nat) (w : World) (hl : len ≤ 1048576) (hm : m ≤ 1048576) (hs : Src w B a len cap) :
    Calls Try.prog 73 #[.pointer (some ⟨B, 0, none⟩), .int .i64 m] w fun e w' => ∃ l : List UInt8, l.length = m ∧ e = .returned (.string ⟨l.toArray⟩) ∧ Src w' B a len cap ∧ Aft B w w' := by
  have hB := hs.lt
  have HS := hideD hs
  clear hs
  obtain ⟨i0, hi, hz0, hz1, hz2⟩ := info_parts Try.infoD5
  go_enter Try.func73, Try.ntmps73
  go_wp2
  go_loopw [5, 6] (fun v i wr => ∃ (k : Nat) (l : List UInt8), i = .int .i64 k ∧ k ≤ m ∧ l.length = k ∧ wr.ownsRow w.heap.size 5 1 v k (l.map bv) ∧ Src wr B a len cap ∧ Aft B w wr) (fun _ i _ => m - (intOf i).toNat)
  case atStart =>
    exact ⟨0, [], rfl, Nat.zero_le _, rfl, World.ownsRow_made _ _ _ (Nat.le_refl _) (by decide) rfl, HS.out.below ((Below.refl _ _).alloc (Nat.le_refl _) _), aft_below ((Below.refl _ _).alloc (Nat.le_refl _) _)⟩
  case round =>
    obtain ⟨k, l, rfl, hk, hlen, hown, hsr, haft⟩ := hrel
    have HL := hideD hlen
    have HSR := hideD hsr
    have HA := hideD haft
    have HO := hideD hown
    clear hlen hsr haft hown
    by_cases hlt : k < m
    · go_wp2_with fail
      refine (n_any B a len cap 256 _ hl (by omega) HSR.out).mono ?_
      rintro e w1 ⟨r, rfl, r0, r1, hs1, ho1⟩
      have r2 : r ≤ 255 := by omega
      have hown1 := owns_only HO.out ho1 hB
      have HS1 := hideD hs1
      have HA1 := hideD (HA.out.trans ho1.aft)
      clear hs1
      go_wp2_with (at_builtin; refine wpList_append_own _ rfl (.tmp 13) (.tmp 17) 22 rfl w.heap.size 5 i0 (.int .u8 0) 1 1 Try.underlying22 hi hz0 hz1 hz2 rfl (by decide) _ _ _ rfl (hown1.alloc _) ⟨w1.heap.size, 0, none⟩ 1 1 [.int .u8 r] rfl rfl ?c1 ?c2 ?c3 ?c4 ?c5 ?_)
      case c1 =>
        intro j u hj
        match j, hj with
        | 0, hj => simp at hj; subst hj; simp [Addr.add]
      case c2 => intro u hu; simp at hu; subst hu; rfl
      case c3 => unfold maxLen; omega
      case c4 => omega
      case c5 => have := HA1.out.size; simp; omega
      intro v' w2 hown2 hgrow _
      have hb2 := Go.Proofs.Ytmkpakhpjgocjaa.Nu.app_below (w := w1) (Below.refl w.heap.size w1) HA1.out.size hown1 hgrow
      have HS2 := hideD (HS1.out.stays fun j hj => hb2.block j (by omega))
      have HA2 := hideD (aft_more HA1.out hb2)
      have HO2 : Hid (w2.ownsRow w.heap.size 5 1 v' (k + 1) ((l ++ [UInt8.ofNat r.toNat]).map bv)) := by
        unfold Hid
        rw [List.map_append, List.map_singleton, bv_int r r0 r2]
        exact hown2
      clear hown2 hgrow hown1 hb2 ho1
      go_wp2
      go_roundw
      case rel => exact ⟨k + 1, l ++ [UInt8.ofNat r.toNat], by go_num, by omega, by rw [List.length_append, HL.out]; rfl, HO2.out, HS2.out, HA2.out⟩
      case measure => simp [intOf]; omega
    · have hkm : k = m := by omega
      have HKM := hideD hkm
      have hconv := own_string (P := Try.prog) (src := 22) (dst := 9) l (by rw [HL.out]; exact HO.out) Try.underlying22 Try.underlying5 Try.underlying9
      clear hkm
      go_wp2
      go_ret
      exact ⟨l, by rw [HL.out, HKM.out], rfl, HSR.out, HA.out⟩
end Go.Proofs.Ytmkpakhpjgocjaa.Dr

/- Bytes that came in, as a source of draws sees them; and a text of zeros. -/
namespace Go.Proofs.Ytmkpakhpjgocjaa.Dr
open Go.RowKit
open Go.Proofs.Ytmkpakhpjgocjaa.Nu (bv own_string)

/-- what a walk is told of a slice of bytes that came in -/
def IsRow (k : IntKind) (w : World) (a : Option Addr) (len cap : Nat) (zs : List Int) : Prop :=
  (a = none ∧ len = 0 ∧ cap = 0 ∧ zs = []) ∨
  ∃ x, a = some x ∧ len ≤ cap ∧ cap ≤ maxLen ∧ zs.length = cap ∧ (∀ i, i < zs.length → w.cell? (x.add i) = some (.int k (zs.getD i 0))) ∧ ∀ n ∈ zs, (Lit.int k n).wf = true

theorem row_of {w : World} {a : Option Addr} {len cap : Nat} {zs : List Int} (h : IsRow .u8 w a len cap zs) : Row w w.heap.size a len := by
  rcases h with ⟨_, rfl, _⟩ | ⟨x, rfl, hlc, _, hz, hc, hw⟩
  · exact .inl rfl
  · rcases Nat.eq_zero_or_pos len with h0 | h0
    · exact .inl h0
    · obtain ⟨b, off, spot⟩ := x
      have hc0 := hc 0 (by omega)
      have hspot : spot = none := by simpa [Addr.add] using World.cell?_spot hc0
      subst hspot
      have e : ∀ i, (⟨b, off, none⟩ : Addr).add i = ⟨b, off + i, none⟩ := fun i => by unfold Addr.add; split <;> simp_all
      have hlt := World.block_lt_of_cell? w _ hc0
      rw [e 0] at hlt
      refine .inr ⟨b, off, rfl, hlt, fun i hi => ⟨zs.getD i 0, by rw [← e i]; exact hc i (by omega), ?_⟩⟩
      have hi' : i < zs.length := by omega
      have hm : zs.getD i 0 ∈ zs := by rw [List.getD_eq_getElem?_getD, List.getElem?_eq_getElem hi']; exact List.getElem_mem hi'
      have := hw _ hm
      simpa [Lit.wf, IntKind.min, IntKind.max, IntKind.signed, IntKind.bits] using this

theorem Row.below {w w' : World} {B : Nat} {a : Option Addr} {len : Nat} (h : Row w B a len) (hb : Below B w w') : Row w' B a len := by
  rcases h with h0 | ⟨b, off, rfl, hlt, hc⟩
  · exact .inl h0
  · refine .inr ⟨b, off, rfl, hlt, fun i hi => ?_⟩
    obtain ⟨z, hz, z1, z2⟩ := hc i hi
    exact ⟨z, (hb.cell (p := ⟨b, off + i, none⟩) hlt).trans hz, z1, z2⟩
theorem Row.mono {w : World} {B C : Nat} {a : Option Addr} {len : Nat} (h : Row w B a len) (hBC : B ≤ C) : Row w C a len := by
  rcases h with h0 | ⟨b, off, rfl, hlt, hc⟩
  · exact .inl h0
  · exact .inr ⟨b, off, rfl, Nat.lt_of_lt_of_le hlt hBC, hc⟩

theorem zeros_map (n : Nat) : (List.replicate n (0 : UInt8)).map bv = (madeCells (Value.int .u8 0).cells n).toList := by
  rw [List.map_replicate]
  exact (toList_madeCells_one (.int .u8 0) n).symm

def zeroS (n : Nat) : ByteArray := ⟨(List.replicate n (0 : UInt8)).toArray⟩
theorem zeroS_size (n : Nat) : (zeroS n).size = n := by simp [zeroS, ByteArray.size]
theorem zero_string {P : Program} {w : World} {base e src dst : TypeId} {v : Value} (n : Nat) (h : w.ownsRow base e 1 v n (madeCells (Value.int .u8 0).cells n).toList)
    (hs : P.underlying src = some (.slice e)) (he : P.underlying e = some (.int .u8)) (hd : P.underlying dst = some .string) : (convert src dst v).run P w = .ok (.string (zeroS n)) w :=
  own_string (List.replicate n (0 : UInt8)) (by rw [zeros_map, List.length_replicate]; exact h) hs he hd
end Go.Proofs.Ytmkpakhpjgocjaa.Dr

/- One text of a list, drawn. -/
namespace Go.Proofs.Ytmkpakhpjgocjaa.Dr
open Go.RowKit
open Go.Proofs.Ytmkpakhpjgocjaa.St (IsS)

set_option maxRecDepth 100000 in
set_option maxHeartbeats 2000000 in
theorem pick_any (B g c : Nat) (a : Option Addr) (len cap : Nat) (t : TypeId) (l : List ByteArray) (w : World) (hl : len ≤ 1048576) (hs : Src w B a len cap) (hx : IsS w g t l) (hg : g ≠ B) (h0 : 0 < l.length) (hm : l.length ≤ 100) :
    Calls Try.prog 135 #[.pointer (some ⟨B, 0, none⟩), .slice (some ⟨g, 0, none⟩) l.length c] w fun e w' => ∃ s, s ∈ l ∧ e = .returned (.string s) ∧ Src w' B a len cap ∧ Only B w w' := by
  have HX := hideD hx
  have HM := hideD (fun (j : Nat) (hj : j < l.length) => List.getElem_mem hj)
  clear hx
  obtain ⟨n, hln⟩ : ∃ n, n = l.length := ⟨_, rfl⟩
  have HLN := hideD hln
  rw [← hln] at h0 hm ⊢
  clear hln
  go_enter Try.func135, Try.ntmps135
  go_wp2_with fail
  refine (n_any B a len cap n _ hl (by omega) hs).mono ?_
  rintro e w2 ⟨r, rfl, q0, q1, hs2, ho2⟩
  obtain ⟨i, rfl⟩ := Int.eq_ofNat_of_zero_le q0
  have hin : i < n := by omega
  have hil : i < l.length := by rw [← HLN.out]; exact hin
  have hce : w2.cell? ⟨g, i, none⟩ = some (.string l[i]) := by
    have h1 : IsS w2 g t l := by
      unfold IsS
      rw [ho2.2.2.2.2 g hg]
      exact HX.out
    exact h1.cell hil
  have HMI := hideD (HM.out i hil)
  generalize l[i] = s at hce HMI
  have HS2 := hideD hs2
  have HO2 := hideD ho2
  clear hs2 ho2 q0 q1 hs
  go_wp2_with fail
  go_ret
  exact ⟨s, HMI.out, rfl, HS2.out, HO2.out⟩
end Go.Proofs.Ytmkpakhpjgocjaa.Dr
