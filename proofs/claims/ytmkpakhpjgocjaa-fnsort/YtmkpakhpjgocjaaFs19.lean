/- Texts put together: DrawN, DrawSource. -/
import Derived.Test.YtmkpakhpjgocjaaFs18
/- The number that a source of draws gives. -/
namespace Go.Proofs.Ytmkpakhpjgocjaa.Dr
open Go.RowKit

theorem c1_other {W : World} {B : Nat} {x : Value} (h : W.cell? ⟨B, 2, none⟩ = some x) (v : Value) : (W.setCell ⟨B, 1, none⟩ v).cell? ⟨B, 2, none⟩ = some x :=
  (World.cell?_setCell_other W _ _ _ (by simp)).trans h

set_option maxRecDepth 100000 in
set_option maxHeartbeats 400000 in
theorem n_within (B b off i : Nat) (len cap : Nat) (most z mix size : Int) (w : World) (hl : len ≤ 1048576) (hm : 1 < most) (hm2 : most ≤ 9223372036854775807) (hr : Row w B (some ⟨b, off, none⟩) len)
    (hb : w.heap[B]? = some (.cells #[.slice (some ⟨b, off, none⟩) len cap, .int .i64 (i : Int), .int .u64 mix, .int .i64 size] 104 (0, 0)))
    (h1 : i < len) (h2 : 0 ≤ mix) (h3 : mix ≤ 18446744073709551615) (h4 : 0 ≤ size) (h5 : size ≤ 12) (hc : w.cell? ⟨b, off + i, none⟩ = some (.int .u8 z)) (hz1 : 0 ≤ z) (hz2 : z ≤ 255) :
    Calls Try.prog 71 #[.pointer (some ⟨B, 0, none⟩), .int .i64 most] w fun e w' => ∃ r, e = .returned (.int .i64 r) ∧ 0 ≤ r ∧ r < most ∧ Src w' B (some ⟨b, off, none⟩) len cap ∧ Only B w w' := by
  have c0 : w.cell? ⟨B, 0, none⟩ = some (.slice (some ⟨b, off, none⟩) len cap) := by rw [cell_of_row w B 0 _ _ _ hb]; rfl
  have c1 : w.cell? ⟨B, 1, none⟩ = some (.int .i64 (i : Int)) := by rw [cell_of_row w B 1 _ _ _ hb]; rfl
  have c2 : w.cell? ⟨B, 2, none⟩ = some (.int .u64 mix) := by rw [cell_of_row w B 2 _ _ _ hb]; rfl
  have f := fun o => frozen_of_row w B o _ _ hb
  have HB := hideD hb
  have HR := hideD hr
  clear hb hr
  have g1 : (i : Int) < (len : Int) := by omega
  go_enter Try.func71, Try.ntmps71
  go_wp2
  go_quiet (fail)
  obtain ⟨q1, rfl⟩ : ∃ q, q = nq := ⟨_, rfl⟩
  go_wp2
  go_quiet (fail)
  go_wp2
  have e2 : ((w.drewN (q1 + nq)).setCell ⟨B, 1, none⟩ (.int .i64 ((i : Int) + 1))).cell? ⟨B, 2, none⟩ = some (.int .u64 mix) := c1_other (by simpa using c2) _
  have ef : ∀ o, ((w.drewN (q1 + nq)).setCell ⟨B, 1, none⟩ (.int .i64 ((i : Int) + 1))).frozen? ⟨B, o, none⟩ = false := fun o => frozen_of_row _ B o _ _ (blk_set1 (W := w.drewN _) HB.out _)
  have EB := hideD (blk_set1 (W := w.drewN (q1 + nq)) HB.out (.int .i64 ((i : Int) + 1)))
  have EO := hideD ((Only.drewN (B := B) w (q1 + nq)).set 1 (.int .i64 ((i : Int) + 1)))
  generalize (w.drewN (q1 + nq)).setCell ⟨B, 1, none⟩ (.int .i64 ((i : Int) + 1)) = W1 at e2 ef EB EO ⊢
  clear c0 c1 c2 f hc
  have s1 := sc1 (W := W1) (p := ⟨B, 2, none⟩) (x := .int .u64 mix) e2
  have s2 := sc2 (W := W1) (p := ⟨B, 2, none⟩) (x := .int .u64 mix) e2
  have s3 := sc3 (W := W1) (p := ⟨B, 2, none⟩) (x := .int .u64 mix) e2
  go_region
  go_wp2
  go_region
  go_wp2
  go_region
  go_wp2
  go_ret
  have k1 := step1 mix ⟨h2, h3⟩ (mix * 8192)
  have k2 := step2 _ k1
  have k3 := step1 _ k2 (bits BinOp.xor IntKind.u64 (bits BinOp.xor IntKind.u64 mix (IntKind.u64.wrap (mix * 8192))) (bits BinOp.xor IntKind.u64 mix (IntKind.u64.wrap (mix * 8192)) / 128) * 131072)
  exact ⟨_, rfl, (rem_bd _ most (wrap64_bd _).1 hm hm2).1, (rem_bd _ most (wrap64_bd _).1 hm hm2).2,
    src_set HR.out (((EO.out.set 2 _).set 2 _).set 2 _).drew.drew.drew (blk_set (blk_set (blk_set EB.out _) _) _) (by omega) (by omega) k3 h4 h5, (((EO.out.set 2 _).set 2 _).set 2 _).drew.drew.drew⟩

/-- s.n(most): some number below most (0, if most is 1 or less); only the source has turned -/
theorem n_any (B : Nat) (a : Option Addr) (len cap : Nat) (most : Int) (w : World) (hl : len ≤ 1048576) (hm2 : most ≤ 9223372036854775807) (hs : Src w B a len cap) :
    Calls Try.prog 71 #[.pointer (some ⟨B, 0, none⟩), .int .i64 most] w fun e w' => ∃ r, e = .returned (.int .i64 r) ∧ 0 ≤ r ∧ (r < most ∨ r = 0) ∧ Src w' B a len cap ∧ Only B w w' := by
  by_cases hm : 1 < most
  · obtain ⟨hr, at_, mix, size, hb, h0, h1, h2, h3, h4, h5⟩ := hs
    by_cases hlt : at_ < len
    · obtain ⟨i, rfl⟩ := Int.eq_ofNat_of_zero_le h0
      rcases hr with h | ⟨b, off, rfl, hne, hc⟩
      · exfalso; omega
      · obtain ⟨z, hz, z1, z2⟩ := hc i (by omega)
        exact (n_within B b off i len cap most z mix size w hl hm hm2 (.inr ⟨b, off, rfl, hne, hc⟩) hb (by omega) h2 h3 h4 h5 hz z1 z2).mono fun e w' ⟨r, e1, e2, e3, e4, e5⟩ => ⟨r, e1, e2, .inl e3, e4, e5⟩
    · exact (n_past B a len cap most at_ mix size w hm hm2 hr hb h0 hlt h1 h2 h3 h4 h5).mono fun e w' ⟨r, e1, e2, e3, e4, e5⟩ => ⟨r, e1, e2, .inl e3, e4, e5⟩
  · have HS := hideD hs
    clear hs
    go_enter Try.func71, Try.ntmps71
    go_wp2
    go_ret
    exact ⟨0, rfl, Int.le_refl _, .inr rfl, HS.out, Only.refl _ _⟩
end Go.Proofs.Ytmkpakhpjgocjaa.Dr

/- The making of a source of draws: it lies in a new block, and draws from the bytes that it was handed. -/
namespace Go.Proofs.Ytmkpakhpjgocjaa.Dr
open Go.RowKit

theorem blk_set3 {W : World} {B : Nat} {x0 x1 x2 x3 : Value} {T : TypeId} (h : W.heap[B]? = some (.cells #[x0, x1, x2, x3] T (0, 0))) (v : Value) :
    (W.setCell ⟨B, 3, none⟩ v).heap[B]? = some (.cells #[x0, x1, x2, v] T (0, 0)) := by
  rw [heap_setCell_same W B 3 _ T v h]; rfl

def sobj (a : Option Addr) (len cap : Nat) (mix size : Int) : Obj := .cells #[.slice a len cap, .int .i64 0, .int .u64 mix, .int .i64 size] 104 (0, 0)

theorem src_of {w wr : World} {a : Option Addr} {len cap : Nat} {mix size : Int} (hr : Row w w.heap.size a len) (ho : Only w.heap.size (w.alloc (sobj a len cap 88172645463325252 0)) wr)
    (hb : wr.heap[w.heap.size]? = some (sobj a len cap mix size)) (h1 : 0 ≤ mix) (h2 : mix ≤ 18446744073709551615) (h3 : 0 ≤ size) (h4 : size ≤ 12) : Src wr w.heap.size a len cap := by
  refine ⟨ho.row ?_, 0, mix, size, hb, Int.le_refl _, by omega, h1, h2, h3, h4⟩
  rcases hr with h0 | ⟨b, off, rfl, hne, hc⟩
  · exact .inl h0
  · refine .inr ⟨b, off, rfl, hne, fun i hi => ?_⟩
    obtain ⟨z, hz, z1, z2⟩ := hc i hi
    exact ⟨z, (World.cell?_alloc_lt _ _ ⟨b, off + i, none⟩ (World.block_lt_of_cell? w _ hz)).trans hz, z1, z2⟩

set_option maxRecDepth 100000 in
set_option maxHeartbeats 2000000 in
theorem source_any (a : Option Addr) (len cap : Nat) (w : World) (hl : len ≤ 1048576) (hr : Row w w.heap.size a len) :
    Calls Try.prog 64 #[.slice a len cap] w fun e w' => e = .returned (.pointer (some ⟨w.heap.size, 0, none⟩)) ∧ Src w' w.heap.size a len cap ∧ Below w.heap.size w w' ∧ w'.heap.size = w.heap.size + 1 := by
  have HR := hideD hr
  clear hr
  go_enter Try.func64, Try.ntmps64
  go_wp2
  go_loopw [4] (fun i wr => ∃ (k : Nat) (mix : Int), i = .int .i64 k ∧ k ≤ len ∧ 0 ≤ mix ∧ mix ≤ 18446744073709551615 ∧ wr.heap[w.heap.size]? = some (sobj a len cap mix 0) ∧ Only w.heap.size (w.alloc (sobj a len cap 88172645463325252 0)) wr) (fun i _ => len - (intOf i).toNat)
  case atStart => exact ⟨0, 88172645463325252, rfl, Nat.zero_le _, by decide, by decide, heap_alloc_new _ _, Only.refl _ _⟩
  case round =>
    obtain ⟨k, mix, rfl, hk, h2, h3, hb, ho⟩ := hrel
    have c2 : wr.cell? ⟨w.heap.size, 2, none⟩ = some (.int .u64 mix) := by rw [cell_of_row wr _ 2 _ _ _ hb]; rfl
    have c3 : wr.cell? ⟨w.heap.size, 3, none⟩ = some (.int .i64 0) := by rw [cell_of_row wr _ 3 _ _ _ hb]; rfl
    have f := fun o => frozen_of_row wr w.heap.size o _ _ hb
    have HB := hideD hb
    have HO := hideD ho
    clear hb ho
    by_cases hlt : k < len
    · by_cases h64 : k < 64
      · rcases HR.out with h0 | ⟨b, off, rfl, hne, hc⟩
        · exfalso; omega
        · obtain ⟨z, hz, z1, z2⟩ := hc k hlt
          have hzr : wr.cell? ⟨b, off + k, none⟩ = some (.int .u8 z) := (World.cell?_of_block (w := w.alloc _) (a := ⟨b, off + k, none⟩) (HO.out.2.2.2.2 b (Nat.ne_of_lt hne))).trans ((World.cell?_alloc_lt _ _ ⟨b, off + k, none⟩ hne).trans hz)
          clear hc hz
          have g1 : (k : Int) < (len : Int) := by omega
          go_wp2
          go_region
          go_wp2
          go_roundw
          case rel => exact ⟨k + 1, _, by go_num, by omega, (wrap64_bd _).1, (wrap64_bd _).2, blk_set HB.out _, (HO.out.set 2 _).drew⟩
          case measure => simp [intOf]; omega
      · have hd : decide ((k : Int) < 64) = false := decide_eq_false (by omega)
        have g1 : (k : Int) < (len : Int) := by omega
        have s3 := fun v => sc1 (W := wr) (p := ⟨w.heap.size, 3, none⟩) (x := .int .i64 0) c3 v
        by_cases hbig : (12 : Int) < (len : Int) / 20
        · go_wp2
          go_ret
          refine ⟨rfl, src_of HR.out ((HO.out.set 3 _).set 3 _) (blk_set3 (blk_set3 HB.out _) _) h2 h3 (by omega) (by omega), ?_, ?_⟩
          · exact ((HO.out.set 3 _).set 3 _).below ((Below.refl _ _).alloc (Nat.le_refl _) _) (Nat.le_refl _)
          · have := ((HO.out.set 3 (.int .i64 0)).set 3 (.int .i64 0)).2.2.2.1
            simpa [World.setCell] using this
        · go_wp2
          go_ret
          refine ⟨rfl, src_of HR.out (HO.out.set 3 _) (blk_set3 HB.out _) h2 h3 (by omega) (by omega), ?_, ?_⟩
          · exact (HO.out.set 3 _).below ((Below.refl _ _).alloc (Nat.le_refl _) _) (Nat.le_refl _)
          · have := (HO.out.set 3 (.int .i64 0)).2.2.2.1
            simpa [World.setCell] using this
    · have hd : decide ((k : Int) < (len : Int)) = false := decide_eq_false (by omega)
      have s3 := fun v => sc1 (W := wr) (p := ⟨w.heap.size, 3, none⟩) (x := .int .i64 0) c3 v
      by_cases hbig : (12 : Int) < (len : Int) / 20
      · go_wp2
        go_ret
        refine ⟨rfl, src_of HR.out ((HO.out.set 3 _).set 3 _) (blk_set3 (blk_set3 HB.out _) _) h2 h3 (by omega) (by omega), ?_, ?_⟩
        · exact ((HO.out.set 3 _).set 3 _).below ((Below.refl _ _).alloc (Nat.le_refl _) _) (Nat.le_refl _)
        · have := ((HO.out.set 3 (.int .i64 0)).set 3 (.int .i64 0)).2.2.2.1
          simpa [World.setCell] using this
      · go_wp2
        go_ret
        refine ⟨rfl, src_of HR.out (HO.out.set 3 _) (blk_set3 HB.out _) h2 h3 (by omega) (by omega), ?_, ?_⟩
        · exact (HO.out.set 3 _).below ((Below.refl _ _).alloc (Nat.le_refl _) _) (Nat.le_refl _)
        · have := (HO.out.set 3 (.int .i64 0)).2.2.2.1
          simpa [World.setCell] using this
end Go.Proofs.Ytmkpakhpjgocjaa.Dr
