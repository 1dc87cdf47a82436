/- The number that a source of draws gives. -/
import Derived.Test.YtghghkfhcpldhaaDoorDrawBase
namespace Go.Proofs.YtghghkfhcpldhaaDoor.Dr
open Go.RowKit

theorem c1_other {W : World} {B : Nat} {x : Value} (h : W.cell? ⟨B, 2, none⟩ = some x) (v : Value) : (W.setCell ⟨B, 1, none⟩ v).cell? ⟨B, 2, none⟩ = some x :=
  (World.cell?_setCell_other W _ _ _ (by simp)).trans h

set_option maxRecDepth 100000 in
set_option maxHeartbeats 400000 in
theorem n_within (B b off i : Nat) (len cap : Nat) (most z mix size : Int) (w : World) (hl : len ≤ 1048576) (hm : 1 < most) (hm2 : most ≤ 9223372036854775807) (hr : Row w B (some ⟨b, off, none⟩) len)
    (hb : w.heap[B]? = some (.cells #[.slice (some ⟨b, off, none⟩) len cap, .int .i64 (i : Int), .int .u64 mix, .int .i64 size] 74 (0, 0)))
    (h1 : i < len) (h2 : 0 ≤ mix) (h3 : mix ≤ 18446744073709551615) (h4 : 0 ≤ size) (h5 : size ≤ 12) (hc : w.cell? ⟨b, off + i, none⟩ = some (.int .u8 z)) (hz1 : 0 ≤ z) (hz2 : z ≤ 255) :
    Calls Tryd.prog 37 #[.pointer (some ⟨B, 0, none⟩), .int .i64 most] w fun e w' => ∃ r, e = .returned (.int .i64 r) ∧ 0 ≤ r ∧ r < most ∧ Src w' B (some ⟨b, off, none⟩) len cap ∧ Only B w w' := by
  have c0 : w.cell? ⟨B, 0, none⟩ = some (.slice (some ⟨b, off, none⟩) len cap) := by rw [cell_of_row w B 0 _ _ _ hb]; rfl
  have c1 : w.cell? ⟨B, 1, none⟩ = some (.int .i64 (i : Int)) := by rw [cell_of_row w B 1 _ _ _ hb]; rfl
  have c2 : w.cell? ⟨B, 2, none⟩ = some (.int .u64 mix) := by rw [cell_of_row w B 2 _ _ _ hb]; rfl
  have f := fun o => frozen_of_row w B o _ _ hb
  have HB := hideD hb
  have HR := hideD hr
  clear hb hr
  have g1 : (i : Int) < (len : Int) := by omega
  go_enter Tryd.func37, Tryd.ntmps37
  go_wp2
  go_quiet (fail)
  obtain ⟨q1, rfl⟩ : ∃ q, q = nq := ⟨_, rfl⟩
  go_wp2
  go_quiet (fail)
  go_wp2
  have e2 : ((w.drewN (q1 + nq)).setCell ⟨B, 1, none⟩ (.int .i64 ((i : Int) + 1))).cell? ⟨B, 2, none⟩ = some (.int .u64 mix) := c1_other (by simpa using c2) _
  have ef : ∀ o, ((w.drewN (q1 + nq)).setCell ⟨B, 1, none⟩ (.int .i64 ((i : Int) + 1))).frozen? ⟨B, o, none⟩ = false := fun o => frozen_of_row _ B o _ _ (blk_set1 (W := w.drewN _) HB.out _)
  have EB := hideD (blk_set1 (W := w.drewN (q1 + nq)) HB.out (.int .i64 ((i : Int) + 1)))
  have EO := hideD ((Only.drewN (B := B) w (q1 + nq)).set 1 (.int .i64 ((i : Int) + 1)))
  generalize (w.drewN (q1 + nq)).setCell ⟨B, 1, none⟩ (.int .i64 ((i : Int) + 1)) = W1 at e2 ef EB EO ⊢
  clear c0 c1 c2 f hc
  have s1 := sc1 (W := W1) (p := ⟨B, 2, none⟩) (x := .int .u64 mix) e2
  have s2 := sc2 (W := W1) (p := ⟨B, 2, none⟩) (x := .int .u64 mix) e2
  have s3 := sc3 (W := W1) (p := ⟨B, 2, none⟩) (x := .int .u64 mix) e2
  go_region
  go_wp2
  go_region
  go_wp2
  go_region
  go_wp2
  go_ret
  have k1 := step1 mix ⟨h2, h3⟩ (mix * 8192)
  have k2 := step2 _ k1
  have k3 := step1 _ k2 (bits BinOp.xor IntKind.u64 (bits BinOp.xor IntKind.u64 mix (IntKind.u64.wrap (mix * 8192))) (bits BinOp.xor IntKind.u64 mix (IntKind.u64.wrap (mix * 8192)) / 128) * 131072)
  exact ⟨_, rfl, (rem_bd _ most (wrap64_bd _).1 hm hm2).1, (rem_bd _ most (wrap64_bd _).1 hm hm2).2,
    src_set HR.out (((EO.out.set 2 _).set 2 _).set 2 _).drew.drew.drew (blk_set (blk_set (blk_set EB.out _) _) _) (by omega) (by omega) k3 h4 h5, (((EO.out.set 2 _).set 2 _).set 2 _).drew.drew.drew⟩

/-- s.n(most): some number below most (0, if most is 1 or less); only the source has turned -/
theorem n_any (B : Nat) (a : Option Addr) (len cap : Nat) (most : Int) (w : World) (hl : len ≤ 1048576) (hm2 : most ≤ 9223372036854775807) (hs : Src w B a len cap) :
    Calls Tryd.prog 37 #[.pointer (some ⟨B, 0, none⟩), .int .i64 most] w fun e w' => ∃ r, e = .returned (.int .i64 r) ∧ 0 ≤ r ∧ (r < most ∨ r = 0) ∧ Src w' B a len cap ∧ Only B w w' := by
  by_cases hm : 1 < most
  · obtain ⟨hr, at_, mix, size, hb, h0, h1, h2, h3, h4, h5⟩ := hs
    by_cases hlt : at_ < len
    · obtain ⟨i, rfl⟩ := Int.eq_ofNat_of_zero_le h0
      rcases hr with h | ⟨b, off, rfl, hne, hc⟩
      · exfalso; omega
      · obtain ⟨z, hz, z1, z2⟩ := hc i (by omega)
        exact (n_within B b off i len cap most z mix size w hl hm hm2 (.inr ⟨b, off, rfl, hne, hc⟩) hb (by omega) h2 h3 h4 h5 hz z1 z2).mono fun e w' ⟨r, e1, e2, e3, e4, e5⟩ => ⟨r, e1, e2, .inl e3, e4, e5⟩
    · exact (n_past B a len cap most at_ mix size w hm hm2 hr hb h0 hlt h1 h2 h3 h4 h5).mono fun e w' ⟨r, e1, e2, e3, e4, e5⟩ => ⟨r, e1, e2, .inl e3, e4, e5⟩
  · have HS := hideD hs
    clear hs
    go_enter Tryd.func37, Tryd.ntmps37
    go_wp2
    go_ret
    exact ⟨0, rfl, Int.le_refl _, .inr rfl, HS.out, Only.refl _ _⟩
end Go.Proofs.YtghghkfhcpldhaaDoor.Dr
