/- The walk of the law FnExactBlockUnpack out of the contracts. -/
import Derived.Test.YtjdlgpnhkfdehaaGreatDoorBu42
import Derived.Test.YtjdlgpnhkfdehaaGreatDoorBu43
namespace Go.Proofs.YtjdlgpnhkfdehaaGreatDoor.Up
open Go.RowKit
open Go.Proofs.YtjdlgpnhkfdehaaGreatDoor.Se (outV unsealV eq_same)
theorem unpack_all (a : Addr) (s : ByteArray) (w : World) (hs : s.size ≤ 1048576) (hg : Glob w (.iface 285 (.pointer (some a)))) :
    Calls Tryz.prog 12 #[.string s] w fun e w' => e = .returned (ansU s) ∧ Below w.heap.size w w' :=
  unpack_impl _ _ (fun t W h1 h2 h3 => short_any _ t W h1 h2 h3) (fun W => is_self a W) s w hs hg
theorem ansU_form (s : ByteArray) : ∃ t c, ansU s = .agg #[.string t, .int .i64 0, .int .i64 c] := by
  rcases unseal_case s with ⟨t, h, _⟩ | ⟨c, h0, h⟩
  · rw [ansU_yes h]
    unfold ansT outV
    split <;> exact ⟨_, _, rfl⟩
  · rw [ansU_no h0 h]
    exact ⟨_, _, rfl⟩
end Go.Proofs.YtjdlgpnhkfdehaaGreatDoor.Up
namespace Go.Proofs.YtjdlgpnhkfdehaaGreatDoor.fnExactBlockUnpack
open Go.RowKit
open Go.Proofs.YtjdlgpnhkfdehaaGreatDoor.Up
set_option maxHeartbeats 400000 in
theorem walk (a0 : ByteArray) (w0 : a0.size ≤ maxLen) (w : World) (ga : Addr) (hg : Glob w (.iface 285 (.pointer (some ga)))) :
    Calls Tryz.prog 6 #[.string a0] w fun e w' => e = .returned (.bool true) ∧ Below w.heap.size w w' := by
  have hs := w0
  unfold maxLen at hs
  have HG := Pk.hideP hg
  clear hg
  by_cases hbig : 1048576 < a0.size
  · go_enter Tryz.func6, Tryz.ntmps6
    go_wp2
    go_ret
    exact ⟨rfl, Below.refl _ _⟩
  · obtain ⟨t, c, hv⟩ := ansU_form a0
    have HV := Nu.hideJ hv
    clear hv
    go_enter Tryz.func6, Tryz.ntmps6
    go_wp2_with fail
    refine (unpack_spec a0 _ (by omega)).mono ?_
    rw [HV.out]
    rintro e w1 ⟨rfl, hb1⟩
    have G1 := Pk.hideP (glob_keep (glob_keep HG.out hb1) ((Below.refl _ _).alloc (Nat.le_refl _) (.cells #[.string t, .int .i64 0, .int .i64 c] 26)))
    go_wp2_with fail
    refine (unpack_all ga a0 _ (by omega) G1.out).mono ?_
    rw [HV.out]
    rintro e w2 ⟨rfl, hb2⟩
    obtain ⟨hc2, hf2⟩ := Se.bcell hb2
    have hz2 : w1.heap.size < w2.heap.size := by have := hb2.size; simp at this; omega
    go_wp2_with fail
    refine (Se.eq_same _ _ _ _).mono ?_
    rintro e w3 ⟨rfl, hb3⟩
    go_wp2
    go_ret
    refine ⟨rfl, ?_⟩
    have k1 := (hb1.alloc hb1.size (.cells #[.string t, .int .i64 0, .int .i64 c] 26)).trans (hb2.mono (by have := hb1.size; simp; omega))
    have k2 := k1.alloc (by have := hb1.size; omega) (.cells #[.string t, .int .i64 0, .int .i64 c] 26)
    exact k2.trans (hb3.mono (by have := hb1.size; simp; omega))
end Go.Proofs.YtjdlgpnhkfdehaaGreatDoor.fnExactBlockUnpack

