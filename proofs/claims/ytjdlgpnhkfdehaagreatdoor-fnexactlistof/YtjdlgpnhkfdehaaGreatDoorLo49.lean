/- Texts put together: ListOfLaw. -/
import Derived.Test.YtjdlgpnhkfdehaaGreatDoorLo48
/- The walk of the law FnExactListOf out of the contracts. -/
namespace Go.Proofs.YtjdlgpnhkfdehaaGreatDoor.fnExactListOf
open Go.RowKit
open Go.Proofs.YtjdlgpnhkfdehaaGreatDoor.Ls
open Go.Proofs.YtjdlgpnhkfdehaaGreatDoor.Sh (Vars)
set_option maxRecDepth 100000 in
set_option maxHeartbeats 1000000 in
theorem walk (a0 : ByteArray) (w0 : a0.size ≤ maxLen) (a1 : Int) (_ : (Lit.int .i64 a1).wf = true) (w : World) (hV : Vars w) :
    Calls Tryz.prog 7 #[.string a0, .int .i64 a1] w fun e w' => e = .returned (.bool true) ∧ Below w.heap.size w w' := by
  unfold maxLen at w0
  have HV := hideL hV
  clear hV
  by_cases hbig : 1048576 < a0.size
  · have hbig' : (1048576 : Int) < (a0.size : Int) := by omega
    go_enter Tryz.func7, Tryz.ntmps7
    go_wp2
    go_ret
    exact ⟨rfl, Below.refl _ _⟩
  · have hbig' : decide ((1048576 : Int) < (a0.size : Int)) = false := by simp; omega
    obtain ⟨z, b, r, c, hv⟩ := ofV_form a0 a1
    have HS := hideL (fun W => of_spec a0 a1 W (by omega))
    have HI := hideL (fun W h => of_impl a0 a1 W (by omega) h)
    rw [hv] at HS HI
    clear hv
    have HE := hideL (fun W => eqO_same z b r c W)
    unfold oV at HS HI HE
    go_enter Tryz.func7, Tryz.ntmps7
    go_wp2_with fail
    refine (HS.out _).mono ?_
    rintro e w1 ⟨rfl, hb⟩
    have V1 := hideL (vars_keep HV.out hb)
    have L1 := hideL hb
    clear hb HV
    have X2 : Hid ((w1.alloc (.cells #[.int .i64 z, .int .i64 b, .string r, .int .i64 c] 37)).heap[w1.heap.size]? = some (.cells #[.int .i64 z, .int .i64 b, .string r, .int .i64 c] 37 (0, 0))) := heap_alloc_new w1 _
    have V2 : Hid (Vars (w1.alloc (.cells #[.int .i64 z, .int .i64 b, .string r, .int .i64 c] 37))) := vars_keep V1.out ((Below.refl _ _).alloc (Nat.le_refl _) _)
    have L2 : Hid (Below w.heap.size w (w1.alloc (.cells #[.int .i64 z, .int .i64 b, .string r, .int .i64 c] 37))) := lowB_alloc rfl L1.out _
    go_wp2_with fail
    generalize hww : w1.alloc (.cells #[.int .i64 z, .int .i64 b, .string r, .int .i64 c] 37) = w2 at X2 V2 L2 ⊢
    generalize w1.heap.size = gx at X2 ⊢
    clear hww V1 L1
    refine (HI.out _ V2.out).mono ?_
    rintro e w3 ⟨rfl, hb⟩
    have X3 := hideL (blkL X2.out hb)
    have L3 := hideL (lowL L2.out hb)
    clear hb X2 V2 L2
    have X4 : Hid ((w3.alloc (.cells #[.int .i64 z, .int .i64 b, .string r, .int .i64 c] 37)).heap[gx]? = some (.cells #[.int .i64 z, .int .i64 b, .string r, .int .i64 c] 37 (0, 0))) := blk_alloc X3.out _
    have L4 : Hid (Below w.heap.size w (w3.alloc (.cells #[.int .i64 z, .int .i64 b, .string r, .int .i64 c] 37))) := lowB_alloc rfl L3.out _
    obtain ⟨c0, c1, c2, c3⟩ := cells4 X3.out
    have hgl : gx < w3.heap.size := (Array.getElem?_eq_some_iff.1 X3.out).1
    go_wp2_with fail
    refine (HE.out _).mono ?_
    rintro e w5 ⟨rfl, hb⟩
    have L5 := hideL (lowL L4.out hb)
    clear hb
    go_wp2_with fail
    go_ret
    exact ⟨rfl, L5.out⟩
end Go.Proofs.YtjdlgpnhkfdehaaGreatDoor.fnExactListOf

