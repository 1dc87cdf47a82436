/- KeepNew: both sides. -/
import Derived.Test.YtikiihjabbmkcaaKpCx
namespace Go.Proofs.Ytikiihjabbmkcaa.Kp
open Go.RowKit
open Go.Proofs.Ytikiihjabbmkcaa.Ls (rightB right_impl right_spec lV lowL blkL cells3)

def newV (z b : Int) (r : ByteArray) : Value := if rightB z b r = true then kV z b r ⟨#[]⟩ 0 else kV 0 0 ⟨#[]⟩ ⟨#[]⟩ 0

set_option maxRecDepth 100000 in
set_option maxHeartbeats 1000000 in
theorem keepNew_impl (z b : Int) (r : ByteArray) (w : World) :
    Calls Try.prog 15 #[lV z b r] w fun e w' => e = .returned (newV z b r) ∧ Below w.heap.size w w' := by
  have HR := hideK (fun W => right_impl z b r W)
  have C0 := hideK (((Cx.nil w).new (.cells #[.int .i64 z, .int .i64 b, .string r] 25)).new kZ)
  simp only [World.size_alloc] at C0
  have HY : Hid (rightB z b r = true → newV z b r = kV z b r ⟨#[]⟩ 0) := fun h => if_pos h
  have HN : Hid (rightB z b r = false → newV z b r = kV 0 0 ⟨#[]⟩ ⟨#[]⟩ 0) := fun h => if_neg (by rw [h]; exact Bool.false_ne_true)
  generalize newV z b r = A at HY HN ⊢
  unfold kV at HY HN
  unfold lV at HR ⊢
  unfold kZ at C0
  go_enter Try.func15, Try.ntmps15
  go_wp2_with fail
  generalize (w.alloc _).alloc _ = W0 at C0 ⊢
  refine (HR.out _).mono ?_
  rintro e w1 ⟨rfl, hb⟩
  have C1 := hideK (C0.out.call hb)
  clear hb C0 HR
  obtain ⟨q0, q1, q2, q3, q4⟩ := cells5 (C1.out.get 0 rfl)
  obtain ⟨l0, l1, l2⟩ := cells3 (C1.out.get 1 rfl)
  have ff := fun o => frozen_of_row w1 (w.heap.size + 1) o _ _ (C1.out.get 0 rfl)
  cases hr : rightB z b r with
  | false =>
    have HE := hideK (HN.out hr)
    clear HY HN hr
    have HF := hideK (ans5 (C1.out.get 0 rfl) C1.out.low (by omega) (.int .i64 0) (.int .i64 0) (.string ⟨#[]⟩) (.string ⟨#[]⟩) (.int .i64 0))
    have s5 := cells5 HF.out.2
    go_wp2_with fail
    exact bodyPost_ret (v := .agg #[.int .i64 0, .int .i64 0, .string ⟨#[]⟩, .string ⟨#[]⟩, .int .i64 0]) (by simp [results, Try.results15, go_sem, s5.1, s5.2.1, s5.2.2.1, s5.2.2.2.1, s5.2.2.2.2]) rfl ⟨by rw [HE.out], HF.out.1⟩
  | true =>
    have HE := hideK (HY.out hr)
    clear HY HN hr
    have HF := hideK (ans5 (C1.out.get 0 rfl) C1.out.low (by omega) (.int .i64 z) (.int .i64 b) (.string r) (.string ⟨#[]⟩) (.int .i64 0))
    have s5 := cells5 HF.out.2
    go_wp2_with fail
    exact bodyPost_ret (v := .agg #[.int .i64 z, .int .i64 b, .string r, .string ⟨#[]⟩, .int .i64 0]) (by simp [results, Try.results15, go_sem, s5.1, s5.2.1, s5.2.2.1, s5.2.2.2.1, s5.2.2.2.2]) rfl ⟨by rw [HE.out], HF.out.1⟩

set_option maxRecDepth 100000 in
set_option maxHeartbeats 1000000 in
theorem keepNew_spec (z b : Int) (r : ByteArray) (w : World) :
    Calls Try.prog 13 #[lV z b r] w fun e w' => e = .returned (newV z b r) ∧ Below w.heap.size w w' := by
  have HR := hideK (fun W => right_spec z b r W)
  have C0 := hideK (((Cx.nil w).new (.cells #[.int .i64 z, .int .i64 b, .string r] 25)).new kZ)
  simp only [World.size_alloc] at C0
  have HY : Hid (rightB z b r = true → newV z b r = kV z b r ⟨#[]⟩ 0) := fun h => if_pos h
  have HN : Hid (rightB z b r = false → newV z b r = kV 0 0 ⟨#[]⟩ ⟨#[]⟩ 0) := fun h => if_neg (by rw [h]; exact Bool.false_ne_true)
  generalize newV z b r = A at HY HN ⊢
  unfold kV at HY HN
  unfold lV at HR ⊢
  unfold kZ at C0
  go_enter Try.func13, Try.ntmps13
  go_wp2_with fail
  generalize (w.alloc _).alloc _ = W0 at C0 ⊢
  refine (HR.out _).mono ?_
  rintro e w1 ⟨rfl, hb⟩
  have C1 := hideK (C0.out.call hb)
  clear hb C0 HR
  obtain ⟨q0, q1, q2, q3, q4⟩ := cells5 (C1.out.get 0 rfl)
  obtain ⟨l0, l1, l2⟩ := cells3 (C1.out.get 1 rfl)
  have ff := fun o => frozen_of_row w1 (w.heap.size + 1) o _ _ (C1.out.get 0 rfl)
  cases hr : rightB z b r with
  | false =>
    have HE := hideK (HN.out hr)
    clear HY HN hr
    have HF := hideK (ans5 (C1.out.get 0 rfl) C1.out.low (by omega) (.int .i64 0) (.int .i64 0) (.string ⟨#[]⟩) (.string ⟨#[]⟩) (.int .i64 0))
    have s5 := cells5 HF.out.2
    go_wp2_with fail
    exact bodyPost_ret (v := .agg #[.int .i64 0, .int .i64 0, .string ⟨#[]⟩, .string ⟨#[]⟩, .int .i64 0]) (by simp [results, Try.results13, go_sem, s5.1, s5.2.1, s5.2.2.1, s5.2.2.2.1, s5.2.2.2.2]) rfl ⟨by rw [HE.out], HF.out.1⟩
  | true =>
    have HE := hideK (HY.out hr)
    clear HY HN hr
    have HF := hideK (ans5 (C1.out.get 0 rfl) C1.out.low (by omega) (.int .i64 z) (.int .i64 b) (.string r) (.string ⟨#[]⟩) (.int .i64 0))
    have s5 := cells5 HF.out.2
    go_wp2_with fail
    exact bodyPost_ret (v := .agg #[.int .i64 z, .int .i64 b, .string r, .string ⟨#[]⟩, .int .i64 0]) (by simp [results, Try.results13, go_sem, s5.1, s5.2.1, s5.2.2.1, s5.2.2.2.1, s5.2.2.2.2]) rfl ⟨by rw [HE.out], HF.out.1⟩
end Go.Proofs.Ytikiihjabbmkcaa.Kp
