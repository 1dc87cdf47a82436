/- The drawn entries of the laws on trees; weak on purpose: some list of short texts, of which the call owns the row. -/
import Derived.Test.YtghghkfhcpldhaaDoorTf11
import Derived.Test.YtghghkfhcpldhaaDoorStrOwn
import Derived.Laws.OwnMore
namespace Go.Proofs.YtghghkfhcpldhaaDoor.Dr
open Go.RowKit
open Go.Proofs.YtghghkfhcpldhaaDoor.St (OwnS IsS srow one_newS one_cellS)

theorem own_aft {B base : Nat} {w w' : World} {v : Value} {l : List ByteArray} (h : OwnS w base v l) (ha : Aft B w w') (hB : B < base) : OwnS w' base v l := by
  obtain ⟨hl, h⟩ := h
  refine ⟨hl, ?_⟩
  rcases h with h | ⟨g, cap, cur, hv, hg, hb, rest⟩
  · exact .inl h
  · exact .inr ⟨g, cap, cur, hv, hg, by rw [ha.block g (Array.getElem?_eq_some_iff.1 hb).1 (by omega)]; exact hb, rest⟩
theorem own_alloc {base : Nat} {w : World} {v : Value} {l : List ByteArray} (h : OwnS w base v l) (o : Obj) : OwnS (w.alloc o) base v l := World.ownsRow.alloc h o
theorem aft_alloc {B : Nat} (w : World) (o : Obj) : Aft B w (w.alloc o) := aft_below ((Below.refl _ _).alloc (Nat.le_refl _) _)
theorem none_le {m : Nat} : ∀ s ∈ ([] : List ByteArray), s.size ≤ m := fun s hs => absurd hs (by simp)
theorem all_snoc {l : List ByteArray} {s : ByteArray} {m : Nat} (h : ∀ x ∈ l, x.size ≤ m) (hs : s.size ≤ m) : ∀ x ∈ l ++ [s], x.size ≤ m := by
  intro x hx
  rcases List.mem_append.1 hx with h1 | h1
  · exact h x h1
  · rw [List.mem_singleton.1 h1]; exact hs

set_option maxRecDepth 100000 in
set_option maxHeartbeats 2000000 in
theorem pick_any (B g c : Nat) (a : Option Addr) (len cap : Nat) (t : TypeId) (l : List ByteArray) (w : World) (hl : len ≤ 1048576) (hs : Src w B a len cap) (hx : IsS w g t l) (hg : g ≠ B) (h0 : 0 < l.length) (hm : l.length ≤ 100) :
    Calls Tryd.prog 65 #[.pointer (some ⟨B, 0, none⟩), .slice (some ⟨g, 0, none⟩) l.length c] w fun e w' => ∃ s, s ∈ l ∧ e = .returned (.string s) ∧ Src w' B a len cap ∧ Only B w w' := by
  have HX := hideD hx
  have HM := hideD (fun (j : Nat) (hj : j < l.length) => List.getElem_mem hj)
  clear hx
  obtain ⟨n, hln⟩ : ∃ n, n = l.length := ⟨_, rfl⟩
  have HLN := hideD hln
  rw [← hln] at h0 hm ⊢
  clear hln
  go_enter Tryd.func65, Tryd.ntmps65
  go_wp2_with fail
  refine (n_any B a len cap n _ hl (by omega) hs).mono ?_
  rintro e w2 ⟨r, rfl, q0, q1, hs2, ho2⟩
  obtain ⟨i, rfl⟩ := Int.eq_ofNat_of_zero_le q0
  have hin : i < n := by omega
  have hil : i < l.length := by rw [← HLN.out]; exact hin
  have hce : w2.cell? ⟨g, i, none⟩ = some (.string l[i]) := by
    have h1 : IsS w2 g t l := by
      unfold IsS
      rw [ho2.2.2.2.2 g hg]
      exact HX.out
    exact h1.cell hil
  have HMI := hideD (HM.out i hil)
  generalize l[i] = s at hce HMI
  have HS2 := hideD hs2
  have HO2 := hideD ho2
  clear hs2 ho2 q0 q1 hs
  go_wp2_with fail
  go_ret
  exact ⟨s, HMI.out, rfl, HS2.out, HO2.out⟩

def four : List ByteArray := [⟨#[97]⟩, ⟨#[98]⟩, ⟨#[]⟩, ⟨#[101, 110, 116, 114, 121]⟩]
theorem four_is (W : World) (t : TypeId) : IsS (W.alloc (.cells #[.string ⟨#[97]⟩, .string ⟨#[98]⟩, .string ⟨#[]⟩, .string ⟨#[101, 110, 116, 114, 121]⟩] t)) W.heap.size t four := heap_alloc_last W _
theorem four_le (s : ByteArray) (h : s ∈ four) : s.size ≤ 5 := by
  simp only [four, List.mem_cons, List.not_mem_nil, or_false] at h
  rcases h with rfl | rfl | rfl | rfl <;> decide
theorem Tryd.infoT9 : (Tryd.prog.info? 9).map (fun i => (i.zero, i.size, i.bytes)) = some (some (.string ⟨#[]⟩), 1, 16) := by kernel_rfl

set_option maxRecDepth 100000 in
set_option maxHeartbeats 4000000 in
theorem some_any (B : Nat) (a : Option Addr) (len cap : Nat) (w : World) (hl : len ≤ 1048576) (hs : Src w B a len cap) :
    Calls Tryd.prog 36 #[.pointer (some ⟨B, 0, none⟩)] w fun e w' => ∃ v l, e = .returned v ∧ OwnS w' w.heap.size v l ∧ l.length ≤ 30 ∧ (∀ s ∈ l, s.size ≤ 101) ∧ Src w' B a len cap ∧ Aft B w w' := by
  obtain ⟨i0, hi, hz0, hz1, hz2⟩ := info_parts Tryd.infoT9
  obtain ⟨j0, hj, hj0, hj1, hj2⟩ := info_parts Tryd.infoD5
  have hB := hs.lt
  have HS0 := hideD (hs.below ((Below.refl _ _).alloc (Nat.le_refl _) (.cells #[] 9)))
  obtain ⟨at_, mix, size, hb, _, _, _, _, hz_0, hz_1⟩ := hs.2
  have c3 : w.cell? ⟨B, 3, none⟩ = some (.int .i64 size) := by rw [cell_of_row w B 3 _ _ _ hb]; rfl
  have c3' : ∀ o, (w.alloc o).cell? ⟨B, 3, none⟩ = some (.int .i64 size) := fun o => (World.cell?_alloc_lt w o ⟨B, 3, none⟩ hB).trans c3
  clear hs hb c3
  go_enter Tryd.func36, Tryd.ntmps36
  go_wp2_with fail
  refine (n_any B a len cap (6 + 2 * size) _ hl (by omega) HS0.out).mono ?_
  rintro e w1 ⟨r, rfl, q0, q1, hs1, ho1⟩
  obtain ⟨m, rfl⟩ := Int.eq_ofNat_of_zero_le q0
  have hm : m ≤ 29 := by omega
  have HS1 := hideD hs1
  have HA1 := hideD ((aft_alloc (B := B) w (.cells #[] 9)).trans ho1.aft)
  have HO1 := hideD (show OwnS w1 w.heap.size (.slice (some ⟨w.heap.size, 0, none⟩) 0 0) [] from own_aft (B := B) (World.ownsRow_made _ _ _ (Nat.le_refl _) (by decide) rfl) ho1.aft hB)
  clear hs1 ho1 q0 q1 c3' hz_0 hz_1 HS0
  go_wp2_with fail
  go_loopw [4, 3] (fun kv v wr => ∃ (k : Nat) (l : List ByteArray), kv = .int .i64 k ∧ k + l.length ≤ 29 ∧ (∀ s ∈ l, s.size ≤ 101) ∧ OwnS wr w.heap.size v l ∧ Src wr B a len cap ∧ Aft B w wr) (fun kv _ _ => (intOf kv).toNat)
  case atStart => exact ⟨m, [], rfl, by simpa using hm, none_le, HO1.out, HS1.out, HA1.out⟩
  case round =>
    obtain ⟨k, l, rfl, hk, hz, ho, hsr, ha⟩ := hrel
    have HO := hideD ho
    have HSR := hideD hsr
    have HA := hideD ha
    have HZ := hideD hz
    have hwz := ha.size
    clear ho hsr ha hz
    by_cases h0 : 0 < k
    · have h0' : (0 : Int) < k := by omega
      have HP := hideD (pick_any B wr.heap.size 4 a len cap 9 four _ hl (HSR.out.below ((Below.refl _ _).alloc (Nat.le_refl _) _)) (four_is wr 9) (by omega) (by decide) (by decide))
      go_wp2_with fail
      refine HP.out.mono ?_
      rintro e w2 ⟨s1, hm1, rfl, hs2, ho2⟩
      have hs1z := four_le s1 hm1
      have HS2 := hideD hs2
      have HA2 := hideD (HA.out.trans ((aft_alloc wr _).trans ho2.aft))
      have HO2 := hideD (own_aft (own_alloc HO.out _) ho2.aft (by omega))
      clear hm1 hs2 ho2
      go_wp2_with fail
      refine (n_any B a len cap 2 _ hl (by omega) HS2.out).mono ?_
      rintro e w3 ⟨r, rfl, q0, q1, hs3, ho3⟩
      obtain ⟨q, rfl⟩ := Int.eq_ofNat_of_zero_le q0
      have hq : q ≤ 1 := by omega
      have HS3 := hideD hs3
      have HA3 := hideD (HA2.out.trans ho3.aft)
      have HO3 := hideD (own_aft HO2.out ho3.aft (by omega))
      clear hs3 ho3 q0 q1
      go_wp2_with fail
      refine (bytes_any B a len cap q _ hl (by omega) HS3.out).mono ?_
      rintro e w4 ⟨l2, hl2, rfl, hs4, ha4⟩
      obtain ⟨t2, hu2, ht2⟩ : ∃ t : ByteArray, t = ⟨l2.toArray⟩ ∧ t.size ≤ 1 := ⟨_, rfl, by
        show l2.toArray.size ≤ 1
        simp
        omega⟩
      rw [← hu2]
      have HS4 := hideD hs4
      have HA4 := hideD (HA3.out.trans ha4)
      have HO4 := hideD (own_aft HO3.out ha4 (by omega))
      have hz4 : w.heap.size ≤ w4.heap.size := HA4.out.size
      have HZS : Hid ((s1 ++ t2).size ≤ 101) := by
        unfold Hid
        rw [ByteArray.size_append]
        omega
      clear hl2 hu2 hs4 ha4
      have hown := HO4.out
      go_wp2_with (at_builtin; refine wpList_append_own _ rfl (.tmp 18) (.tmp 27) 23 rfl w.heap.size 9 i0 (.string ⟨#[]⟩) 1 16 Tryd.underlying23 hi hz0 hz1 hz2 rfl (by decide) _ _ _ rfl (own_alloc hown _) ⟨w4.heap.size, 0, none⟩ 1 1 [.string (s1 ++ t2)] rfl rfl (one_newS _ _ _) (one_cellS _) ?c3 ?c4 ?c5 ?_)
      case c3 => unfold maxLen; omega
      case c4 => omega
      case c5 => simp; omega
      intro v' w5 hown' hgrow _
      have HO5 := hideD (OwnS.snoc hown')
      have hb5 : Below w.heap.size w4 w5 := St.app_one (Below.refl _ _) hz4 (Nat.le_refl _) hown hgrow
      have HA5 := hideD (aft_more HA4.out hb5)
      have HS5 := hideD (HS4.out.stays fun j hj => hb5.block j (by omega))
      clear hown' hgrow hown hb5
      go_wp2_with fail
      go_roundw
      case rel => exact ⟨k - 1, l ++ [s1 ++ t2], by go_num, by rw [List.length_append]; simp; omega, all_snoc HZ.out HZS.out, HO5.out, HS5.out, HA5.out⟩
      case measure => simp [intOf]; omega
    · obtain rfl : k = 0 := by omega
      go_wp2_with fail
      refine (one_any B a len cap 25 _ hl (by omega) HSR.out).mono ?_
      rintro e w2 ⟨b, rfl, hs2, ho2⟩
      have HS2 := hideD hs2
      have HA2 := hideD (HA.out.trans ho2.aft)
      have HO2 := hideD (own_aft HO.out ho2.aft (by omega))
      clear hs2 ho2
      cases b
      · go_wp2_with fail
        go_ret
        exact ⟨_, l, rfl, HO2.out, by omega, HZ.out, HS2.out, HA2.out⟩
      · go_wp2_with fail
        refine (n_any B a len cap 2 _ hl (by omega) HS2.out).mono ?_
        rintro e w3 ⟨r, rfl, q0, q1, hs3, ho3⟩
        obtain ⟨q, rfl⟩ := Int.eq_ofNat_of_zero_le q0
        have hq : q ≤ 1 := by omega
        have HS3 := hideD hs3
        have HA3 := hideD (HA2.out.trans ho3.aft)
        have HO3 := hideD (own_aft HO2.out ho3.aft (by omega))
        have hz3 : w.heap.size ≤ w3.heap.size := HA3.out.size
        clear hs3 ho3 q0 q1
        go_wp2_with (first | (at_make; refine wpList_make_full _ rfl (.tmp 34) (.tmp 34) 22 rfl w3.heap.size 5 j0 (.int .u8 0) 1 Tryd.underlying22 hj hj0 hj1 .i64 .i64 _ _ (100 + q) rfl rfl (by omega) (by omega) (by rw [hj2]; omega) (by unfold maxLen; omega) (Nat.le_refl _) ?_; intro w4 hown4 hgrow4; have hb4 := (Below.refl w3.heap.size w3).grown hgrow4 (Nat.le_refl _) (by simp); have hconv := zero_string (P := Tryd.prog) (src := 22) (dst := 9) (100 + q) (by simpa using hown4) Tryd.underlying22 Tryd.underlying5 Tryd.underlying9; have HS4 := hideD (HS3.out.below hb4); have HA4 := hideD (HA3.out.trans (aft_below hb4)); have HO4 := hideD (own_aft HO3.out (aft_below (B := B) hb4) (by omega)); clear hown4 hgrow4 hb4) | (at_builtin; refine wpList_append_own _ rfl (.tmp 31) (.tmp 37) 23 rfl w.heap.size 9 i0 (.string ⟨#[]⟩) 1 16 Tryd.underlying23 hi hz0 hz1 hz2 rfl (by decide) _ _ _ rfl (own_alloc HO4.out _) ⟨w4.heap.size, 0, none⟩ 1 1 [.string (zeroS (100 + q))] rfl rfl (one_newS _ _ _) (one_cellS _) (by unfold maxLen; omega) (by omega) (by have := HA4.out.size; simp; omega) ?_))
        intro v' w5 hown' hgrow _
        have HZT : Hid ((zeroS (100 + q)).size ≤ 101) := by
          unfold Hid
          rw [zeroS_size]
          omega
        have HO5 := hideD (OwnS.snoc hown')
        have hb5 : Below w.heap.size w4 w5 := St.app_one (Below.refl _ _) HA4.out.size (Nat.le_refl _) HO4.out hgrow
        have HA5 := hideD (aft_more HA4.out hb5)
        have HS5 := hideD (HS4.out.stays fun j hj => hb5.block j (by omega))
        clear hown' hgrow hb5
        go_wp2_with fail
        go_ret
        exact ⟨_, l ++ [zeroS (100 + q)], rfl, HO5.out, by rw [List.length_append]; simp; omega, all_snoc HZ.out HZT.out, HS5.out, HA5.out⟩

set_option maxRecDepth 100000 in
set_option maxHeartbeats 4000000 in
theorem drawPath_any (a : Option Addr) (len cap : Nat) (w : World) (hl : len ≤ 1048576) (hr : Row w w.heap.size a len) :
    Calls Tryd.prog 13 #[.slice a len cap] w fun e w' => ∃ x c l i, e = .returned (.tuple #[.slice x (List.length l) c, .int .i64 i]) ∧ OwnS w' w.heap.size (.slice x l.length c) l ∧ l.length ≤ 30 ∧ l.length ≤ c ∧ (∀ s ∈ l, s.size ≤ 101) ∧ -1 ≤ i ∧ i ≤ 31 ∧ Below w.heap.size w w' := by
  have HR := hideD hr
  clear hr
  go_enter Tryd.func13, Tryd.ntmps13
  go_wp2_with fail
  refine (source_any a len cap _ hl HR.out).mono ?_
  rintro e w1 ⟨rfl, hs1, hb1, hz⟩
  have HB1 := hideD hb1
  clear hb1
  go_wp2_with fail
  refine (some_any w.heap.size a len cap _ hl hs1).mono ?_
  rintro e w2 ⟨v, l, rfl, ho2, hln, hle, hs2, ha2⟩
  obtain ⟨x, c, rfl, hc, _⟩ := ho2.strs
  have HB2 := hideD (ha2.below HB1.out (Nat.le_refl _) (by omega))
  have HO2 := hideD ho2
  have HS2 := hideD hs2
  have HE := hideD hle
  clear ho2 hs2 ha2 hle hs1
  obtain ⟨n, hn⟩ : ∃ n, n = l.length := ⟨_, rfl⟩
  have HN := hideD hn
  rw [← hn] at hln hc HO2 ⊢
  clear hn
  go_wp2_with fail
  refine (n_any w.heap.size a len cap ((n : Int) + 2) _ hl (by omega) HS2.out).mono ?_
  rintro e w3 ⟨r, rfl, q0, q1, hs3, ho3⟩
  have hi0 : -1 ≤ r - 1 ∧ r - 1 ≤ 31 := by omega
  have HB3 := hideD (ho3.below HB2.out (Nat.le_refl _))
  have HO3 := hideD ((own_aft HO2.out ho3.aft (by omega)).mono (base' := w.heap.size) (by omega))
  clear ho3 hs3 q1
  go_wp2_with fail
  go_ret2
  exact ⟨x, c, l, r - 1, by rw [← HN.out]; rfl, by rw [← HN.out]; exact HO3.out, by rw [← HN.out]; exact hln, by rw [← HN.out]; exact hc, HE.out, hi0.1, hi0.2, HB3.out⟩

set_option maxHeartbeats 1000000 in
theorem drawProof_any (a : Option Addr) (len cap : Nat) (w : World) (hl : len ≤ 1048576) (hr : Row w w.heap.size a len) :
    Calls Tryd.prog 5 #[.slice a len cap] w fun e w' => ∃ x c l i, e = .returned (.tuple #[.slice x (List.length l) c, .int .i64 i]) ∧ OwnS w' w.heap.size (.slice x l.length c) l ∧ l.length ≤ 30 ∧ l.length ≤ c ∧ (∀ s ∈ l, s.size ≤ 101) ∧ -1 ≤ i ∧ i ≤ 31 ∧ Below w.heap.size w w' := by
  have HD := hideD (drawPath_any a len cap w hl hr)
  clear hr
  go_enter Tryd.func5, Tryd.ntmps5
  go_wp2_with fail
  refine HD.out.mono ?_
  rintro e w1 ⟨x, c, l, i, rfl, h1, h2, h3, h4, h5, h6, h7⟩
  have K1 := hideD h1
  have K4 := hideD h4
  clear h1 h4
  go_wp2_with fail
  go_ret2
  exact ⟨x, c, l, i, rfl, K1.out, h2, h3, K4.out, h5, h6, h7⟩
end Go.Proofs.YtghghkfhcpldhaaDoor.Dr
