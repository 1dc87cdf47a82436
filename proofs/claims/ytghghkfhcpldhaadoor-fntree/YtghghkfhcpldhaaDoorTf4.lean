/- Texts put together: DrawRange, DrawRAdd. -/
import Derived.Test.YtghghkfhcpldhaaDoorTf2
import Derived.Test.YtghghkfhcpldhaaDoorTf3
import Derived.Deep.RegionWith
import Derived.Deep.RegionLaw
import Derived.Deep.OwnRows
/- What is drawn for the law on trees: a range. -/
namespace Go.Proofs.YtghghkfhcpldhaaDoor.Dr
open Go.RowKit
open Go.Proofs.YtghghkfhcpldhaaDoor.St (OwnS IsS IsO Strs one_newS one_cellS)
open Go.Proofs.YtghghkfhcpldhaaDoor.Tr (peaks add_spec)
open Go.Proofs.YtghghkfhcpldhaaDoor.Sh (step_append_own)

set_option maxRecDepth 100000 in
set_option maxHeartbeats 8000000 in
theorem range_any (B : Nat) (a : Option Addr) (len cap : Nat) (w : World) (hl : len ≤ 1048576) (hs : Src w B a len cap) :
    Calls Tryd.prog 54 #[.pointer (some ⟨B, 0, none⟩)] w fun e w' => RgOut B a len cap w w' e := by
  obtain ⟨i0, hi, hz0, hz1, hz2⟩ := info_parts Tryd.infoT9
  have hB := hs.lt
  have HG0 := hideD (RgS.start hs)
  obtain ⟨at_, mix, size, hb, _, _, _, _, hz_0, hz_1⟩ := hs.2
  have c3 : w.cell? ⟨B, 3, none⟩ = some (.int .i64 size) := by rw [cell_of_row w B 3 _ _ _ hb]; rfl
  have c3' : ∀ o o', ((w.alloc o).alloc o').cell? ⟨B, 3, none⟩ = some (.int .i64 size) := fun o o' => (World.cell?_alloc_lt (w.alloc o) o' ⟨B, 3, none⟩ (by simp; omega)).trans ((World.cell?_alloc_lt w o ⟨B, 3, none⟩ hB).trans c3)
  clear hs hb c3
  go_enter Tryd.func54, Tryd.ntmps54
  go_wp2_with fail
  refine (n_any B a len cap (12 + 2 * size) _ hl (by omega) HG0.out.src).mono ?_
  rintro e w1 ⟨r, rfl, q0, q1, hs1, ho1⟩
  obtain ⟨m, rfl⟩ := Int.eq_ofNat_of_zero_le q0
  have hm : m ≤ 35 := by omega
  have HG1 := hideD (HG0.out.turn hs1 ho1.aft)
  clear hs1 ho1 q0 q1 c3' hz_0 hz_1 HG0
  go_wp2_with fail
  go_loopw [4] (fun kv wr => ∃ (k : Nat) (l : List ByteArray) (x : Option Addr) (pn c : Nat), kv = .int .i64 k ∧ k + l.length ≤ 35 ∧ pn = (peaks l).length ∧ RgS B a len cap w wr l.length (.slice x pn c) ∧ OwnS wr (w.heap.size + 2) (.slice x pn c) (peaks l)) (fun kv _ => (intOf kv).toNat)
  case atStart => exact ⟨m, [], none, 0, 0, rfl, by simpa using hm, by rw [Tr.peaks_nil [] rfl]; rfl, HG1.out, by rw [Tr.peaks_nil [] rfl]; exact OwnS.nil _ _⟩
  case round =>
    obtain ⟨k, l, x, pn, c, rfl, hk, hpn, hg, ho⟩ := hrel
    have HG := hideD hg
    have HO := hideD ho
    have hwz := hg.far
    have HPN := hideD hpn
    have hpl := peaks_le l
    have HPK := hideD (fun (t : ByteArray) (h : t.size ≤ 100) => Tr.add_peaks l t (by omega) h)
    have HAD : Hid (∀ (t : ByteArray) (W : World), t.size ≤ 100 → OwnS W (w.heap.size + 2) (.slice x pn c) (peaks l) → Calls Tryd.prog 23 #[.agg #[.int .i64 (l.length : Int), .slice x pn c], .string t] W fun e w' => ∃ x' c' pn', e = .returned (.agg #[.int .i64 ((l.length : Int) + 1), .slice x' pn' c']) ∧ Hid (pn' = (peaks (l ++ [t])).length) ∧ OwnS w' W.heap.size (.slice x' pn' c') (peaks (l ++ [t])) ∧ Below W.heap.size W w') := fun t W ht hO => by
      obtain ⟨x', c', hv, _, hst, hnone⟩ := own_parts hO
      have e1 : x = x' := by simp at hv; exact hv.1
      have e2 : c = c' := by simp at hv; exact hv.2.2
      subst e1
      subst e2
      have := add_spec l.length (peaks l) t x c W.heap.size W (by omega) (by unfold maxLen; omega) hst hnone (Nat.le_refl _)
      rw [(HPK.out t ht).1, (HPK.out t ht).2, ← HPN.out] at this
      refine this.mono ?_
      rintro e w' ⟨v, rfl, ho, hb⟩
      obtain ⟨x', c', rfl, _⟩ := own_parts ho
      exact ⟨x', c', _, by rw [List.length_append]; rfl, rfl, ho, hb⟩
    clear hg ho hpn HPK
    obtain ⟨ln, hln⟩ : ∃ ln, ln = l.length := ⟨_, rfl⟩
    have HLN := hideD hln
    rw [← hln] at hk HG HAD hpl
    clear hln
    by_cases h0 : 0 < k
    · have h0' : (0 : Int) < k := by omega
      have HGd := hideD HG.out.drew
      have HOd := hideD (HO.out.below (show Below wr.heap.size wr wr.drew from (Below.refl _ _).drew))
      obtain ⟨c00, c01, z00, z01, c10, c11, z10, z11⟩ := HG.out.cells
      clear c00 c01 z00 z01 z10 z11
      go_wp2_with fail
      go_region_with (first | (go_at_call 37; (with_reducible refine (n_any B a len cap 3 _ hl (by omega) ?_).mono ?_); (· exact HGd.out.src); rintro e w2 ⟨r, rfl, q0, q1, hs2, ho2⟩; obtain ⟨q, rfl⟩ := Int.eq_ofNat_of_zero_le q0; have hq : q ≤ 2 := (by omega); have HG2 := hideD (HGd.out.turn hs2 ho2.aft); have HO2 := hideD (own_aft HOd.out ho2.aft (by omega)); have d10 := HG2.out.cells.2.2.2.2.1; have d11 := HG2.out.cells.2.2.2.2.2.1; clear hs2 ho2 q0 q1) | (go_at_call 55; (with_reducible refine (bytes_any B a len cap q _ hl (by omega) ?_).mono ?_); (· exact HG2.out.src); rintro e w3 ⟨l3, hl3, rfl, hs3, ha3⟩; obtain ⟨t3, hu3, ht3⟩ : ∃ t : ByteArray, t = ⟨l3.toArray⟩ ∧ t.size ≤ 100 := ⟨_, rfl, (by show l3.toArray.size ≤ 100; simp; omega)⟩; rw [← hu3]; have HG3 := hideD (HG2.out.turn hs3 ha3); have HO3 := hideD (own_aft HO2.out ha3 (by omega)); have f10 := HG3.out.cells.2.2.2.2.1; have f11 := HG3.out.cells.2.2.2.2.2.1; clear hl3 hu3 hs3 ha3) | (go_at_call 23; (with_reducible refine (HAD.out t3 w3 ht3 HO3.out).mono ?_); rintro e w4 ⟨x4, c4, pn4, rfl, HPN4, ho4, hb4⟩; have HG4 := hideD (HG3.out.below hb4); have HO4 := hideD (ho4.mono HG3.out.far); have k10 := HG4.out.cells.2.2.2.2.1; have k11 := HG4.out.cells.2.2.2.2.2.1; have j10 := HG4.out.cells.2.2.2.2.2.2.1; have j11 := HG4.out.cells.2.2.2.2.2.2.2; clear ho4 hb4))
      all_goals (try go_wp2_with fail)
      all_goals
        go_roundw
        case rel => exact ⟨k - 1, l ++ [t3], x4, pn4, c4, by go_num, by rw [List.length_append, ← HLN.out]; simp; omega, HPN4.out, by rw [List.length_append, ← HLN.out]; exact (HG4.out.set0 _).set1 _, Tr.own_set_low (Tr.own_set_low HO4.out _ _ (by simp)) _ _ (by simp)⟩
        case measure => simp [intOf]; omega
    · obtain rfl : k = 0 := by omega
      have hpn35 : pn ≤ 35 := by have := HPN.out; omega
      clear HAD
      go_wp2_with fail
      refine (one_any B a len cap 15 _ hl (by omega) HG.out.src).mono ?_
      rintro e w2 ⟨b, rfl, hs2, ho2⟩
      have HG2 := hideD (HG.out.turn hs2 ho2.aft)
      have HO2 := hideD (own_aft HO.out ho2.aft (by omega))
      clear hs2 ho2
      cases b
      · obtain ⟨c00, c01, z00, z01, c10, c11, z10, z11⟩ := HG2.out.cells
        go_wp2_with fail
        exact bodyPost_ret (v := .agg #[.int .i64 (ln : Int), .slice x pn c]) (by simp [results, Tryd.results54, go_sem, c00, c01]) rfl (HG2.out.out HPN.out HO2.out (by rw [← HPN.out]; omega))
      · go_wp2_with fail
        refine (n_any B a len cap 3 _ hl (by omega) HG2.out.src).mono ?_
        rintro e w3 ⟨r, rfl, q0, q1, hs3, ho3⟩
        obtain ⟨k3, rfl⟩ := Int.eq_ofNat_of_zero_le q0
        have HG3 := hideD (HG2.out.turn hs3 ho3.aft)
        have HO3 := hideD (own_aft HO2.out ho3.aft (by omega))
        have hk3 : k3 = 0 ∨ k3 = 1 ∨ k3 = 2 := by omega
        clear hs3 ho3 q0 q1
        have hz3 := HG3.out.far
        rcases hk3 with rfl | rfl | rfl
        · go_wp2_with fail
          have HG4 := hideD (HG3.out.below ((Below.refl _ _).alloc (Nat.le_refl _) (.cells #[.int .i64 (-1), .int .i64 999999, .int .i64 1000000, .int .i64 1000001] 2)))
          refine (n_any B a len cap 4 _ hl (by omega) HG4.out.src).mono ?_
          rintro e w5 ⟨r, rfl, q0, q1, hs5, ho5⟩
          obtain ⟨k5, rfl⟩ := Int.eq_ofNat_of_zero_le q0
          have hk5 : k5 < 4 := by omega
          have hbk : w5.heap[w3.heap.size]? = some (.cells #[.int .i64 (-1), .int .i64 999999, .int .i64 1000000, .int .i64 1000001] 2 (0, 0)) := (ho5.2.2.2.2 w3.heap.size (by omega)).trans (heap_alloc_last w3 _)
          obtain ⟨y, hy, hy4⟩ := cells_sizes hbk k5 hk5
          have HG5 := hideD (HG4.out.turn hs5 ho5.aft)
          have HON := hideD (ones_four y hy4)
          clear hs5 ho5 q0 q1 hbk hy4
          obtain ⟨c00, c01, z00, z01, c10, c11, z10, z11⟩ := HG5.out.cells
          go_wp2_with fail
          have HG6 := hideD ((HG5.out.set0 y).set1 (.slice none 0 0))
          refine (HON.out _).mono ?_
          rintro e w6 ⟨k6, hk6, rfl, hw6⟩
          have HG7 : Hid (RgS B a len cap w w6 y (.slice none 0 0)) := by rw [hw6]; exact HG6.out
          clear hw6 c00 c01 z00 z01 c10 c11 z10 z11 hy HON
          go_wp2_with fail
          go_loopw [5] (fun kv wr => ∃ (k : Nat) (p : List ByteArray) (x : Option Addr) (pn c : Nat), kv = .int .i64 k ∧ k + pn ≤ 20 ∧ pn = p.length ∧ RgS B a len cap w wr y (.slice x pn c) ∧ OwnS wr (w.heap.size + 2) (.slice x pn c) p) (fun kv _ => (intOf kv).toNat)
          case atStart => exact ⟨k6, [], none, 0, 0, rfl, by omega, rfl, HG7.out, OwnS.nil _ _⟩
          case round =>
            obtain ⟨k, p, x, pn, c, rfl, hk, hpn, hg, ho⟩ := hrel
            have HG := hideD hg
            have HO := hideD ho
            have hwz := hg.far
            have HPN := hideD hpn
            clear hg ho hpn
            by_cases h0 : 0 < k
            · have h0' : (0 : Int) < k := by omega
              have HDG110 := hideD (fun (W : World) => Sh.digest_spec ⟨#[110]⟩ W (by decide))
              generalize Sh.digestV ⟨#[110]⟩ = dg at HDG110
              have HGd := hideD HG.out.drew
              have HOd := hideD (HO.out.below (show Below wr.heap.size wr wr.drew from (Below.refl _ _).drew))
              obtain ⟨_, _, _, _, _, c11, _, z11⟩ := HG.out.cells
              go_wp2_with fail
              go_region_law (first | (refine step_append_own rfl (.tmp 50) (.tmp 52) 23 rfl (w.heap.size + 2) 9 i0 (.string ⟨#[]⟩) 1 16 Tryd.underlying23 hi hz0 hz1 hz2 rfl (by decide) (.slice x pn c) pn _ rfl ((own_row HPN.out HO4.out).alloc _) ⟨w4.heap.size, 0, none⟩ 1 1 [.string dg] rfl rfl (one_newS w4 _ _) (one_cellS _) (by unfold maxLen; omega) (by omega) (by simp; omega) ?_; intro v5 w5 hown5 hgrow5; obtain ⟨x5, c5, rfl, HG5, HO5⟩ := HG4.out.app HPN.out HO4.out hown5 hgrow5; have k11 := HG5.out.cells.2.2.2.2.2.1; have j11 := HG5.out.cells.2.2.2.2.2.2.2; have k10 := HG5.out.cells.2.2.2.2.1; have k00 := HG5.out.cells.1; have k01 := HG5.out.cells.2.1; have j00 := HG5.out.cells.2.2.1; have j01 := HG5.out.cells.2.2.2.1; clear hown5 hgrow5) | (go_simp; go_at_call 41; (with_reducible refine (HDG110.out _).mono ?_); rintro e w4 ⟨rfl, hb4⟩; have HG4 := hideD (HGd.out.below hb4); have HO4 := hideD (HOd.out.below hb4); have hz4 := HG4.out.far; have d11 := HG4.out.cells.2.2.2.2.2.1; have d12 := HG4.out.held; clear hb4))
              all_goals (try go_wp2_with fail)
              all_goals
                go_roundw
                case rel => exact ⟨k - 1, p ++ [dg], x5, pn + 1, c5, by go_num, by omega, by rw [List.length_append, HPN.out]; rfl, HG5.out.set1 _, Tr.own_set_low HO5.out _ _ (by simp)⟩
                case measure => simp [intOf]; omega
            · obtain rfl : k = 0 := by omega
              obtain ⟨c00, c01, z00, z01, c10, c11, z10, z11⟩ := HG.out.cells
              go_wp2_with fail
              exact bodyPost_ret (v := .agg #[.int .i64 y, .slice x pn c]) (by simp [results, Tryd.results54, go_sem, c00, c01]) rfl (HG.out.out HPN.out HO.out (by rw [← HPN.out]; omega))
        · have HDG109 := hideD (fun (W : World) => Sh.digest_spec ⟨#[109]⟩ W (by decide))
          generalize Sh.digestV ⟨#[109]⟩ = dg at HDG109
          have HGd := hideD HG3.out.drew
          have HOd := hideD (HO3.out.below (show Below w3.heap.size w3 w3.drew from (Below.refl _ _).drew))
          obtain ⟨_, _, _, _, _, c11, _, z11⟩ := HG3.out.cells
          go_wp2_with fail
          go_region_law (first | (refine step_append_own rfl (.tmp 58) (.tmp 60) 23 rfl (w.heap.size + 2) 9 i0 (.string ⟨#[]⟩) 1 16 Tryd.underlying23 hi hz0 hz1 hz2 rfl (by decide) (.slice x pn c) pn _ rfl ((own_row HPN.out HO4.out).alloc _) ⟨w4.heap.size, 0, none⟩ 1 1 [.string dg] rfl rfl (one_newS w4 _ _) (one_cellS _) (by unfold maxLen; omega) (by omega) (by simp; omega) ?_; intro v5 w5 hown5 hgrow5; obtain ⟨x5, c5, rfl, HG5, HO5⟩ := HG4.out.app HPN.out HO4.out hown5 hgrow5; have k11 := HG5.out.cells.2.2.2.2.2.1; have j11 := HG5.out.cells.2.2.2.2.2.2.2; have k10 := HG5.out.cells.2.2.2.2.1; have k00 := HG5.out.cells.1; have k01 := HG5.out.cells.2.1; have j00 := HG5.out.cells.2.2.1; have j01 := HG5.out.cells.2.2.2.1; clear hown5 hgrow5) | (go_simp; go_at_call 41; (with_reducible refine (HDG109.out _).mono ?_); rintro e w4 ⟨rfl, hb4⟩; have HG4 := hideD (HGd.out.below hb4); have HO4 := hideD (HOd.out.below hb4); have hz4 := HG4.out.far; have d11 := HG4.out.cells.2.2.2.2.2.1; have d12 := HG4.out.held; clear hb4))
          all_goals (try go_wp2_with fail)
          all_goals exact bodyPost_ret (v := .agg #[.int .i64 (ln : Int), .slice x5 (pn + 1) c5]) (by simp [results, Tryd.results54, go_sem, k00, k01]) rfl ((HG5.out.set1 _).out (p := peaks l ++ [dg]) (by rw [List.length_append, HPN.out]; rfl) (Tr.own_set_low HO5.out _ _ (by simp)) (by rw [List.length_append, ← HPN.out]; simp; omega))
        · obtain ⟨c00, c01, z00, z01, c10, c11, z10, z11⟩ := HG3.out.cells
          go_wp2_with fail
          exact bodyPost_ret (v := .agg #[.int .i64 ((ln : Int) + 1), .slice x pn c]) (by simp [results, Tryd.results54, go_sem, c00, c01]) rfl ((HG3.out.set0 _).out HPN.out (Tr.own_set_low HO3.out _ _ (by simp)) (by rw [← HPN.out]; omega))
end Go.Proofs.YtghghkfhcpldhaaDoor.Dr

/- What is drawn for the law on trees: a range and a text. -/
namespace Go.Proofs.YtghghkfhcpldhaaDoor.Dr
open Go.RowKit
open Go.Proofs.YtghghkfhcpldhaaDoor.St (OwnS IsS IsO Strs)
open Go.Proofs.YtghghkfhcpldhaaDoor.Tr (lt_of_row own_set_low)

/-- the answer's place, the variable, the source -/
structure RaS (a : Option Addr) (len cap : Nat) (w W : World) (g : Nat) (n : Int) (v : Value) : Prop where
  r0 : W.heap[w.heap.size]? = some (.cells #[.int .i64 0, .slice none 0 0] 34 (0, 0))
  rv : W.heap[g]? = some (.cells #[.int .i64 n, v] 34 (0, 0))
  src : Src W (w.heap.size + 1) a len cap
  low : Below w.heap.size w W
  far : w.heap.size + 2 ≤ g
theorem RaS.turn {a : Option Addr} {len cap g : Nat} {w W W' : World} {n : Int} {v : Value} (h : RaS a len cap w W g n v) (hs : Src W' (w.heap.size + 1) a len cap) (ha : Aft (w.heap.size + 1) W W') : RaS a len cap w W' g n v :=
  ⟨(ha.block _ (lt_of_row h.r0) (by omega)).trans h.r0, (ha.block _ (lt_of_row h.rv) (by have := h.far; omega)).trans h.rv, hs, ha.below h.low (by omega) h.low.size, h.far⟩
theorem RaS.below {a : Option Addr} {len cap g : Nat} {w W W' : World} {n : Int} {v : Value} (h : RaS a len cap w W g n v) (hb : Below W.heap.size W W') : RaS a len cap w W' g n v := h.turn (h.src.below hb) (aft_below hb)
theorem RaS.drew {a : Option Addr} {len cap g : Nat} {w W : World} {n : Int} {v : Value} (h : RaS a len cap w W g n v) : RaS a len cap w W.drew g n v := h.below (Below.refl _ _).drew
theorem RaS.cells {a : Option Addr} {len cap g : Nat} {w W : World} {n : Int} {v : Value} (h : RaS a len cap w W g n v) :
    W.cell? ⟨w.heap.size, 0, none⟩ = some (.int .i64 0) ∧ W.cell? ⟨w.heap.size, 1, none⟩ = some (.slice none 0 0) ∧ W.frozen? ⟨w.heap.size, 0, none⟩ = false ∧ W.frozen? ⟨w.heap.size, 1, none⟩ = false ∧
    W.cell? ⟨g, 0, none⟩ = some (.int .i64 n) ∧ W.cell? ⟨g, 1, none⟩ = some v :=
  ⟨cell_of_row W _ 0 _ _ _ h.r0, cell_of_row W _ 1 _ _ _ h.r0, frozen_of_row W _ 0 _ _ h.r0, frozen_of_row W _ 1 _ _ h.r0, cell_of_row W _ 0 _ _ _ h.rv, cell_of_row W _ 1 _ _ _ h.rv⟩
/-- what is drawn -/
def RaOut (w w' : World) (e : Ending) : Prop :=
  ∃ n x c p t, e = .returned (.tuple #[.agg #[.int .i64 n, .slice x (List.length p) c], .string t]) ∧ Strs w' w'.heap.size x p ∧ (x = none → p.length = 0 ∧ c = 0) ∧ p.length ≤ 100 ∧ p.length ≤ c ∧ t.size ≤ 101 ∧ Below w.heap.size w w'
theorem RaS.out {a : Option Addr} {len cap g base : Nat} {w W : World} {n : Int} {x : Option Addr} {m c : Nat} {p : List ByteArray} {t : ByteArray} (h : RaS a len cap w W g n (.slice x m c)) (hm : m = p.length) (ho : OwnS W base (.slice x m c) p) (hb : w.heap.size < base) (hp : p.length ≤ 100) (ht : t.size ≤ 101) :
    RaOut w ((W.setCell ⟨w.heap.size, 0, none⟩ (.int .i64 n)).setCell ⟨w.heap.size, 1, none⟩ (.slice x m c)) (.returned (.tuple #[.agg #[.int .i64 n, .slice x m c], .string t])) := by
  subst hm
  obtain ⟨x', c', hv, hc, hs, hn⟩ := own_parts (own_set_low (own_set_low ho ⟨w.heap.size, 0, none⟩ (.int .i64 n) hb) ⟨w.heap.size, 1, none⟩ (.slice x p.length c) hb)
  have e1 : x = x' := by simp at hv; exact hv.1
  have e2 : c = c' := by simp at hv; exact hv.2
  subst e1
  subst e2
  exact ⟨n, x, c, p, t, rfl, hs, hn, hp, hc, ht, (h.low.setCell (by simp) _).setCell (by simp) _⟩
theorem make_zero (q : Nat) (hq : q ≤ 1) (W : World) : (Instr.makeSlice 22 (.int .i64 (100 + (q : Int))) (.int .i64 (100 + (q : Int)))).run Tryd.prog W = .ok (.slice (some ⟨W.heap.size, 0, none⟩) (100 + q) (100 + q)) (W.alloc (.cells (madeCells #[.int .u8 0] (100 + q)) 5)) := by
  have := run_make_row' (P := Tryd.prog) 22 5 (.int .u8 0) 1 Tryd.underlying22 Tryd.infoD5 rfl .i64 .i64 (100 + q) (by omega) (by omega) W
  rw [show ((100 + q : Nat) : Int) = 100 + (q : Int) by omega] at this
  exact this
theorem conv_at (q g : Nat) (hq : q ≤ 1) (W : World) (h : W.heap[g]? = some (.cells (madeCells #[.int .u8 0] (100 + q)) 5 (0, 0))) : (convert 22 9 (.slice (some ⟨g, 0, none⟩) (100 + q) (100 + q))).run Tryd.prog W = .ok (.string (zeroS (100 + q))) W := by
  have hz : (madeCells #[Value.int .u8 0] (100 + q)).size = 100 + q := size_madeCells _ _
  refine zero_string (base := g) (e := 5) (100 + q) ⟨?_, .inr ⟨g, 100 + q, madeCells #[.int .u8 0] (100 + q), rfl, Nat.le_refl _, h, Nat.le_refl _, by unfold maxLen; omega, by rw [hz]; omega, ?_⟩⟩ Tryd.underlying22 Tryd.underlying5 Tryd.underlying9
  · rw [Array.length_toList]
    exact hz.trans (by omega)
  · rw [List.take_of_length_le (by rw [Array.length_toList, hz]; omega)]
    rfl
theorem conv_zero (q : Nat) (hq : q ≤ 1) (W : World) : (convert 22 9 (.slice (some ⟨W.heap.size, 0, none⟩) (100 + q) (100 + q))).run Tryd.prog (W.alloc (.cells (madeCells #[.int .u8 0] (100 + q)) 5)) = .ok (.string (zeroS (100 + q))) (W.alloc (.cells (madeCells #[.int .u8 0] (100 + q)) 5)) :=
  conv_at q _ hq _ (heap_alloc_new W _)
theorem conv_late (q z : Nat) (hq : q ≤ 1) (W : World) (hz : z < W.heap.size) (u v : Value) : (convert 22 9 (.slice (some ⟨W.heap.size, 0, none⟩) (100 + q) (100 + q))).run Tryd.prog (((W.alloc (.cells (madeCells #[.int .u8 0] (100 + q)) 5)).setCell ⟨z, 0, none⟩ u).setCell ⟨z, 1, none⟩ v) = .ok (.string (zeroS (100 + q))) (((W.alloc (.cells (madeCells #[.int .u8 0] (100 + q)) 5)).setCell ⟨z, 0, none⟩ u).setCell ⟨z, 1, none⟩ v) :=
  conv_at q _ hq _ ((heap_setCell_other _ _ _ _ (by show W.heap.size ≠ z; omega)).trans ((heap_setCell_other _ _ _ _ (by show W.heap.size ≠ z; omega)).trans (heap_alloc_new W _)))

theorem size_set (W : World) (z : Nat) (u v : Value) : ((W.setCell ⟨z, 0, none⟩ u).setCell ⟨z, 1, none⟩ v).heap.size = W.heap.size := by simp [World.setCell]
theorem make_early (q z : Nat) (hq : q ≤ 1) (W : World) (u v : Value) : (Instr.makeSlice 22 (.int .i64 (100 + (q : Int))) (.int .i64 (100 + (q : Int)))).run Tryd.prog ((W.setCell ⟨z, 0, none⟩ u).setCell ⟨z, 1, none⟩ v) = .ok (.slice (some ⟨W.heap.size, 0, none⟩) (100 + q) (100 + q)) (((W.setCell ⟨z, 0, none⟩ u).setCell ⟨z, 1, none⟩ v).alloc (.cells (madeCells #[.int .u8 0] (100 + q)) 5)) := by
  have := make_zero q hq ((W.setCell ⟨z, 0, none⟩ u).setCell ⟨z, 1, none⟩ v)
  rw [size_set] at this
  exact this
theorem conv_early (q z : Nat) (hq : q ≤ 1) (W : World) (u v : Value) : (convert 22 9 (.slice (some ⟨W.heap.size, 0, none⟩) (100 + q) (100 + q))).run Tryd.prog (((W.setCell ⟨z, 0, none⟩ u).setCell ⟨z, 1, none⟩ v).alloc (.cells (madeCells #[.int .u8 0] (100 + q)) 5)) = .ok (.string (zeroS (100 + q))) (((W.setCell ⟨z, 0, none⟩ u).setCell ⟨z, 1, none⟩ v).alloc (.cells (madeCells #[.int .u8 0] (100 + q)) 5)) := by
  have := conv_zero q hq ((W.setCell ⟨z, 0, none⟩ u).setCell ⟨z, 1, none⟩ v)
  rw [size_set] at this
  exact this
theorem RaOut.below {w W W' : World} {e : Ending} (h : RaOut w W e) (hb : Below W.heap.size W W') : RaOut w W' e := by
  obtain ⟨n, x, c, p, t, he, hs, h1, h2, h3, h4, hl⟩ := h
  exact ⟨n, x, c, p, t, he, (hs.below hb).mono hb.size, h1, h2, h3, h4, hl.trans (hb.mono hl.size)⟩

set_option maxRecDepth 100000 in
set_option maxHeartbeats 4000000 in
theorem drawRAdd_any (a : Option Addr) (len cap : Nat) (w : World) (hl : len ≤ 1048576) (hr : Row w w.heap.size a len) :
    Calls Tryd.prog 22 #[.slice a len cap] w fun e w' => RaOut w w' e := by
  have HR0 : Hid (Row (w.alloc (.cells #[.int .i64 0, .slice none 0 0] 34)) (w.alloc (.cells #[.int .i64 0, .slice none 0 0] 34)).heap.size a len) := (Row.below hr ((Below.refl _ _).alloc (Nat.le_refl _) _)).mono (by simp)
  clear hr
  go_enter Tryd.func22, Tryd.ntmps22
  go_wp2_with fail
  refine (source_any a len cap _ hl HR0.out).mono ?_
  rintro e w1 ⟨rfl, hs1, hb1, hz⟩
  rw [show (w.alloc (.cells #[.int .i64 0, .slice none 0 0] 34)).heap.size = w.heap.size + 1 by simp] at hs1 hb1 hz ⊢
  have HR1 := hideD ((hb1.block w.heap.size (by omega)).trans (Tr.new1 w _ _))
  have HB1 := hideD (((Below.refl w.heap.size w).alloc (Nat.le_refl _) _).trans (hb1.mono (by omega)))
  have HS1 := hideD hs1
  clear hs1 hb1
  go_wp2_with fail
  refine (range_any (w.heap.size + 1) a len cap _ hl HS1.out).mono ?_
  rintro e w2 ⟨n, x, c, p, rfl, ho2, hp2, hs2, ha2⟩
  have HR2 := hideD ((ha2.block w.heap.size (by omega) (by omega)).trans HR1.out)
  have HB2 := hideD (ha2.below HB1.out (by omega) (by omega))
  have hz2 : w1.heap.size ≤ w2.heap.size := ha2.size
  obtain ⟨pn, hpn⟩ : ∃ pn, pn = p.length := ⟨_, rfl⟩
  have HPN := hideD hpn
  rw [← hpn] at ho2 hp2 ⊢
  have HA3 : Hid (RaS a len cap w (w2.alloc (.cells #[.int .i64 n, .slice x pn c] 34)) w2.heap.size n (.slice x pn c)) := ⟨(Below.heap_alloc _ _ _ (by omega)).trans HR2.out, Tr.new1 w2 _ _, hs2.below ((Below.refl _ _).alloc (Nat.le_refl _) _), HB2.out.alloc (by omega) _, by omega⟩
  have HO3 := hideD (own_alloc ho2 (.cells #[.int .i64 n, .slice x pn c] 34))
  clear hpn ho2 hs2 ha2 HR1 HB1 HR2 HB2
  go_wp2_with fail
  refine (one_any (w.heap.size + 1) a len cap 12 _ hl (by omega) HA3.out.src).mono ?_
  rintro e w4 ⟨b, rfl, hs4, ho4⟩
  have HA4 := hideD (HA3.out.turn hs4 ho4.aft)
  have HO4 := hideD (own_aft HO3.out ho4.aft (by omega))
  clear hs4 ho4 HA3 HO3
  have HAd := hideD HA4.out.drew
  have HOd := hideD (HO4.out.below (show Below w4.heap.size w4 w4.drew from (Below.refl _ _).drew))
  obtain ⟨_, _, _, _, c50, c51⟩ := HA4.out.cells
  cases b
  · go_wp2_with fail
    go_region_with (first | (go_at_call 37; (with_reducible refine (n_any (w.heap.size + 1) a len cap 4 _ hl (by omega) ?_).mono ?_); (· exact HAd.out.src); rintro e w5 ⟨r, rfl, q0, q1, hs5, ho5⟩; obtain ⟨q, rfl⟩ := Int.eq_ofNat_of_zero_le q0; have hq : q ≤ 3 := (by omega); have HA5 := hideD (HAd.out.turn hs5 ho5.aft); have HO5 := hideD (own_aft HOd.out ho5.aft (by omega)); have d50 := HA5.out.cells.2.2.2.2.1; have d51 := HA5.out.cells.2.2.2.2.2; clear hs5 ho5 q0 q1) | (go_at_call 55; (with_reducible refine (bytes_any (w.heap.size + 1) a len cap q _ hl (by omega) ?_).mono ?_); (· exact HA5.out.src); rintro e w6 ⟨l6, hl6, rfl, hs6, ha6⟩; obtain ⟨t6, hu6, ht6⟩ : ∃ t : ByteArray, t = ⟨l6.toArray⟩ ∧ t.size ≤ 101 := ⟨_, rfl, (by show l6.toArray.size ≤ 101; simp; omega)⟩; rw [← hu6]; have HA6 := hideD (HA5.out.turn hs6 ha6); have HO6 := hideD (own_aft HO5.out ha6 (by omega)); obtain ⟨f00, f01, g00, g01, f50, f51⟩ := HA6.out.cells; clear hl6 hu6 hs6 ha6))
    all_goals (try go_wp2_with fail)
    all_goals exact bodyPost_ret (v := .tuple #[.agg #[.int .i64 n, .slice x pn c], .string t6]) (by simp [results, Tryd.results22, go_sem, f00, f01]) rfl (HA6.out.out HPN.out HO6.out (by omega) (by rw [← HPN.out]; exact hp2) ht6)
  · go_wp2_with fail
    go_region_with (first | (go_at_call 37; (with_reducible refine (n_any (w.heap.size + 1) a len cap 2 _ hl (by omega) ?_).mono ?_); (· exact HAd.out.src); rintro e w5 ⟨r, rfl, q0, q1, hs5, ho5⟩; obtain ⟨q, rfl⟩ := Int.eq_ofNat_of_zero_le q0; have hq : q ≤ 1 := (by omega); have HA5 := hideD (HAd.out.turn hs5 ho5.aft); have HO5 := hideD (own_aft HOd.out ho5.aft (by omega)); obtain ⟨e00, e01, y00, y01, d50, d51⟩ := HA5.out.cells; have hz5 := lt_of_row HA5.out.r0; have HA6 := hideD (HA5.out.below ((Below.refl _ _).alloc (Nat.le_refl _) (.cells (madeCells #[.int .u8 0] (100 + q)) 5))); have HO6 := hideD (own_alloc HO5.out (.cells (madeCells #[.int .u8 0] (100 + q)) 5)); obtain ⟨f00, f01, g00, g01, f50, f51⟩ := HA6.out.cells; have hwr : IntKind.i64.wrap (100 + (q : Int)) = 100 + (q : Int) := (by rw [IntKind.wrap_i64]; omega); have hmk := make_zero q hq w5; have hcv := conv_zero q hq w5; have hmx := make_early q w.heap.size hq w5 (.int .i64 n) (.slice x pn c); have hcx := conv_early q w.heap.size hq w5 (.int .i64 n) (.slice x pn c); have hcw := conv_late q w.heap.size hq w5 (lt_of_row HA5.out.r0) (.int .i64 n) (.slice x pn c); clear hs5 ho5 q0 q1))
    all_goals (try go_wp2_with fail)
    all_goals first
      | exact bodyPost_ret (v := .tuple #[.agg #[.int .i64 n, .slice x pn c], .string (zeroS (100 + q))]) (by simp [results, Tryd.results22, go_sem, f00, f01]) rfl (HA6.out.out HPN.out HO6.out (by omega) (by rw [← HPN.out]; exact hp2) (by rw [zeroS_size]; omega))
      | exact bodyPost_ret (v := .tuple #[.agg #[.int .i64 n, .slice x pn c], .string (zeroS (100 + q))]) (by simp [results, Tryd.results22, go_sem, e00, e01, hz5]) rfl ((HA5.out.out HPN.out HO5.out (by omega) (by rw [← HPN.out]; exact hp2) (by rw [zeroS_size]; omega)).below ((Below.refl _ _).alloc (Nat.le_refl _) _))
end Go.Proofs.YtghghkfhcpldhaaDoor.Dr
