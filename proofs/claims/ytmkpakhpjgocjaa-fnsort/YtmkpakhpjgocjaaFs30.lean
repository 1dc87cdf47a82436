/- Texts put together: BwtImpl, AppFresh. -/
import Derived.Test.YtmkpakhpjgocjaaFs5
import Derived.Test.YtmkpakhpjgocjaaFs27
import Derived.Test.YtmkpakhpjgocjaaFs29
import Derived.Laws.AppendOwn
import Derived.WalkKit
import Derived.Below
/- What the program's Bwt answers. -/
namespace Go.Proofs.Ytmkpakhpjgocjaa.So
open Go.RowKit Go.Sort Go.Proofs
open Go.Proofs.Ytmkpakhpjgocjaa.Sh (bt bt_get bt_lt strF IsB made_row)

/-- a SortOut as the model holds it -/
def sOut (t : ByteArray) (a c : Nat) : Value := .agg #[.string t, .int .i64 a, .int .i64 c]
def IsR (w : World) (g : Nat) : Prop := w.heap[g]? = some (.cells #[.string ⟨#[]⟩, .int .i64 0, .int .i64 0] 49 (0, 0))
theorem IsR.cells {w : World} {g : Nat} (h : IsR w g) : w.cell? ⟨g, 0, none⟩ = some (.string ⟨#[]⟩) ∧ w.cell? ⟨g, 1, none⟩ = some (.int .i64 0) ∧ w.cell? ⟨g, 2, none⟩ = some (.int .i64 0) ∧ (∀ j, w.frozen? ⟨g, j, none⟩ = false) := by
  refine ⟨?_, ?_, ?_, fun j => frozen_of_row w g j _ _ h⟩
  · rw [cell_of_row w g 0 _ _ (0, 0) h]; rfl
  · rw [cell_of_row w g 1 _ _ (0, 0) h]; rfl
  · rw [cell_of_row w g 2 _ _ (0, 0) h]; rfl
theorem atK_next (f : Nat → Nat) (k : Nat) : (f k = 0 → atK f (k + 1) = k) ∧ (f k ≠ 0 → atK f (k + 1) = atK f k) := by
  constructor
  · intro h; rw [atK, if_pos h]
  · intro h; rw [atK, if_neg h]

set_option maxRecDepth 100000 in
set_option maxHeartbeats 1000000 in
theorem bwt_impl (t : ByteArray) (w : World) (hn : t.size ≤ 1048576) :
    Calls Try.prog 34 #[.string t] w fun e w' => e = .returned (sOut (bwtT t) (bwtA t) (bwtC t)) ∧ Below w.heap.size w w' := by
  obtain ⟨i0, hi0, hz0, hz1, hz2⟩ := info_parts Nu.Try.infoJ5
  by_cases hbig : 8000 < t.size
  · have HV : Hid (sOut (bwtT t) (bwtA t) (bwtC t) = sOut ⟨#[]⟩ 0 2) := by
      unfold Hid
      rw [(bwt_no (by omega)).1, (bwt_no (by omega)).2, bwtC, if_pos hbig]
    go_enter Try.func34, Try.ntmps34
    go_wp2_with fail
    refine bodyPost_ret (v := sOut ⟨#[]⟩ 0 2) (by simp [results, sOut, Try.results34, go_sem]) rfl ⟨by rw [HV.out], ?_⟩
    exact (Below.refl _ _).alloc (Nat.le_refl _) _
  · have hbig' : ¬ (8000 : Int) < (t.size : Int) := by omega
    by_cases hlong : 48 < t.size
    · have HV : Hid (sOut (bwtT t) (bwtA t) (bwtC t) = sOut ⟨#[]⟩ 0 1) := by
        unfold Hid
        rw [(bwt_no (by omega)).1, (bwt_no (by omega)).2, bwtC, if_neg hbig, if_pos hlong]
      go_enter Try.func34, Try.ntmps34
      go_wp2_with fail
      refine bodyPost_ret (v := sOut ⟨#[]⟩ 0 1) (by simp [results, sOut, Try.results34, go_sem]) rfl ⟨by rw [HV.out], ?_⟩
      exact (Below.refl _ _).alloc (Nat.le_refl _) _
    · have hlong' : ¬ (48 : Int) < (t.size : Int) := by omega
      obtain ⟨w0, hw0⟩ : ∃ w0, w0 = w.alloc (.cells #[.string ⟨#[]⟩, .int .i64 0, .int .i64 0] 49) := ⟨_, rfl⟩
      have z0 : w0.heap.size = w.heap.size + 1 := by rw [hw0]; simp
      have HR0 : Hid (IsR w0 w.heap.size) := by unfold Hid; rw [hw0]; exact heap_alloc_last w _
      have HB0 : Hid (Below w.heap.size w w0) := by unfold Hid; rw [hw0]; exact (Below.refl _ _).alloc (Nat.le_refl _) _
      go_enter Try.func34, Try.ntmps34
      go_wp2_with (at_make; rw [← hw0]; refine wpList_make_full _ rfl (.tmp 16) (.tmp 16) 22 rfl w0.heap.size 5 i0 (.int .u8 0) 1 Try.underlying22 hi0 hz0 hz1 .i64 .i64 _ _ t.size rfl rfl (by simp) (by simp) (by rw [hz2]; omega) (by unfold maxLen; omega) (Nat.le_refl _) ?_; intro w1 hown1 hgrow1; have HT1 := hideO (made_row hown1); have hb1 := (Below.refl w0.heap.size w0).grown hgrow1 (Nat.le_refl _) (by simp); have HR1 : Hid (IsR w1 w.heap.size) := (hb1.block w.heap.size (by omega)).trans HR0.out; have HB1 := hideO (HB0.out.trans (hb1.mono (by omega))); have zz1 := HT1.out.lt; clear hown1 hgrow1 hb1)
      refine (sorted_T t hn w1).mono ?_
      rintro e w2 ⟨g, cap, d, rfl, hg1, hg2, hH, hds, hp, hr, ⟨cur, hty⟩, hb2⟩
      have HH := hideO hH
      have HDS := hideO hds
      have HB2 := hideO (HB1.out.trans (hb2.mono HB1.out.size))
      have HR2 : Hid (IsR w2 w.heap.size) := (hb2.block w.heap.size (by omega)).trans HR1.out
      have HT2 := hideO (HT1.out.below hb2 zz1)
      have z2 := hb2.size
      have HXT : Hid (∀ k, k < t.size → d[k]! < t.size) := fun k hk => by
        have : dF d k ∈ seg (dF d) 0 t.size := by
          rw [seg, List.mem_map]
          exact ⟨k, by simp; omega, by simp⟩
        have := hp.mem_iff.1 this
        have h2 := List.mem_range.1 this
        exact h2
      have HE := hideO (bwt_yes (by omega) (ordF_seg (ord_seg hp hr)))
      clear hH hds hp hr hb2 hty
      go_wp2_with fail
      go_loopw [21, 4] (fun i a wr => ∃ k : Nat, i = .int .i64 k ∧ k ≤ t.size ∧ a = .int .i64 (atK (dF d) k : Nat) ∧ IsB wr (w.heap.size + 1) 5 .u8 t.size (fun j => ((fillL t (dF d) k j : Nat) : Int)) ∧ IsR wr w.heap.size ∧ wr.heap[g]? = w2.heap[g]? ∧ Below w.heap.size w wr) (fun i _ _ => t.size - (intOf i).toNat)
      case atStart => exact ⟨0, rfl, Nat.zero_le _, rfl, by rw [← z0]; exact HT2.out.congr (fun j _ => by simp [fillL]), HR2.out, rfl, HB2.out⟩
      case round =>
        obtain ⟨k, rfl, hk, rfl, htxt, hres, hbg, hbel⟩ := hrel
        have T1 := hideO htxt
        have R1 := hideO hres
        have GB := hideO hbel
        have HBG := hideO hbg
        have hsz := htxt.lt
        clear hbel
        by_cases hlt : k < t.size
        · obtain ⟨x0c, _, x1c, _⟩ := cells_T (holds_block HH.out hbg) (i := k) (by rw [HDS.out]; exact hlt)
          have hkz : (k : Int) < (t.size : Int) := by omega
          have hxt := HXT.out k hlt
          have HN := hideO (fillL_next t (dF d) k)
          have HA := hideO (atK_next (dF d) k)
          have HX : Hid (dF d k = d[k]!) := rfl
          obtain ⟨x, hx⟩ : ∃ x, x = d[k]! := ⟨_, rfl⟩
          rw [← hx] at x0c x1c hxt HX
          rw [HX.out] at HN HA
          obtain ⟨p, hp⟩ : ∃ p, t.size = p + 1 := ⟨t.size - 1, by omega⟩
          have e1 : (t.size : Int) - 1 = (p : Int) := by omega
          have hwp : IntKind.i64.wrap (p : Int) = (p : Int) := by rw [IntKind.wrap_i64]; omega
          have htz := turnV_size t x (by omega)
          have hlast := turnV_last t x hxt
          rw [show t.size - 1 = p by omega] at hlast
          have hpx : p < (turnV t x).size := by omega
          obtain ⟨y, hy, hyt⟩ : ∃ y : UInt8, (turnV t x)[p] = y ∧ y.toNat = lastB t x := ⟨_, rfl, (bt_get _ _ hpx).trans hlast⟩
          rw [← hyt] at HN
          generalize turnV t x = tx at x1c hpx hy htz
          have hpx' : (p : Int) < (tx.size : Int) := by omega
          have c2 := htxt.cell (j := k) hlt
          have f2 := htxt.frozen k
          have hgl : g < wr.heap.size := by
            have := GB.out.size
            have h2 : w2.heap[g]? ≠ none := by rw [Array.getElem?_eq_getElem hg2]; simp
            rw [← hbg] at h2
            exact Nat.lt_of_not_le fun h => h2 (Array.getElem?_eq_none h)
          have HTN := hideO fun W (h : IsB W (w.heap.size + 1) 5 .u8 t.size (fun j => ((fillL t (dF d) k j : Nat) : Int))) => (h.set k (y.toNat : Nat)).congr (fun j _ => HN.out j)
          obtain ⟨m, hm⟩ : ∃ m, m = atK (dF d) k := ⟨_, rfl⟩
          rw [← hm] at HA ⊢
          clear hx htxt hres hbg hlast hyt hm
          have TS := HTN.out wr T1.out
          have RS : IsR (wr.setCell ⟨w.heap.size + 1, k, none⟩ (.int .u8 (y.toNat : Nat))) w.heap.size := by
            unfold IsR
            rw [heap_setCell_other _ _ _ _ (by simp)]
            exact R1.out
          have GS : (wr.setCell ⟨w.heap.size + 1, k, none⟩ (.int .u8 (y.toNat : Nat))).heap[g]? = w2.heap[g]? := by
            rw [heap_setCell_other _ _ _ _ (by simp; omega)]
            exact HBG.out
          have BS := GB.out.setCell (p := ⟨w.heap.size + 1, k, none⟩) (by simp) (.int .u8 (y.toNat : Nat))
          have LS : g < (wr.setCell ⟨w.heap.size + 1, k, none⟩ (.int .u8 (y.toNat : Nat))).heap.size := by simpa using hgl
          have HS : Hid (∀ o : Obj, IsB ((wr.setCell ⟨w.heap.size + 1, k, none⟩ (.int .u8 (y.toNat : Nat))).alloc o) (w.heap.size + 1) 5 .u8 t.size (fun j => ((fillL t (dF d) (k + 1) j : Nat) : Int)) ∧ IsR ((wr.setCell ⟨w.heap.size + 1, k, none⟩ (.int .u8 (y.toNat : Nat))).alloc o) w.heap.size ∧ ((wr.setCell ⟨w.heap.size + 1, k, none⟩ (.int .u8 (y.toNat : Nat))).alloc o).heap[g]? = w2.heap[g]? ∧ Below w.heap.size w ((wr.setCell ⟨w.heap.size + 1, k, none⟩ (.int .u8 (y.toNat : Nat))).alloc o)) := by
            intro o
            generalize wr.setCell ⟨w.heap.size + 1, k, none⟩ (.int .u8 (y.toNat : Nat)) = W at TS RS GS BS LS ⊢
            have ba : Below W.heap.size W (W.alloc o) := (Below.refl _ _).alloc (Nat.le_refl _) _
            have h1 := TS.lt
            exact ⟨TS.below ba h1, (ba.block _ (by omega)).trans RS, (ba.block _ LS).trans GS, BS.trans (ba.mono BS.size)⟩
          clear TS RS GS BS LS
          by_cases hx0 : x = 0
          · subst hx0
            have HM := hideO (HA.out.1 rfl)
            go_wp2_with fail
            go_roundw
            case rel => exact ⟨k + 1, by go_num, by omega, by rw [HM.out], HS.out _⟩
            case measure => simp [intOf]; omega
          · have HM := hideO (HA.out.2 hx0)
            have hxz : ((x : Int) == 0) = false := by simpa using hx0
            go_wp2_with fail
            go_roundw
            case rel => exact ⟨k + 1, by go_num, by omega, by rw [HM.out], HS.out _⟩
            case measure => simp [intOf]; omega
        · obtain rfl : k = t.size := by omega
          have hcv := htxt.str (P := Try.prog) (src := 22) (dst := 9) t.size t.size (Nat.le_refl _) (fun j _ => fillL_lt _ _ _ j) Try.underlying22 Try.underlying5 Try.underlying9
          rw [fillL_all] at hcv
          obtain ⟨c0, c1, c2, f0⟩ := hres.cells
          have HV : Hid (sOut (bwtT t) (bwtA t) (bwtC t) = sOut (strF t.size (fun j => lastB t (dF d j))) (atK (dF d) t.size) 0) := by
            unfold Hid
            rw [HE.out.1, HE.out.2.1, HE.out.2.2]
          obtain ⟨q, hq⟩ : ∃ q, q = strF t.size (fun j => lastB t (dF d j)) := ⟨_, rfl⟩
          obtain ⟨m, hm⟩ : ∃ m, m = atK (dF d) t.size := ⟨_, rfl⟩
          rw [← hq] at hcv HV
          rw [← hm] at HV ⊢
          clear htxt hres hbg hq hm
          go_wp2_with fail
          refine bodyPost_ret (v := sOut q m 0) (by simp [results, sOut, Try.results34, go_sem, c0, c1, c2]) rfl ⟨by rw [HV.out], ?_⟩
          exact ((GB.out.setCell (Nat.le_refl _) _).setCell (Nat.le_refl _) _).setCell (Nat.le_refl _) _
end Go.Proofs.Ytmkpakhpjgocjaa.So

/- An append of some things onto a row of the call's own, or onto one that is empty and has no room: the row behind it lies above a mark. -/
namespace Go.Proofs.Ytmkpakhpjgocjaa.Ap
open Go.RowKit

def Own0 (w : World) (base : Nat) (e : TypeId) (size : Nat) (v : Value) (n : Nat) (xs : List Value) : Prop :=
  (∃ b, v = .slice (some b) 0 0 ∧ n = 0 ∧ xs = []) ∨ w.ownsRow base e size v n xs
theorem Own0.below {w w' : World} {base : Nat} {e : TypeId} {size : Nat} {v : Value} {n : Nat} {xs : List Value} (h : Own0 w base e size v n xs) (b : Below w.heap.size w w') : Own0 w' base e size v n xs := by
  rcases h with h | ⟨hl, h⟩
  · exact .inl h
  · refine .inr ⟨hl, ?_⟩
    rcases h with h | ⟨g, cap, cur, hv, hg, hb, rest⟩
    · exact .inl h
    · exact .inr ⟨g, cap, cur, hv, hg, by rw [b.block g (Array.getElem?_eq_some_iff.1 hb).1]; exact hb, rest⟩
theorem Own0.alloc {w : World} {base : Nat} {e : TypeId} {size : Nat} {v : Value} {n : Nat} {xs : List Value} (h : Own0 w base e size v n xs) (o : Obj) : Own0 (w.alloc o) base e size v n xs :=
  h.below ((Below.refl _ _).alloc (Nat.le_refl _) o)
/-- where no block from the mark on has turned -/
theorem Own0.keep {w w' : World} {base : Nat} {e : TypeId} {size : Nat} {v : Value} {n : Nat} {xs : List Value} (h : Own0 w base e size v n xs) (b : ∀ k, base ≤ k → k < w.heap.size → w'.heap[k]? = w.heap[k]?) : Own0 w' base e size v n xs := by
  rcases h with h | ⟨hl, h⟩
  · exact .inl h
  · refine .inr ⟨hl, ?_⟩
    rcases h with h | ⟨g, cap, cur, hv, hg, hb, rest⟩
    · exact .inl h
    · exact .inr ⟨g, cap, cur, hv, hg, by rw [b g hg (Array.getElem?_eq_some_iff.1 hb).1]; exact hb, rest⟩

theorem run_append_own0 {P : Program} (w : World) (base : Nat) (t ty e : TypeId) (i : TypeInfo) (z : Value) (size bytes : Nat) (ht : P.underlying t = some (.slice e)) (hi : P.info? e = some i) (hz : i.zero = some z)
    (hsize : i.size = size) (hby : i.bytes = bytes) (hzs : z.cells.size = size) (hsz : 0 < size)
    (v : Value) (n : Nat) (xs : List Value) (hown : Own0 w base e size v n xs)
    (a : Addr) (m c : Nat) (news : List Value) (hl : news.length = m * size) (hnews : ∀ j u, news[j]? = some u → w.cell? (a.add j) = some u) (h1 : ∀ u ∈ news, u.oneCell' = true) (hm : 0 < m)
    (h63 : n + m ≤ maxLen) (hbytes : (n + m) * bytes ≤ 140737488355328) (hbase : base ≤ w.heap.size) :
    ∃ v' w', (Builtin.append_ #[t, t] ty #[v, .slice (some a) m c]).run P w = .ok v' w' ∧ w'.ownsRow base e size v' (n + m) (xs ++ news) ∧ ∀ B, B ≤ base → Below B w w' := by
  rcases hown with ⟨b, rfl, rfl, rfl⟩ | hown
  · subst hsize
    subst hby
    have hsmall : m ≤ 9223372036854775807 := by simp only [maxLen] at h63; omega
    have hr := run_append_grow (P := P) w t ty e i z ht hi hz b 0 0 [] (by simp) (by simp) a m c news hl hnews (by omega) (by omega) (growslice_fits (by omega) hbytes)
    refine ⟨_, _, hr, ?_, fun B hB => ?_⟩
    · have hge := grownCap_ge w (0 + m) 0 e
      have hcm : grownCap w (0 + m) 0 e ≤ maxLen := grownCap_le_maxLen w (0 + m) 0 e h63
      refine ⟨by simpa using hl, .inr ⟨w.heap.size, _, _, rfl, hbase, heap_alloc_new w.drew _, hge, hcm, ?_, ?_⟩⟩
      · simp only [Array.size_append, List.size_toArray, size_zeroCells, hzs, hl, List.length_nil]
        rw [Nat.zero_add, ← Nat.add_mul]
        congr 1
        omega
      · simp only [Array.toList_append, List.nil_append]
        rw [show (0 + m) * i.size = news.length by rw [Nat.zero_add, hl]]
        exact List.take_left
    · exact ((Below.refl B w).drew).alloc (by simp; omega) _
  · obtain ⟨v', w', hr, h2, h3, _⟩ := run_append_own (P := P) w base t ty e i z size bytes ht hi hz hsize hby hzs hsz v n xs hown a m c news hl hnews h1 h63 hbytes hbase
    refine ⟨v', w', hr, h2, fun B hB => (Below.refl B w).grown h3 (by omega) ?_⟩
    intro k hk
    exact Nat.le_trans hB (hown.lt k hk).1

theorem wpList_append_own0 {P : Program} (w : World) {ops : Array Oper} {rest : List Oper} {o : Oper} {a : Act} {Q : Exit → Act → World → Prop} (hgd : o.guard = none) (s x : Operand) (t : TypeId)
    (ho : o.op = .call { callee := .builtin .append, args := #[s, x], argTypes := #[t, t] })
    (base : Nat) (e : TypeId) (i : TypeInfo) (z : Value) (size bytes : Nat) (ht : P.underlying t = some (.slice e)) (hi : P.info? e = some i) (hz : i.zero = some z)
    (hsize : i.size = size) (hby : i.bytes = bytes) (hzs : z.cells.size = size) (hsz : 0 < size)
    (v : Value) (n : Nat) (xs : List Value) (hs : a.eval s = v) (hown : Own0 w base e size v n xs)
    (ad : Addr) (m c : Nat) (news : List Value) (hx : a.eval x = .slice (some ad) m c) (hl : news.length = m * size) (hnews : ∀ j u, news[j]? = some u → w.cell? (ad.add j) = some u) (h1 : ∀ u ∈ news, u.oneCell' = true) (hm : 0 < m)
    (h63 : n + m ≤ maxLen) (hbytes : (n + m) * bytes ≤ 140737488355328) (hbase : base ≤ w.heap.size)
    (h : ∀ v' w', w'.ownsRow base e size v' (n + m) (xs ++ news) → (∀ B, B ≤ base → Below B w w') → wpList P ops Q rest (a.put o.dst v') w') : wpList P ops Q (o :: rest) a w :=
  wpList_plain hgd fun _ hK => by
    obtain ⟨v', w', hr, h2, h3⟩ := run_append_own0 (P := P) w base t o.type e i z size bytes ht hi hz hsize hby hzs hsz v n xs hown ad m c news hl hnews h1 hm h63 hbytes hbase
    unfold Oper.wp execOp
    simp only [ho, resolve, invoke, builtin, Sem.run_bind, Sem.run_pure, Result.andThen_ok, List.map_toArray, List.map_cons, List.map_nil, hs, hx, hr]
    exact hK _ _ (h v' w' h2 h3)
end Go.Proofs.Ytmkpakhpjgocjaa.Ap
