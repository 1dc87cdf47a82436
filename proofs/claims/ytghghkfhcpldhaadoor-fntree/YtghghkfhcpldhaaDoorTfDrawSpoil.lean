/- A list of digests spoilt. -/
import Derived.Test.YtghghkfhcpldhaaDoorTfDrawTree
import Derived.Test.YtghghkfhcpldhaaDoorShaTop
namespace Go.Proofs.YtghghkfhcpldhaaDoor.Dr
open Go.RowKit
open Go.Proofs.YtghghkfhcpldhaaDoor.St (OwnS IsS IsO Strs one_newS one_cellS)

/-- append of a row that is owned, nil too, behind another -/
theorem wpList_append_two {w : World} {ops : Array Oper} {rest : List Oper} {o : Oper} {a : Act} {Q : Exit → Act → World → Prop} (hgd : o.guard = none) (s x : Operand)
    (ho : o.op = .call { callee := .builtin .append, args := #[s, x], argTypes := #[23, 23] }) (base base' : Nat) (v vx : Value) (l p : List ByteArray) (hs : a.eval s = v) (hx : a.eval x = vx)
    (hown : OwnS w base v l) (hpx : OwnS w base' vx p) (hlen : l.length + p.length ≤ 1048576) (hbase : base ≤ w.heap.size)
    (hnn : v ≠ .slice none 0 0) (h : ∀ v' w', OwnS w' base v' (l ++ p) → Below base w w' → v' ≠ .slice none 0 0 → wpList Tryd.prog ops Q rest (a.put o.dst v') w') : wpList Tryd.prog ops Q (o :: rest) a w := by
  obtain ⟨i0, hi, hz0, hz1, hz2⟩ := info_parts Tryd.infoT9
  rcases hpx.split with ⟨rfl, rfl⟩ | ⟨g, c, rfl, _, _, hio⟩
  · refine wpList_plain hgd fun K hK => ?_
    have hr := run_append_owned_none (P := Tryd.prog) (w := w) base 23 o.type 9 i0 1 Tryd.underlying23 hi v l.length _ hown
    unfold Oper.wp execOp
    simp only [ho, resolve, invoke, builtin, Sem.run_bind, Sem.run_pure, Result.andThen_ok, List.map_toArray, List.map_cons, List.map_nil, hs, hx, hr]
    exact hK _ _ (h v w (by simpa using hown) (Below.refl _ _) hnn)
  · refine wpList_append_own w hgd s x 23 ho base 9 i0 (.string ⟨#[]⟩) 1 16 Tryd.underlying23 hi hz0 hz1 hz2 rfl (by decide) v l.length (l.map Value.string) hs hown ⟨g, 0, none⟩ p.length c (p.map Value.string) hx (by simp) ?_ ?_ (by unfold maxLen; omega) (by omega) hbase ?_
    · intro j u hj
      have hjl : j < p.length := by
        have := (List.getElem?_eq_some_iff.1 hj).1
        simpa using this
      rw [show (⟨g, 0, none⟩ : Addr).add j = ⟨g, j, none⟩ by unfold Addr.add; split <;> simp_all, hio.cell hjl]
      rw [List.getElem?_map, List.getElem?_eq_getElem hjl] at hj
      exact hj
    · intro u hu
      obtain ⟨b, _, rfl⟩ := List.mem_map.1 hu
      rfl
    · intro v' w' hown' hgrow hiff
      refine h v' w' ?_ ((Below.refl base w).grown hgrow hbase (fun k hk => (hown.lt k hk).1)) (fun e => hnn (hiff.1 e).1)
      unfold OwnS
      rw [List.length_append, List.map_append]
      exact hown'

/-- the texts from a place on -/
def Pt (w : World) (b off : Nat) (q : List ByteArray) : Prop := b < w.heap.size ∧ ∀ j (h : j < q.length), w.cell? ⟨b, off + j, none⟩ = some (.string q[j])
theorem Pt.strs {w : World} {b off : Nat} {q : List ByteArray} (h : Pt w b off q) : Strs w w.heap.size (some ⟨b, off, none⟩) q := .inr ⟨b, off, rfl, h.1, h.2⟩
theorem Pt.none {w : World} {b off : Nat} (h : b < w.heap.size) : Pt w b off [] := ⟨h, fun j hj => absurd hj (Nat.not_lt_zero j)⟩
theorem Pt.of {w : World} {g : Nat} {t : TypeId} {q : List ByteArray} (h : IsO w g t q) : Pt w g 0 q := ⟨h.lt, fun j hj => by rw [Nat.zero_add]; exact h.cell hj⟩
theorem Pt.drop {w : World} {g : Nat} {t : TypeId} {q : List ByteArray} (h : IsO w g t q) : Pt w g 1 (q.drop 1) := ⟨h.lt, fun j hj => by
  rw [List.length_drop] at hj
  rw [List.getElem_drop, ← h.cell (j := 1 + j) (by omega)]⟩
theorem own_nnD {w : World} {base : Nat} {v : Value} {l : List ByteArray} (h : OwnS w base v l) (h0 : v ≠ .slice none 0 0) : ∃ g c, v = .slice (some ⟨g, 0, none⟩) l.length c ∧ base ≤ g ∧ l.length ≤ c ∧ IsO w g 9 l := by
  rcases h.split with ⟨e, _⟩ | h
  · exact absurd e h0
  · exact h
theorem own_some {w : World} {base : Nat} {v : Value} {l : List ByteArray} (h : OwnS w base v l) (h0 : 0 < l.length) : ∃ g c, v = .slice (some ⟨g, 0, none⟩) l.length c ∧ base ≤ g ∧ l.length ≤ c ∧ IsO w g 9 l := by
  rcases h.split with ⟨_, rfl⟩ | h
  · simp at h0
  · exact h
theorem digest_le (t : ByteArray) : (Sh.digestV t).size ≤ 32 := by
  unfold Sh.digestV
  split
  · rw [Sh.sha_size]; exact Nat.le_refl _
  · exact Nat.zero_le _

set_option maxRecDepth 100000 in
set_option maxHeartbeats 4000000 in
theorem spoil_any (B base0 : Nat) (a : Option Addr) (len cap : Nat) (vp : Value) (p : List ByteArray) (w : World) (hl : len ≤ 1048576) (hs : Src w B a len cap) (hp : OwnS w base0 vp p) (h1 : ∀ s ∈ p, 1 ≤ s.size) (hz : p.length ≤ 66) :
    Calls Tryd.prog 39 #[.pointer (some ⟨B, 0, none⟩), vp] w fun e w' => ∃ b off d q, e = .returned (.slice (some ⟨b, off, none⟩) (List.length q) d) ∧ Pt w' b off q ∧ q.length ≤ 67 ∧ q.length ≤ d ∧ Aft B w w' := by
  obtain ⟨i0, hi, hz0, hz1, hz2⟩ := info_parts Tryd.infoT9
  have hB := hs.lt
  have HS := hideD hs
  have HP := hideD hp
  have H1 := hideD (fun (h : 0 < p.length) => h1 _ (List.getElem_mem h))
  clear hs hp h1
  go_enter Tryd.func39, Tryd.ntmps39
  go_wp2_with (at_builtin; refine wpList_append_two rfl (.tmp 6) (.tmp 7) rfl w.heap.size base0 (.slice (some ⟨w.heap.size, 0, none⟩) 0 0) _ [] p rfl rfl (World.ownsRow_made _ _ _ (Nat.le_refl _) (by decide) rfl) (own_alloc HP.out _) (by simp; omega) (by simp) (by simp) ?_; intro v1 w1 ho1 hb1 hn1; have HO1 := hideD ho1; have HB1 := hideD (Below.trans ((Below.refl w.heap.size w).alloc (Nat.le_refl _) (.cells #[] 9)) hb1); obtain ⟨g, c1, rfl, hg, hc1, _⟩ := own_nnD ho1 hn1; clear ho1 hb1 hn1)
  simp only [List.nil_append] at HO1 hc1 ⊢
  obtain ⟨n, hn⟩ : ∃ n, n = p.length := ⟨_, rfl⟩
  have HN := hideD hn
  rw [← hn] at HO1 hc1 hz ⊢
  clear hn
  have HS1 := hideD (HS.out.below HB1.out)
  refine (n_any B a len cap 4 _ hl (by omega) HS1.out).mono ?_
  rintro e w2 ⟨r, rfl, q0, q1, hs2, ho2⟩
  obtain ⟨k, rfl⟩ := Int.eq_ofNat_of_zero_le q0
  have HS2 := hideD hs2
  have HA2 := hideD ((aft_below (B := B) HB1.out).trans ho2.aft)
  have HO2 := hideD (own_aft HO1.out ho2.aft (by omega))
  have z2 : w.heap.size ≤ w2.heap.size := HA2.out.size
  have HI2 : Hid (IsO w2 g 9 p) := by
    obtain ⟨g', c', hv, _, _, h⟩ := own_nnD HO2.out (by simp)
    have e : g = g' := by simp at hv; exact hv.1
    rw [e]
    exact h
  clear hs2 ho2 q0
  have hk : k = 0 ∨ k = 1 ∨ k = 2 ∨ k = 3 := by omega
  clear q1
  rcases hk with rfl | rfl | rfl | rfl
  · go_wp2_with fail
    refine (Sh.digest_spec ⟨#[120]⟩ w2 (by decide)).mono ?_
    rintro e w3 ⟨rfl, hb3⟩
    generalize Sh.digestV ⟨#[120]⟩ = dg
    have HO3 := hideD (HO2.out.below hb3)
    have HA3 := hideD (HA2.out.trans (aft_below hb3))
    clear hb3
    go_wp2_with (at_builtin; refine wpList_append_own _ rfl (.tmp 22) (.tmp 24) 23 rfl w.heap.size 9 i0 (.string ⟨#[]⟩) 1 16 Tryd.underlying23 hi hz0 hz1 hz2 rfl (by decide) _ _ _ rfl (own_alloc HO3.out _) ⟨w3.heap.size, 0, none⟩ 1 1 [.string dg] rfl rfl (one_newS _ _ _) (one_cellS _) (by unfold maxLen; have := HN.out; omega) (by have := HN.out; omega) (by have := HA3.out.size; simp; omega) ?_)
    intro v' w4 hown' hgrow _
    have HO4 := hideD (OwnS.snoc hown')
    have hb4 : Below w.heap.size w3 w4 := St.app_one (Below.refl _ _) HA3.out.size (Nat.le_refl _) HO3.out hgrow
    have HA4 := hideD (aft_more HA3.out hb4)
    obtain ⟨g4, c4, rfl, _, hc4, hst4⟩ := own_some HO4.out (by simp)
    have HST := hideD (Pt.of hst4)
    clear hown' hgrow hb4 hst4
    go_wp2_with fail
    go_ret
    exact ⟨g4, 0, c4, _, rfl, HST.out, by rw [List.length_append]; have := HN.out; simp; omega, hc4, HA4.out⟩
  · by_cases h0 : 0 < n
    · have hio := HI2.out
      have h0' : (0 : Int) < n := by omega
      have HT : Hid (∃ q : List ByteArray, q.length = n - 1 ∧ Pt w2 g 1 q) := ⟨p.drop 1, by rw [List.length_drop, HN.out], Pt.drop hio⟩
      have hlt := hio.lt
      clear hio
      go_wp2_with fail
      · obtain rfl : n = 1 := by omega
        go_ret
        exact ⟨g, 0, 0, [], rfl, Pt.none hlt, by simp, by simp, HA2.out⟩
      · obtain ⟨q, hq, hst⟩ := HT.out
        go_ret
        exact ⟨g, 1, c1 - 1, q, by rw [hq]; rfl, hst, by omega, by omega, HA2.out⟩
    · obtain rfl : n = 0 := by omega
      go_wp2_with fail
      go_ret
      exact ⟨g, 0, c1, [], rfl, Pt.none HI2.out.lt, by simp, by simp, HA2.out⟩
  · by_cases h0 : 0 < n
    · have hio := HI2.out
      have h0' : (0 : Int) < n := by omega
      have HIO := hideD hio
      clear hio
      go_wp2_with fail
      refine (n_any B a len cap n _ hl (by omega) HS2.out).mono ?_
      rintro e w3 ⟨r, rfl, q0, q1, _, ho3⟩
      obtain ⟨j, rfl⟩ := Int.eq_ofNat_of_zero_le q0
      have hjn : j < n := by omega
      have HA3 := hideD (HA2.out.trans ho3.aft)
      have HI3 := hideD (HIO.out.of_heap (ho3.2.2.2.2 g (by omega)))
      clear ho3 q0 q1
      go_wp2_with fail
      refine (Sh.digest_spec ⟨#[121]⟩ w3 (by decide)).mono ?_
      rintro e w4 ⟨rfl, hb4⟩
      generalize Sh.digestV ⟨#[121]⟩ = dg
      have HI4 := hideD (HI3.out.below hb4 HI3.out.lt)
      have HA4 := hideD (HA3.out.trans (aft_below hb4))
      have cf := HI4.out.frozen j
      obtain ⟨v0, ce⟩ : ∃ v0, w4.cell? ⟨g, j, none⟩ = some (.string v0) := ⟨_, HI4.out.cell (j := j) (by rw [← HN.out]; exact hjn)⟩
      have HI5 := hideD (HI4.out.set j dg)
      have HA5 : Hid (Aft B w (w4.setCell ⟨g, j, none⟩ (.string dg))) := aft_more HA4.out ((Below.refl _ _).setCell (p := ⟨g, j, none⟩) hg _)
      clear hb4
      go_wp2_with fail
      go_ret
      exact ⟨g, 0, c1, p.set j dg, by rw [List.length_set, ← HN.out]; rfl, Pt.of HI5.out, by rw [List.length_set, ← HN.out]; omega, by rw [List.length_set, ← HN.out]; exact hc1, HA5.out⟩
    · obtain rfl : n = 0 := by omega
      go_wp2_with fail
      go_ret
      exact ⟨g, 0, c1, [], rfl, Pt.none HI2.out.lt, by simp, by simp, HA2.out⟩
  · by_cases h0 : 0 < n
    · have hio := HI2.out
      have h0' : (0 : Int) < n := by omega
      have hp0 : 0 < p.length := by rw [← HN.out]; exact h0
      have HIO := hideD hio
      have cf := hio.frozen 0
      have ce := hio.cell (j := 0) hp0
      have hs1 := H1.out hp0
      generalize p[0] = s0 at ce hs1
      clear hio
      have HI5 := hideD (HIO.out.set 0 (s0.extract 1 s0.size))
      have HA5 : Hid (Aft B w (w2.setCell ⟨g, 0, none⟩ (.string (s0.extract 1 s0.size)))) := aft_more HA2.out ((Below.refl _ _).setCell (p := ⟨g, 0, none⟩) hg _)
      go_wp2_with fail
      go_ret
      exact ⟨g, 0, c1, p.set 0 (s0.extract 1 s0.size), by rw [List.length_set, ← HN.out]; rfl, Pt.of HI5.out, by rw [List.length_set, ← HN.out]; omega, by rw [List.length_set, ← HN.out]; exact hc1, HA5.out⟩
    · obtain rfl : n = 0 := by omega
      go_wp2_with fail
      go_ret
      exact ⟨g, 0, c1, [], rfl, Pt.none HI2.out.lt, by simp, by simp, HA2.out⟩
end Go.Proofs.YtghghkfhcpldhaaDoor.Dr
