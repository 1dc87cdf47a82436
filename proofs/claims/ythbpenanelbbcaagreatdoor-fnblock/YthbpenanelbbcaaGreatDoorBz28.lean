/- Texts put together: GetV, GotoLaw, GetBits, AsFacts, AsWalks, GetNumWalks. -/
import Derived.Test.YthbpenanelbbcaaGreatDoorProg
import Derived.Test.YthbpenanelbbcaaGreatDoorBz27
import Derived.WalkKit
import Derived.WalkSpells
import Derived.WalkLawsBesides
import Derived.Scope
import Derived.WalkMore
import Derived.LaidEql
import Derived.Stop.Asserts
import Derived.RowKitTokens
/- What GetNum answers, said of its text and place. -/
namespace Go.Proofs.YthbpenanelbbcaaGreatDoor.Gn
open Go.RowKit
theorem hide {p : Prop} (h : p) : Hid p := h
def outN (n at_ code : Int) : Value := .agg #[.int .i64 n, .int .i64 at_, .int .i64 code]
def resV (r : Nat × Nat × Int) : Value := if r.2.2 = 0 then outN (unz r.1) r.2.1 0 else outN 0 0 r.2.2
def getV (s : ByteArray) (a : Int) : Value := if 8000 < s.size then outN 0 0 2 else if a < 0 then outN 0 0 1 else resV (numR s a.toNat)
end Go.Proofs.YthbpenanelbbcaaGreatDoor.Gn


/- A law on a scope with three labels: the run comes back to the first one, each time with less to do, and goes on from it to the second or the third, and from the second to the third alone. -/
namespace Go.Proofs.YthbpenanelbbcaaGreatDoor.Jump
open Go
def toLabel (J : Nat → Act → World → Prop) (Q : Exit → Act → World → Prop) : Exit → Act → World → Prop
 | .goto l, a, w => J l a w
 | e, a, w => Q e a w
theorem toLabel_ret {J : Nat → Act → World → Prop} {Q : Exit → Act → World → Prop} : toLabel J Q Exit.ret = Q Exit.ret := rfl
theorem wp_scope_labels {P : Program} {c : Code} {a : Act} {w : World} {Q : Exit → Act → World → Prop} (J : Nat → Act → World → Prop) (μ : Nat → Act → World → Nat)
  (first : c.wp P (toLabel J Q) a w)
  (pass : ∀ l a w, J l a w → ∃ r, findLabel c l = some r ∧ r.wp P (toLabel (fun l' a' w' => J l' a' w' ∧ μ l' a' w' < μ l a w) Q) a w) : (Code.scope c).wp P Q a w := by
 intro b k cs
 have key : ∀ n l a w, μ l a w = n → J l a w → ∃ r, findLabel c l = some r ∧ ∃ e a' w', Q e a' w' ∧ Arrives P (lone (b.at a (.code r :: .inScope c :: k)) cs w) b k cs e a' w' := by
  intro n
  induction n using Nat.strongRecOn with
  | _ n ih =>
   intro l a w hn hJ
   obtain ⟨r, hf, hp⟩ := pass l a w hJ
   refine ⟨r, hf, ?_⟩
   obtain ⟨e, a₁, w₁, hq, harr⟩ := hp b (.inScope c :: k) cs
   cases e with
   | normal => exact ⟨.normal, a₁, w₁, hq, Steps.trans harr (.one step_inScope)⟩
   | exit id => exact ⟨.exit id, a₁, w₁, hq, fun k' hk => harr k' (by simp [exitTo, hk])⟩
   | goto l' =>
    obtain ⟨hJ', hlt⟩ := hq
    obtain ⟨r', hf', e₂, a₂, w₂, hq₂, harr₂⟩ := ih _ (by omega) l' a₁ w₁ rfl hJ'
    have hg : gotoIn l' (.inScope c :: k) = some (.code r' :: .inScope c :: k) := by simp [gotoIn, hf']
    exact ⟨e₂, a₂, w₂, hq₂, .of_steps (harr _ hg) harr₂⟩
   | ret => exact ⟨_, a₁, w₁, hq, harr⟩
   | panic ch => exact ⟨_, a₁, w₁, hq, harr⟩
   | outgrown => exact ⟨_, a₁, w₁, hq, harr⟩
 obtain ⟨e, a₁, w₁, hq, harr⟩ := first b (.inScope c :: k) cs
 cases e with
 | normal => exact ⟨.normal, a₁, w₁, hq, .head step_scope (Steps.trans harr (.one step_inScope))⟩
 | exit id => exact ⟨.exit id, a₁, w₁, hq, fun k' hk => .head step_scope (harr k' (by simp [exitTo, hk]))⟩
 | goto l' =>
  obtain ⟨r', hf', e₂, a₂, w₂, hq₂, harr₂⟩ := key _ l' a₁ w₁ rfl hq
  have hg : gotoIn l' (.inScope c :: k) = some (.code r' :: .inScope c :: k) := by simp [gotoIn, hf']
  exact ⟨e₂, a₂, w₂, hq₂, .of_steps (.head step_scope (harr _ hg)) harr₂⟩
 | ret => exact ⟨_, a₁, w₁, hq, .of_steps (.one step_scope) harr⟩
 | panic ch => exact ⟨_, a₁, w₁, hq, .of_steps (.one step_scope) harr⟩
 | outgrown => exact ⟨_, a₁, w₁, hq, .of_steps (.one step_scope) harr⟩
end Go.Proofs.YthbpenanelbbcaaGreatDoor.Jump


/- The walk of impl.readBits, whose labels are its states: it answers what Gn.numR says of its text and place. -/
namespace Go.Proofs.YthbpenanelbbcaaGreatDoor.Gn
open Go.RowKit Go.Proofs.YthbpenanelbbcaaGreatDoor.Jump
def errV (c : Int) : Value := if c = 0 then .nilIface else .iface 167 (.agg #[.int .i64 c])
def bitsV (r : Nat × Nat × Int) : Value := .tuple #[.int .u64 r.1, .int .i64 r.2.1, errV r.2.2]
def J (s : ByteArray) (a : Nat) (w : World) (l : Nat) (a' : Act) (w' : World) : Prop :=
  w' = w ∧
  ((l = 0 ∧ ∃ (k v p : Nat) (x8 : Value) (x10 x11 x12 x13 x14 x15 x16 x17 x18 x19 x20 x21 x22 x23 x24 x25 x26 x27 x28 x29 x30 x31 x32 x33 x34 x35 x36 x37 x38 x39 x40 x41 x42 x43 x44 x45 x46 x47 x48 : Value), a' = { tmps := #[.string s, .int .i64 (p : Nat), undef, undef, .int .u64 0, .int .i64 0, .nilIface, .int .u64 (v : Nat), x8, .int .i64 (k : Nat), x10, x11, x12, x13, x14, x15, x16, x17, x18, x19, x20, x21, x22, x23, x24, x25, x26, x27, x28, x29, x30, x31, x32, x33, x34, x35, x36, x37, x38, x39, x40, x41, x42, x43, x44, x45, x46, x47, x48], defers := [] } ∧ 1 ≤ k ∧ k ≤ 9 ∧ p ≤ 8000 ∧ v < 2 ^ (7 * k) ∧ numR s a = run s (10 - k) k p v) ∨
   (l = 2 ∧ ∃ (k v p c : Nat) (x10 x11 x12 x13 x14 x15 x16 x17 x18 x19 x20 x21 x22 x23 x24 x25 x26 x27 x28 x29 x30 x31 x32 x33 x34 x35 x36 x37 x38 x39 x40 x41 x42 x43 x44 x45 x46 x47 x48 : Value), a' = { tmps := #[.string s, .int .i64 (p : Nat), undef, undef, .int .u64 0, .int .i64 0, .nilIface, .int .u64 (v : Nat), .int .u8 (c : Nat), .int .i64 (k : Nat), x10, x11, x12, x13, x14, x15, x16, x17, x18, x19, x20, x21, x22, x23, x24, x25, x26, x27, x28, x29, x30, x31, x32, x33, x34, x35, x36, x37, x38, x39, x40, x41, x42, x43, x44, x45, x46, x47, x48], defers := [] } ∧ 1 ≤ k ∧ k ≤ 10 ∧ c < 128 ∧ numR s a = if c = 0 ∧ 1 < k then (0, 0, 3) else (v, p, 0)) ∨
   (l = 1 ∧ ∃ (k v p : Int) (x8 : Value) (x10 x11 x12 x13 x14 x15 x16 x17 x18 x19 x20 x21 x22 x23 x24 x25 x26 x27 x28 x29 x30 x31 x32 x33 x34 x35 x36 x37 x38 x39 x40 x41 x42 x43 x44 x45 x46 x47 x48 : Value), a' = { tmps := #[.string s, .int .i64 p, undef, undef, .int .u64 0, .int .i64 0, .nilIface, .int .u64 v, x8, .int .i64 k, x10, x11, x12, x13, x14, x15, x16, x17, x18, x19, x20, x21, x22, x23, x24, x25, x26, x27, x28, x29, x30, x31, x32, x33, x34, x35, x36, x37, x38, x39, x40, x41, x42, x43, x44, x45, x46, x47, x48], defers := [] } ∧ numR s a = (0, 0, 3)))
theorem J0 (s : ByteArray) (a : Nat) (w : World) (k v p : Nat) (x8 : Value) (x10 x11 x12 x13 x14 x15 x16 x17 x18 x19 x20 x21 x22 x23 x24 x25 x26 x27 x28 x29 x30 x31 x32 x33 x34 x35 x36 x37 x38 x39 x40 x41 x42 x43 x44 x45 x46 x47 x48 : Value) (h1 : 1 ≤ k) (h2 : k ≤ 9) (h3 : p ≤ 8000) (h4 : v < 2 ^ (7 * k)) (h5 : numR s a = run s (10 - k) k p v) :
  J s a w 0 { tmps := #[.string s, .int .i64 (p : Nat), undef, undef, .int .u64 0, .int .i64 0, .nilIface, .int .u64 (v : Nat), x8, .int .i64 (k : Nat), x10, x11, x12, x13, x14, x15, x16, x17, x18, x19, x20, x21, x22, x23, x24, x25, x26, x27, x28, x29, x30, x31, x32, x33, x34, x35, x36, x37, x38, x39, x40, x41, x42, x43, x44, x45, x46, x47, x48], defers := [] } w :=
 ⟨rfl, .inl ⟨rfl, k, v, p, x8, x10, x11, x12, x13, x14, x15, x16, x17, x18, x19, x20, x21, x22, x23, x24, x25, x26, x27, x28, x29, x30, x31, x32, x33, x34, x35, x36, x37, x38, x39, x40, x41, x42, x43, x44, x45, x46, x47, x48, rfl, h1, h2, h3, h4, h5⟩⟩
theorem J2 (s : ByteArray) (a : Nat) (w : World) (k v p c : Nat) (x10 x11 x12 x13 x14 x15 x16 x17 x18 x19 x20 x21 x22 x23 x24 x25 x26 x27 x28 x29 x30 x31 x32 x33 x34 x35 x36 x37 x38 x39 x40 x41 x42 x43 x44 x45 x46 x47 x48 : Value) (h1 : 1 ≤ k) (h2 : k ≤ 10) (h3 : c < 128) (h5 : numR s a = if c = 0 ∧ 1 < k then (0, 0, 3) else (v, p, 0)) :
  J s a w 2 { tmps := #[.string s, .int .i64 (p : Nat), undef, undef, .int .u64 0, .int .i64 0, .nilIface, .int .u64 (v : Nat), .int .u8 (c : Nat), .int .i64 (k : Nat), x10, x11, x12, x13, x14, x15, x16, x17, x18, x19, x20, x21, x22, x23, x24, x25, x26, x27, x28, x29, x30, x31, x32, x33, x34, x35, x36, x37, x38, x39, x40, x41, x42, x43, x44, x45, x46, x47, x48], defers := [] } w :=
 ⟨rfl, .inr (.inl ⟨rfl, k, v, p, c, x10, x11, x12, x13, x14, x15, x16, x17, x18, x19, x20, x21, x22, x23, x24, x25, x26, x27, x28, x29, x30, x31, x32, x33, x34, x35, x36, x37, x38, x39, x40, x41, x42, x43, x44, x45, x46, x47, x48, rfl, h1, h2, h3, h5⟩)⟩
theorem J1 (s : ByteArray) (a : Nat) (w : World) (k v p : Int) (x8 : Value) (x10 x11 x12 x13 x14 x15 x16 x17 x18 x19 x20 x21 x22 x23 x24 x25 x26 x27 x28 x29 x30 x31 x32 x33 x34 x35 x36 x37 x38 x39 x40 x41 x42 x43 x44 x45 x46 x47 x48 : Value) (h5 : numR s a = (0, 0, 3)) :
  J s a w 1 { tmps := #[.string s, .int .i64 p, undef, undef, .int .u64 0, .int .i64 0, .nilIface, .int .u64 v, x8, .int .i64 k, x10, x11, x12, x13, x14, x15, x16, x17, x18, x19, x20, x21, x22, x23, x24, x25, x26, x27, x28, x29, x30, x31, x32, x33, x34, x35, x36, x37, x38, x39, x40, x41, x42, x43, x44, x45, x46, x47, x48], defers := [] } w :=
 ⟨rfl, .inr (.inr ⟨rfl, k, v, p, x8, x10, x11, x12, x13, x14, x15, x16, x17, x18, x19, x20, x21, x22, x23, x24, x25, x26, x27, x28, x29, x30, x31, x32, x33, x34, x35, x36, x37, x38, x39, x40, x41, x42, x43, x44, x45, x46, x47, x48, rfl, h5⟩)⟩
def μ (l : Nat) (a' : Act) (_ : World) : Nat := if l = 0 then 20 - (intOf (a'.tmps.getD 9 undef)).toNat else if l = 2 then 1 else 0
set_option maxRecDepth 100000 in
set_option maxHeartbeats 1000000 in
theorem bits_any (s : ByteArray) (a : Nat) (w : World) (hs : s.size ≤ 8000) :
    Calls Tryz.prog 119 #[.string s, .int .i64 a] w fun e w' => e = .returned (bitsV (numR s a)) ∧ w' = w := by
  go_enter Tryz.func119, Tryz.ntmps119
  go_wp2
  refine wp_scope_labels (J s a w) μ ?_ ?_
  · by_cases hp : a < s.size
    · have hb : s[a].toNat < 256 := s[a].toNat_lt
      have hand := and_low s[a].toNat hb
      have hy : s[a].toNat % 128 ≤ 127 := by omega
      have hor : bits BinOp.or IntKind.u64 0 ((s[a].toNat % 128 : Nat) : Int) = ((s[a].toNat % 128 : Nat) : Int) := by
        have := u64_or_nat 0 (s[a].toNat % 128) (by decide) (by omega)
        rw [Nat.zero_or] at this
        exact this
      obtain ⟨y, hyy⟩ : ∃ y, y = s[a].toNat % 128 := ⟨_, rfl⟩
      rw [← hyy] at hand hy hor
      have HY : Hid (y = s[a].toNat % 128) := hyy
      clear hyy
      have HX : Hid (0 + s[a].toNat % 128 * 2 ^ (7 * 0) = y) := by unfold Hid; rw [HY.out]; simp
      by_cases hc : s[a].toNat < 128
      · go_wp2
        go_step3
        go_wp2
        go_step3
        exact J2 s a w 1 y (a + 1) s[a].toNat _ _ _ _ _ _ _ _ _ _ _ _ _ _ _ _ _ _ _ _ _ _ _ _ _ _ _ _ _ _ _ _ _ _ _ _ _ _ _ (by omega) (by omega) hc (by rw [if_neg (by omega)]; exact (run_last s 9 0 a 0 hp (by omega) hc (by omega)).trans (by rw [HX.out]))
      · go_wp2
        go_step3
        go_wp2
        go_step3
        exact J0 s a w 1 y (a + 1) _ _ _ _ _ _ _ _ _ _ _ _ _ _ _ _ _ _ _ _ _ _ _ _ _ _ _ _ _ _ _ _ _ _ _ _ _ _ _ _ (by omega) (by omega) (by omega) (by omega) ((run_more s 9 0 a 0 hp (by omega) (by omega)).trans (by rw [HX.out]))
    · have HE : Hid (numR s a = (0, 0, 4)) := run_end s 9 0 a 0 (by omega)
      go_wp2
      go_step3
      go_wp2
      rw [toLabel_ret]
      go_ret3
      exact ⟨by rw [HE.out]; rfl, rfl⟩
  · intro l a' w' hJ
    obtain ⟨rfl, hJ⟩ := hJ
    rcases hJ with ⟨rfl, k, v, p, x8, x10, x11, x12, x13, x14, x15, x16, x17, x18, x19, x20, x21, x22, x23, x24, x25, x26, x27, x28, x29, x30, x31, x32, x33, x34, x35, x36, x37, x38, x39, x40, x41, x42, x43, x44, x45, x46, x47, x48, rfl, h1, h2, h3, h4, h5⟩ | ⟨rfl, k, v, p, c, x10, x11, x12, x13, x14, x15, x16, x17, x18, x19, x20, x21, x22, x23, x24, x25, x26, x27, x28, x29, x30, x31, x32, x33, x34, x35, x36, x37, x38, x39, x40, x41, x42, x43, x44, x45, x46, x47, x48, rfl, h1, h2, h3, h5⟩ | ⟨rfl, k, v, p, x8, x10, x11, x12, x13, x14, x15, x16, x17, x18, x19, x20, x21, x22, x23, x24, x25, x26, x27, x28, x29, x30, x31, x32, x33, x34, x35, x36, x37, x38, x39, x40, x41, x42, x43, x44, x45, x46, x47, x48, rfl, h5⟩
    · refine ⟨_, rfl, ?_⟩
      have HR := hide h5
      have HV := hide h4
      have hvb : v ≤ 9223372036854775807 := by have := pow_le k h2; omega
      clear h5 h4
      obtain ⟨f, hf⟩ : ∃ f, 10 - k = f + 1 := ⟨9 - k, by omega⟩
      have HF := hide hf
      clear hf
      by_cases hp : p < s.size
      · have hb : s[p].toNat < 256 := s[p].toNat_lt
        by_cases h9 : k = 9 ∧ 1 < s[p].toNat
        · have hk9 : ((k : Int) == 9) = true := beq_iff_eq.2 (by omega)
          have hc1 : (1 : Int) < s[p].toNat := by omega
          have HE : Hid (numR s a = (0, 0, 3)) := HR.out.trans (by rw [HF.out]; exact run_nine s f k p v hp h9.1 h9.2)
          have HH := hide h9
          clear h9
          go_wp2
          go_step3
          exact ⟨J1 s a _ _ _ _ _ _ _ _ _ _ _ _ _ _ _ _ _ _ _ _ _ _ _ _ _ _ _ _ _ _ _ _ _ _ _ _ _ _ _ _ _ _ _ _ HE.out, by simp [μ, intOf]; omega⟩
        · obtain ⟨hm1, hm2⟩ := next_small v s[p].toNat k HV.out h2 h9
          have hand := and_low s[p].toNat hb
          have hy : s[p].toNat % 128 ≤ 127 := by omega
          have hsh := shl_part (s[p].toNat % 128) k hm1
          have hor := or_part v s[p].toNat k HV.out hm1 hvb
          obtain ⟨z, hz⟩ : ∃ z, z = s[p].toNat % 128 * 2 ^ (7 * k) := ⟨_, rfl⟩
          obtain ⟨x, hx⟩ : ∃ x, x = v + s[p].toNat % 128 * 2 ^ (7 * k) := ⟨_, rfl⟩
          rw [← hx, ← hz] at hor
          rw [← hx] at hm2
          rw [← hz] at hm1 hsh
          obtain ⟨y, hyy⟩ : ∃ y, y = s[p].toNat % 128 := ⟨_, rfl⟩
          rw [← hyy] at hand hy hsh
          have HX := hide hx
          have HY := hide hyy
          have HZ := hide hz
          have H9 := hide h9
          clear hx hyy hz h9
          by_cases hc : s[p].toNat < 128
          · have HE : Hid (numR s a = if s[p].toNat = 0 ∧ 1 < k + 1 then (0, 0, 3) else (x, p + 1, 0)) := HR.out.trans (by
              rw [HF.out]
              by_cases hq : s[p].toNat = 0 ∧ 0 < k
              · rw [if_pos ⟨hq.1, by omega⟩]; exact run_zero s f k p v hp hq.1 hq.2
              · rw [if_neg (by omega), HX.out]; exact run_last s f k p v hp H9.out hc hq)
            by_cases e9 : k = 9
            · have hk9 : ((k : Int) == 9) = true := beq_iff_eq.2 (by omega)
              have hcd : decide ((1 : Int) < s[p].toNat) = false := decide_eq_false (by have := H9.out; omega)
              have H99 := hide e9
              clear e9
              go_wp2
              go_step3
              exact ⟨J2 s a _ (k + 1) x (p + 1) s[p].toNat _ _ _ _ _ _ _ _ _ _ _ _ _ _ _ _ _ _ _ _ _ _ _ _ _ _ _ _ _ _ _ _ _ _ _ _ _ _ _ (by omega) (by omega) hc HE.out, by simp [μ, intOf]; omega⟩
            · have hk9 : ((k : Int) == 9) = false := beq_eq_false_iff_ne.2 (by omega)
              go_wp2
              go_step3
              exact ⟨J2 s a _ (k + 1) x (p + 1) s[p].toNat _ _ _ _ _ _ _ _ _ _ _ _ _ _ _ _ _ _ _ _ _ _ _ _ _ _ _ _ _ _ _ _ _ _ _ _ _ _ _ (by omega) (by omega) hc HE.out, by simp [μ, intOf]; omega⟩
          · have hn9 : ¬ k = 9 := by have := H9.out; omega
            have hk9 : ((k : Int) == 9) = false := beq_eq_false_iff_ne.2 (by omega)
            have HE : Hid (numR s a = run s f (k + 1) (p + 1) x) := HR.out.trans (by rw [HF.out, HX.out]; exact run_more s f k p v hp hn9 (by omega))
            go_wp2
            go_step3
            exact ⟨J0 s a _ (k + 1) x (p + 1) _ _ _ _ _ _ _ _ _ _ _ _ _ _ _ _ _ _ _ _ _ _ _ _ _ _ _ _ _ _ _ _ _ _ _ _ _ _ _ _ (by omega) (by omega) (by omega) (by rw [HX.out]; exact next_lt _ _ _ HV.out) (by rw [HE.out, show 10 - (k + 1) = f from by have := HF.out; omega]), by simp [μ, intOf]; omega⟩
      · have HE : Hid (numR s a = (0, 0, 4)) := HR.out.trans (by rw [HF.out]; exact run_end s f k p v (by omega))
        go_wp2
        rw [toLabel_ret]
        go_ret3
        exact ⟨by rw [HE.out]; rfl, rfl⟩
    · refine ⟨_, rfl, ?_⟩
      by_cases hz : c = 0 ∧ 1 < k
      · have HE : Hid (numR s a = (0, 0, 3)) := h5.trans (if_pos hz)
        have hcz : ((c : Int) == 0) = true := beq_iff_eq.2 (by omega)
        have hk1 : (1 : Int) < k := by omega
        have HZ := hide hz
        clear h5 hz
        go_wp2
        go_step3
        exact ⟨J1 s a _ _ _ _ _ _ _ _ _ _ _ _ _ _ _ _ _ _ _ _ _ _ _ _ _ _ _ _ _ _ _ _ _ _ _ _ _ _ _ _ _ _ _ _ HE.out, by simp [μ]⟩
      · have HE : Hid (numR s a = (v, p, 0)) := h5.trans (if_neg hz)
        clear h5
        by_cases cz : c = 0
        · have hcz : ((c : Int) == 0) = true := beq_iff_eq.2 (by omega)
          have hk1 : ¬ 1 < k := by omega
          have hkd : decide ((1 : Int) < k) = false := decide_eq_false (by omega)
          have HC := hide cz
          clear cz hz
          go_wp2
          rw [toLabel_ret]
          go_ret3
          exact ⟨by rw [HE.out]; rfl, rfl⟩
        · have hcz : ((c : Int) == 0) = false := beq_eq_false_iff_ne.2 (by omega)
          go_wp2
          rw [toLabel_ret]
          go_ret3
          exact ⟨by rw [HE.out]; rfl, rfl⟩
    · refine ⟨_, rfl, ?_⟩
      have HE := hide h5
      clear h5
      go_wp2
      rw [toLabel_ret]
      go_ret3
      exact ⟨by rw [HE.out]; rfl, rfl⟩
end Go.Proofs.YthbpenanelbbcaaGreatDoor.Gn


/- Closed facts on what errors.As reads of the types that it meets here, each reckoned by the kernel, and three small laws on reflected values. -/
namespace Go.Proofs.YthbpenanelbbcaaGreatDoor
open Go.RowKit Go.Extern.Stop Go.Stop Go.Extern
theorem Tryz.methodKind (h : Value) (w : World) : (Go.method 324 110 (.agg #[h]) "Kind").run Tryz.prog w = .ok (186, h) w := by kernel_rfl
theorem Tryz.kindD (w : World) : ((ReflectliteType.abiMethod fun t => (fun a : Nat => Value.int IntKind.u8 (a : Int)) <$> Rtype.kind t) #[.pointer (some ⟨1, 167, none⟩)]).run Tryz.prog w = .ok (.int .u8 25) w := by kernel_rfl
theorem Tryz.methodElem (h : Value) (w : World) : (Go.method 324 110 (.agg #[h]) "Elem").run Tryz.prog w = .ok (190, .agg #[h]) w := by kernel_rfl
theorem Tryz.methodImplements (h : Value) (w : World) : (Go.method 324 110 (.agg #[h]) "Implements").run Tryz.prog w = .ok (191, .agg #[h]) w := by kernel_rfl
theorem Tryz.methodAssignableTo (h : Value) (w : World) : (Go.method 324 110 (.agg #[h]) "AssignableTo").run Tryz.prog w = .ok (188, .agg #[h]) w := by kernel_rfl
theorem Tryz.implementsD (w : World) : (ReflectliteType.relation "Implements" ReflectliteType.implements_ #[.agg #[.pointer (some ⟨1, 167, none⟩)], .iface 110 (.agg #[.pointer (some ⟨1, 40, none⟩)])]).run Tryz.prog w = .ok (.bool true) w := by kernel_rfl
theorem Tryz.typeOfD (v : Value) (w : World) : (ReflectliteType.typeOf #[.iface 167 v]).run Tryz.prog w = .ok (.iface 110 (.agg #[.pointer (some ⟨1, 167, none⟩)])) w := by kernel_rfl
theorem Tryz.assignableD (w : World) : (ReflectliteType.relation "AssignableTo" ReflectliteType.assignableTo #[.agg #[.pointer (some ⟨1, 167, none⟩)], .iface 110 (.agg #[.pointer (some ⟨1, 167, none⟩)])]).run Tryz.prog w = .ok (.bool true) w := by kernel_rfl
theorem Tryz.valueOfD (c : Int) (w : World) : (ReflectliteValue.unpack (.iface 167 (.agg #[.int .i64 c]))).run Tryz.prog w
  = .ok (.agg #[.pointer (some ⟨1, 167, none⟩), .pointer (some ⟨w.heap.size, 0, none⟩), .int .u64 153]) (w.alloc (.cells #[.int .i64 c] 167)) := by kernel_rfl
theorem Tryz.mkD (p : Addr) (w : World) : (ReflectliteValue.mk 167 p ReflectliteValue.flagAddr).run Tryz.prog w = .ok (.agg #[.pointer (some ⟨1, 167, none⟩), .pointer (some p), .int .u64 409]) w := by kernel_rfl
theorem Tryz.partsDa (a : Addr) (w : World) : (ReflectliteValue.parts (.agg #[.pointer (some ⟨1, 167, none⟩), .pointer (some a), .int .u64 409])).run Tryz.prog w = .ok (some (167, a, 409)) w := by kernel_rfl
theorem Tryz.partsD (a : Addr) (w : World) : (ReflectliteValue.parts (.agg #[.pointer (some ⟨1, 167, none⟩), .pointer (some a), .int .u64 153])).run Tryz.prog w = .ok (some (167, a, 153)) w := by kernel_rfl
theorem Tryz.directD (w : World) : (Rtype.directlyAssignable 167 167).run Tryz.prog w = .ok true w := by kernel_rfl
end Go.Proofs.YthbpenanelbbcaaGreatDoor


/- errors.As by its contracts at the target that the program uses, a variable of its own fault type: a fault of that type is taken into the variable, and the answer is true. -/
namespace Go.Proofs.YthbpenanelbbcaaGreatDoor
open Go.RowKit Go.Extern.Stop Go.Stop Go.Extern
theorem Tryz.setD (ta b : Addr) (c : Int) (old : Value) (W : World) (hb : W.cell? b = some (.int .i64 c)) (ht : W.cell? ta = some old) (hf : W.frozen? ta = false) :
  (ReflectliteValue.set #[.agg #[.pointer (some ⟨1, 167, none⟩), .pointer (some ta), .int .u64 409], .agg #[.pointer (some ⟨1, 167, none⟩), .pointer (some b), .int .u64 153]]).run Tryz.prog W
   = .ok (.tuple #[]) (W.setCell ta (.int .i64 c)) := by
 refine Eq.trans (b := (Bind.bind (ReflectliteValue.parts (.agg #[.pointer (some ⟨1, 167, none⟩), .pointer (some ta), .int .u64 409])) _).run Tryz.prog W) rfl ?_
 simp only [Sem.run_bind, Tryz.partsDa, Result.andThen]
 erw [Tryz.partsD b W]
 simp [ReflectliteValue.flagAddr, loadVar, isAgg, underlying, Tryz.underlying167, Result.andThen, Tryz.directD, storeVar, Value.cells, storeCells, Addr.add]
 have hl := run_loadCells_list (P := Tryz.prog) W b [.int .i64 c] (by
  intro j v hj
  match j, hj with
  | 0, hj => simp at hj; subst hj; simpa [Addr.add] using hb)
 have hl' : (loadCells b 1).run Tryz.prog W = .ok #[.int .i64 c] W := hl
 rw [hl']
 simp [storeCells, Addr.add]
 rw [run_store Tryz.prog W ta _ _ (by rfl)]
 simp [ht, hf]
end Go.Proofs.YthbpenanelbbcaaGreatDoor


/- The walks of the functions round impl.readBits, up to impl.GetNum: it answers Gn.getV of its text and place, as spec.GetNum does. -/
namespace Go.Proofs.YthbpenanelbbcaaGreatDoor.Gn
open Go.RowKit
theorem ret_int {k : IntKind} {a b : Int} (h : a = b) : Ending.returned (.int k a) = .returned (.int k b) := by rw [h]
theorem not_half (u : Nat) (h : u ≤ 18446744073709551615) : bits BinOp.xor IntKind.u64 IntKind.u64.max ((u : Int) / 2) = ((18446744073709551615 - u / 2 : Nat) : Int) := by
 have e : ((u : Int) / 2) = ((u / 2 : Nat) : Int) := by omega
 rw [e, show IntKind.u64.max = ((18446744073709551615 : Nat) : Int) from rfl, u64_xor_nat _ _ (by decide) (by omega)]
 have e := congrArg BitVec.toNat (BitVec.allOnes_xor (x := BitVec.ofNat 64 (u / 2)))
 rw [BitVec.toNat_xor, BitVec.toNat_not, BitVec.toNat_allOnes, BitVec.toNat_ofNat, Nat.mod_eq_of_lt (by omega)] at e
 exact congrArg (fun n : Nat => (n : Int)) e
theorem low_bit (u : Nat) (h : u ≤ 18446744073709551615) : bits BinOp.and IntKind.u64 (u : Int) 1 = ((u % 2 : Nat) : Int) := by
 have := u64_and_nat u 1 (by omega) (by decide)
 rw [nat_mask1] at this
 exact this
theorem unfold_any (u : Nat) (w : World) (h : u ≤ 18446744073709551615) :
  Calls Tryz.prog 120 #[.int .u64 u] w fun e w' => e = .returned (.int .i64 (unz u)) ∧ w' = w := by
 have hl := low_bit u h
 by_cases hodd : u % 2 = 1
 ·have ht : (bits BinOp.and IntKind.u64 (u : Int) 1 == 1) = true := by rw [hl, hodd]; rfl
  obtain ⟨z, hz⟩ : ∃ z, z = 18446744073709551615 - u / 2 := ⟨_, rfl⟩
  have hn := not_half u h
  rw [← hz] at hn
  have HO := hide (unz_odd u hodd)
  have HZ := hide hz
  clear hl hodd hz
  go_enter Tryz.func120, Tryz.ntmps120
  go_wp2
  go_ret
  exact ⟨ret_int (by rw [HO.out, HZ.out]; simp [wrap64]; omega), rfl⟩
 ·have ht : (bits BinOp.and IntKind.u64 (u : Int) 1 == 1) = false := by rw [hl]; simp; omega
  have HO := hide (unz_even' u hodd)
  clear hl hodd
  go_enter Tryz.func120, Tryz.ntmps120
  go_wp2
  go_ret
  exact ⟨ret_int HO.out, rfl⟩
theorem place_big (s : ByteArray) (a : Int) (w : World) (hs : s.size ≤ maxLen) (h : 8000 < s.size) :
  Calls Tryz.prog 118 #[.string s, .int .i64 a] w fun e w' => e = .returned (.iface 167 (.agg #[.int .i64 2])) ∧ w' = w := by
 unfold maxLen at hs
 go_enter Tryz.func118, Tryz.ntmps118
 go_wp2
 go_ret
 exact ⟨rfl, rfl⟩
theorem place_neg (s : ByteArray) (a : Int) (w : World) (hs : ¬ 8000 < s.size) (h : a < 0) :
  Calls Tryz.prog 118 #[.string s, .int .i64 a] w fun e w' => e = .returned (.iface 167 (.agg #[.int .i64 1])) ∧ w' = w := by
 go_enter Tryz.func118, Tryz.ntmps118
 go_wp2
 go_ret
 exact ⟨rfl, rfl⟩
theorem place_ok (s : ByteArray) (a : Int) (w : World) (hs : ¬ 8000 < s.size) (h : ¬ a < 0) :
  Calls Tryz.prog 118 #[.string s, .int .i64 a] w fun e w' => e = .returned .nilIface ∧ w' = w := by
 go_enter Tryz.func118, Tryz.ntmps118
 go_wp2
 go_ret
 exact ⟨rfl, rfl⟩
def rd (s : ByteArray) (a : Int) : Int × Nat × Int := if 8000 < s.size then (0, 0, 2) else if a < 0 then (0, 0, 1) else (unz (numR s a.toNat).1, (numR s a.toNat).2.1, (numR s a.toNat).2.2)
theorem run_bound (s : ByteArray) : ∀ f k p u, k ≤ 9 → u < 2 ^ (7 * k) → (run s f k p u).1 ≤ 18446744073709551615 := by
 intro f
 induction f with
 | zero => intro k p u _ _; exact Nat.zero_le _
 | succ f ih =>
  intro k p u hk hu
  rw [run]
  split
  ·exact Nat.zero_le _
  ·split
   ·exact Nat.zero_le _
   ·rename_i h9
    split
    ·split
     ·exact Nat.zero_le _
     ·exact (next_small u (byteN s p) k hu hk h9).2
    ·exact ih _ _ _ (by omega) (next_lt _ _ _ hu)
theorem run_place (s : ByteArray) : ∀ f k p u, (run s f k p u).2.1 ≤ s.size := by
 intro f
 induction f with
 | zero => intro k p u; exact Nat.zero_le _
 | succ f ih =>
  intro k p u
  rw [run]
  split
  ·exact Nat.zero_le _
  ·split
   ·exact Nat.zero_le _
   ·split
    ·split
     ·exact Nat.zero_le _
     ·show p + 1 ≤ s.size; omega
    ·exact ih _ _ _
theorem read_any (s : ByteArray) (a : Int) (w : World) (hs : s.size ≤ maxLen) :
  Calls Tryz.prog 88 #[.string s, .int .i64 a] w fun e w' => e = .returned (.tuple #[.int .i64 (rd s a).1, .int .i64 (rd s a).2.1, errV (rd s a).2.2]) ∧ w' = w := by
 by_cases h1 : 8000 < s.size
 ·have HE : Hid (rd s a = (0, 0, 2)) := by unfold Hid rd; rw [if_pos h1]
  go_enter Tryz.func88, Tryz.ntmps88
  go_wp2_with fail
  refine (place_big s a _ hs h1).mono ?_
  rintro e w' ⟨rfl, hw⟩
  subst w'
  go_wp2
  go_ret3
  exact ⟨by rw [HE.out]; rfl, rfl⟩
 ·by_cases h2 : a < 0
  ·have HE : Hid (rd s a = (0, 0, 1)) := by unfold Hid rd; rw [if_neg h1, if_pos h2]
   go_enter Tryz.func88, Tryz.ntmps88
   go_wp2_with fail
   refine (place_neg s a _ h1 h2).mono ?_
   rintro e w' ⟨rfl, hw⟩
   subst w'
   go_wp2
   go_ret3
   exact ⟨by rw [HE.out]; rfl, rfl⟩
  ·obtain ⟨n, rfl⟩ := Int.eq_ofNat_of_zero_le (show 0 ≤ a from by omega)
   have HE : Hid (rd s (n : Int) = (unz (numR s n).1, (numR s n).2.1, (numR s n).2.2)) := by unfold Hid rd; rw [if_neg h1, if_neg h2, Int.toNat_natCast]
   have hb : (numR s n).1 ≤ 18446744073709551615 := run_bound s 10 0 n 0 (by decide) (by decide)
   go_enter Tryz.func88, Tryz.ntmps88
   go_wp2_with fail
   refine (place_ok s n _ h1 (by omega)).mono ?_
   rintro e w' ⟨rfl, hw⟩
   subst w'
   go_wp2_with fail
   refine (bits_any s n _ (by omega)).mono ?_
   generalize numR s n = r at HE hb ⊢
   obtain ⟨u, p, c⟩ := r
   simp only [bitsV] at HE hb ⊢
   generalize hev : errV c = ev
   have HEV := hide hev
   clear hev
   rintro e w' ⟨rfl, hw⟩
   subst w'
   go_wp2_with fail
   refine (unfold_any u _ hb).mono ?_
   rintro e w' ⟨rfl, hw⟩
   subst w'
   go_wp2
   go_ret3
   exact ⟨by rw [HE.out, ← HEV.out]; rfl, rfl⟩
def handle : Value := .iface 110 (.agg #[.pointer (some ⟨1, 40, none⟩)])
theorem getV_rd (s : ByteArray) (a : Int) : getV s a = if (rd s a).2.2 = 0 then outN (rd s a).1 (rd s a).2.1 0 else outN 0 0 (rd s a).2.2 := by
 unfold getV rd
 split
 ·rfl
 ·split
  ·rfl
  ·rfl
theorem bcell {W w1 : World} (hb : Below W.heap.size W w1) : (∀ b o, b < W.heap.size → w1.cell? ⟨b, o, none⟩ = W.cell? ⟨b, o, none⟩) ∧ (∀ b o, b < W.heap.size → w1.frozen? ⟨b, o, none⟩ = W.frozen? ⟨b, o, none⟩) :=
 ⟨fun b o h => hb.cell (p := ⟨b, o, none⟩) h, fun b o h => hb.frozen (p := ⟨b, o, none⟩) h⟩
end Go.Proofs.YthbpenanelbbcaaGreatDoor.Gn

