/- Texts put together: SoStabI, ShaPlain. -/
import Derived.Test.YtmkpakhpjgocjaaFs37
import Derived.Test.YtmkpakhpjgocjaaFs40
import Derived.Test.YtmkpakhpjgocjaaSortPlain3
import Derived.Laws.BitsAllLaws
/- The walk of a stable sort at places. -/
namespace Go.Proofs.Ytmkpakhpjgocjaa.So
open Go.RowKit Go.Sort Go.Proofs

set_option maxRecDepth 100000 in
set_option maxHeartbeats 4000000 in
theorem stable_I (T : ByteArray) (cc : Nat) (blk cap : Nat) (d : Array Nat) (w : World) (hH : HoldsK encI 1 w blk 0 d) (hblk : blk < w.heap.size) (hsz : d.size ≤ 1048576) (hcap : Cap w cc T) (hcb0 : cc ≠ blk) (hbd : ∀ i, dF d i < T.size) (hid : ∀ i, i < d.size → dF d i = i) :
    Calls Try.prog 168 #[.slice (some ⟨blk, 0, none⟩) d.size cap, .int .i64 d.size, .func (.func 157) #[] #[.pointer (some ⟨cc, 0, none⟩)]] w fun e w' =>
      e = .returned (.tuple #[]) ∧ ∃ n d' os, w' = sortWorldK encI 1 w blk 0 n d' os ∧ d'.size = d.size ∧ PermF 0 d.size (dF d) (dF d') ∧ Ris (clI T) 0 d.size (dF d') := by
  have HST := hideO (world_self hH)
  have HH := hideO hH
  have HCP : Hid (∀ (m : Nat) (dk : Array Nat) (os : Array Obj), Cap (sortWorldK encI 1 w blk 0 m dk os) cc T) := fun m dk os => hcap.block (world_block m dk os hcap.lt hcb0)
  have HBD := hideO hbd
  have HCB := hideO hcb0
  clear hcap hcb0 hbd
  clear hH
  obtain ⟨z, hz⟩ : ∃ z, z = d.size := ⟨_, rfl⟩
  have HZ := hideO hz
  rw [← hz] at hsz hid ⊢
  clear hz
  obtain ⟨f0, hf⟩ : ∃ f0, f0 = dF d := ⟨_, rfl⟩
  have HFD := hideO hf
  have HBF : Hid (∀ i, f0 i < T.size) := by
    unfold Hid
    rw [hf]
    exact HBD.out
  rw [← hf] at hid ⊢
  have HID := hideO hid
  clear hf hid
  have HIN := hideO (fun (n : Nat) (dk : Array Nat) (os : Array Obj) (hs : dk.size = z) (hbk : ∀ i, dF dk i < T.size) (a b : Nat) (h1 : a ≤ b) (h2 : b ≤ z) (hr : ∀ i j, a ≤ i → i < j → j < b → dF dk i < dF dk j) =>
    insertion_I T cc blk cap a b dk (sortWorldK encI 1 w blk 0 n dk os) (world_holds HH.out hblk n dk os (hs.trans HZ.out)) (Nat.lt_of_lt_of_le hblk (world_size n dk os)) h1 (by rw [hs]; exact h2) (by rw [hs]; exact hsz) (HCP.out n dk os) HCB.out hbk hr)
  have HMG := hideO (fun (n : Nat) (dk : Array Nat) (os : Array Obj) (hs : dk.size = z) (hbk : ∀ i, dF dk i < T.size) (a m b : Nat) (h1 : a < m) (h2 : m < b) (h3 : b ≤ z) (c1 : Ch (clI T) a m (dF dk)) (c2 : Ch (clI T) m b (dF dk)) =>
    merge_I T cc blk cap HCB.out (b - a) a m b dk (sortWorldK encI 1 w blk 0 n dk os) (Nat.le_refl _) (world_holds HH.out hblk n dk os (hs.trans HZ.out)) (Nat.lt_of_lt_of_le hblk (world_size n dk os)) h1 h2 (by rw [hs]; exact h3) (by rw [hs]; exact hsz) (HCP.out n dk os) hbk c1.1 c2.1 (c1.sep c2))
  have HWW := hideO (fun (n n' : Nat) (dk d' : Array Nat) (os os' : Array Obj) (hs : d'.size = dk.size) => world_world (enc := encI) (k := 1) (w := w) (blk := blk) (off := 0) n n' dk d' os os' hblk hs)
  go_enter Try.func168, Try.ntmps168
  go_wp2_with fail
  go_loopw [7, 8] (fun u v wr => ∃ (k n : Nat) (dk : Array Nat) (os : Array Obj), u = .int .i64 (20 * k : Nat) ∧ v = .int .i64 (20 * k + 20 : Nat) ∧ 20 * k ≤ z ∧ dk.size = z ∧ Chs (clI T) 20 z 0 (20 * k) (dF dk) ∧ (∀ i, 20 * k ≤ i → i < z → dF dk i = i) ∧ PermF 0 z f0 (dF dk) ∧ wr = sortWorldK encI 1 w blk 0 n dk os) (fun u _ _ => z - (intOf u).toNat)
  case atStart => exact ⟨0, 0, d, #[], rfl, rfl, by omega, HZ.out.symm, Chs.none, fun i _ h => by rw [← HFD.out]; exact HID.out i h, by rw [← HFD.out]; exact PermF.refl _ _ _, HST.out⟩
  case round =>
    obtain ⟨k, n, dk, os, rfl, rfl, hkz, hsk, hch, hidk, hpm, hwr⟩ := hrel
    have HSK := hideO hsk
    have HCH := hideO hch
    have HIK := hideO hidk
    have HPM := hideO hpm
    have HW := hideO hwr
    obtain ⟨a, ha⟩ : ∃ a, a = 20 * k := ⟨_, rfl⟩
    obtain ⟨b, hb⟩ : ∃ b, b = 20 * k + 20 := ⟨_, rfl⟩
    have HAB : Hid (a = 20 * k ∧ b = 20 * k + 20) := ⟨ha, hb⟩
    have hab : a < b := by omega
    rw [← ha] at hkz
    rw [← hb, ← ha]
    clear hsk hch hidk hpm ha hb
    by_cases hlt : b ≤ z
    · have HC := hideO (HIN.out n dk os HSK.out (HPM.out.bd HBF.out) a b (by omega) hlt (fun i j h1 h2 h3 => by have := HAB.out; rw [HIK.out i (by omega) (by omega), HIK.out j (by omega) (by omega)]; exact h2))
      rw [← hwr, HSK.out] at HC
      have hlt' : (b : Int) ≤ (z : Int) := by omega
      clear hwr
      go_wp2_with fail
      refine HC.out.mono ?_
      rintro er w1 ⟨rfl, n1, d1, os1, hw1, hs1, hp1, hr1⟩
      have HW1 : Hid (w1 = sortWorldK encI 1 w blk 0 (n + n1) d1 (os ++ os1)) := by
        unfold Hid
        rw [hw1, HW.out]
        exact HWW.out n n1 dk d1 os os1 (hs1.trans HSK.out.symm)
      have HS1 := hideO hs1
      have HP1 := hideO hp1
      have HR1 := hideO hr1
      obtain ⟨b4, hb4⟩ : ∃ b4, b4 = b + 20 := ⟨_, rfl⟩
      have e3 : (b : Int) + 20 = (b4 : Int) := by omega
      have HB4 := hideO hb4
      clear hb4
      clear hw1 hs1 hp1 hr1 HC
      go_wp2_with fail
      go_roundw
      case rel =>
        have hr := HAB.out
        refine ⟨k + 1, n + n1, d1, os ++ os1, by rw [hr.2]; rfl, by rw [HB4.out, hr.2]; rfl, by omega, HS1.out, ?_, fun i h1 h2 => ?_, HPM.out.trans (HP1.out.mono (Nat.zero_le _) (by omega) (by omega)), HW1.out⟩
        · have hc : Ch (clI T) (20 * k) (20 * k + 20) (dF d1) := by
            rw [← hr.2, ← hr.1]
            exact Ch.start (fun i h1 h2 => HIK.out i (by omega) (by omega)) HP1.out HR1.out
          have := HCH.out.more (g := dF d1) (by omega) (fun i hi => HP1.out.2 i (Or.inl (by omega))) hc
          rw [Nat.mul_succ]
          exact this
        · rw [HP1.out.2 i (Or.inr (by omega))]
          exact HIK.out i (by omega) h2
      case measure => have := HAB.out; simp [intOf]; omega
    · have hlt' : ¬ (b : Int) ≤ (z : Int) := by omega
      have HC := hideO (HIN.out n dk os HSK.out (HPM.out.bd HBF.out) a z (by omega) (Nat.le_refl _) (fun i j h1 h2 h3 => by have := HAB.out; rw [HIK.out i (by omega) (by omega), HIK.out j (by omega) (by omega)]; exact h2))
      rw [← hwr, HSK.out] at HC
      clear hwr
      go_wp2_with fail
      refine HC.out.mono ?_
      rintro er w1 ⟨rfl, n1, d1, os1, hw1, hs1, hp1, hr1⟩
      have HW1 : Hid (w1 = sortWorldK encI 1 w blk 0 (n + n1) d1 (os ++ os1)) := by
        unfold Hid
        rw [hw1, HW.out]
        exact HWW.out n n1 dk d1 os os1 (hs1.trans HSK.out.symm)
      have HCA : Hid (Chs (clI T) 20 z 0 z (dF d1)) := by
        have hr := HAB.out
        refine HCH.out.last (by omega) (fun i hi => hp1.2 i (Or.inl (by omega))) ?_
        rw [← hr.1]
        exact Ch.start (fun i h1 h2 => HIK.out i (by omega) h2) hp1 hr1
      have HPA := hideO (HPM.out.trans (hp1.mono (Nat.zero_le _) hkz (Nat.le_refl _)))
      have HS1 := hideO hs1
      clear hw1 hs1 hp1 hr1 HC
      go_wp2_with fail
      go_loopw [6] (fun u wr => ∃ (bs n : Nat) (dk : Array Nat) (os : Array Obj), u = .int .i64 bs ∧ 0 < bs ∧ bs ≤ 2 * z + 20 ∧ dk.size = z ∧ Chs (clI T) bs z 0 z (dF dk) ∧ PermF 0 z f0 (dF dk) ∧ wr = sortWorldK encI 1 w blk 0 n dk os) (fun u _ => z - (intOf u).toNat)
      case atStart => exact ⟨20, n + n1, d1, os ++ os1, rfl, by omega, by omega, HS1.out, HCA.out, HPA.out, HW1.out⟩
      case round =>
        obtain ⟨bs, n2, d2, os2, rfl, hbs0, hbsz, hs2, hch2, hpm2, hwr2⟩ := hrel
        have HS2 := hideO hs2
        have HC2 := hideO hch2
        have HP2 := hideO hpm2
        have HW2 := hideO hwr2
        clear hs2 hch2 hpm2 hwr2
        by_cases hlz : bs < z
        · have hlz' : (bs : Int) < (z : Int) := by omega
          obtain ⟨b2, hb2⟩ : ∃ b2, b2 = 2 * bs := ⟨_, rfl⟩
          have eb2 : 2 * (bs : Int) = (b2 : Int) := by omega
          have eb2' : (bs : Int) * 2 = (b2 : Int) := by omega
          have HB2 := hideO hb2
          clear hb2
          go_wp2_with fail
          go_loopw [7, 8] (fun u v wr => ∃ (k n : Nat) (dk : Array Nat) (os : Array Obj), u = .int .i64 (b2 * k : Nat) ∧ v = .int .i64 (b2 * k + b2 : Nat) ∧ b2 * k ≤ z ∧ dk.size = z ∧ Chs (clI T) b2 z 0 (b2 * k) (dF dk) ∧ Chs (clI T) bs z (b2 * k) z (dF dk) ∧ PermF 0 z f0 (dF dk) ∧ wr = sortWorldK encI 1 w blk 0 n dk os) (fun u _ _ => z - (intOf u).toNat)
          case atStart => exact ⟨0, n2, d2, os2, by simp, by simp, by omega, HS2.out, by rw [Nat.mul_zero]; exact Chs.none, by rw [Nat.mul_zero]; exact HC2.out, HP2.out, HW2.out⟩
          case round =>
            obtain ⟨k, n3, d3, os3, rfl, rfl, hkz3, hs3, hch3, hcr3, hpm3, hwr3⟩ := hrel
            have HS3 := hideO hs3
            have HC3 := hideO hch3
            have HD3 := hideO hcr3
            have HP3 := hideO hpm3
            have HW3 := hideO hwr3
            obtain ⟨a3, ha3⟩ : ∃ a3, a3 = b2 * k := ⟨_, rfl⟩
            obtain ⟨e3, he3⟩ : ∃ e3, e3 = b2 * k + b2 := ⟨_, rfl⟩
            obtain ⟨m3, hm3⟩ : ∃ m3, m3 = b2 * k + bs := ⟨_, rfl⟩
            have HAE : Hid (a3 = b2 * k ∧ e3 = a3 + b2 ∧ m3 = a3 + bs ∧ b2 = 2 * bs ∧ a3 = bs * (2 * k)) := by
              refine ⟨ha3, by omega, by omega, HB2.out, ?_⟩
              rw [ha3, HB2.out, Nat.mul_comm 2 bs, Nat.mul_assoc]
            have em3 : (a3 : Int) + (bs : Int) = (m3 : Int) := by omega
            rw [← ha3] at hkz3 HC3 HD3
            rw [← he3, ← ha3]
            have hal := HAE.out
            have hm3z : m3 ≤ z + bs := by omega
            have he3z : e3 ≤ z + b2 := by omega
            have hb2z : b2 ≤ 2 * z := by omega
            clear hs3 hch3 hcr3 hpm3 ha3 he3 hm3
            by_cases hle : e3 ≤ z
            · have hle' : (e3 : Int) ≤ (z : Int) := by omega
              have c1 : Ch (clI T) a3 m3 (dF d3) := by
                have := HD3.out.at0 hal.2.2.2.2 (by omega)
                rwa [Nat.min_eq_left (by omega), ← hal.2.2.1] at this
              have c2 : Ch (clI T) m3 e3 (dF d3) := by
                have := HD3.out.at1 hal.2.2.2.2 (by omega)
                rwa [Nat.min_eq_left (by omega), ← hal.2.2.1, show m3 + bs = e3 by omega] at this
              have HC := hideO (HMG.out n3 d3 os3 HS3.out (HP3.out.bd HBF.out) a3 m3 e3 (by omega) (by omega) hle c1 c2)
              rw [← hwr3, HS3.out] at HC
              have HCC : Hid (Ch (clI T) a3 m3 (dF d3) ∧ Ch (clI T) m3 e3 (dF d3)) := ⟨c1, c2⟩
              obtain ⟨e4, he4⟩ : ∃ e4, e4 = e3 + b2 := ⟨_, rfl⟩
              have ee4 : (e3 : Int) + (b2 : Int) = (e4 : Int) := by omega
              have HE4 := hideO he4
              clear hwr3 c1 c2 hal he4
              go_wp2_with fail
              refine HC.out.mono ?_
              rintro er w4 ⟨rfl, n4, d4, os4, hw4, hs4, hp4, hr4⟩
              have HW4 : Hid (w4 = sortWorldK encI 1 w blk 0 (n3 + n4) d4 (os3 ++ os4)) := by
                unfold Hid
                rw [hw4, HW3.out]
                exact HWW.out n3 n4 d3 d4 os3 os4 (hs4.trans HS3.out.symm)
              have HS4 := hideO hs4
              have HP4 := hideO hp4
              have HR4 := hideO hr4
              clear hw4 hs4 hp4 hr4 HC
              go_wp2_with fail
              go_roundw
              case rel =>
                have hal := HAE.out
                have hk1 : b2 * (k + 1) = e3 := by rw [Nat.mul_succ]; omega
                refine ⟨k + 1, n3 + n4, d4, os3 ++ os4, by rw [hk1], by rw [hk1, ← HE4.out], by omega, HS4.out, ?_, ?_, HP3.out.trans (HP4.out.mono (Nat.zero_le _) (by omega) hle), HW4.out⟩
                · rw [hk1]
                  have := HC3.out
                  rw [hal.1] at this
                  have q := this.more (g := dF d4) (by omega) (fun i hi => HP4.out.2 i (Or.inl (by omega))) (by
                    rw [← hal.1, ← hal.2.1]
                    exact HCC.out.1.merge HCC.out.2 (by omega) (by omega) HP4.out HR4.out)
                  rw [← hal.1, ← hal.2.1] at q
                  exact q
                · rw [hk1]
                  exact HD3.out.rest (by omega) (fun i h1 h2 => HP4.out.2 i (Or.inr h1))
              case measure => have := HAE.out; simp [intOf]; omega
            · have hle' : ¬ (e3 : Int) ≤ (z : Int) := by omega
              by_cases hmz : m3 < z
              · have hmz' : (m3 : Int) < (z : Int) := by omega
                have c1 : Ch (clI T) a3 m3 (dF d3) := by
                  have := HD3.out.at0 hal.2.2.2.2 (by omega)
                  rwa [Nat.min_eq_left (by omega), ← hal.2.2.1] at this
                have c2 : Ch (clI T) m3 z (dF d3) := by
                  have := HD3.out.at1 hal.2.2.2.2 (by omega)
                  rwa [Nat.min_eq_right (by omega), ← hal.2.2.1] at this
                have HC := hideO (HMG.out n3 d3 os3 HS3.out (HP3.out.bd HBF.out) a3 m3 z (by omega) hmz (Nat.le_refl _) c1 c2)
                rw [← hwr3, HS3.out] at HC
                have HCC : Hid (Ch (clI T) a3 m3 (dF d3) ∧ Ch (clI T) m3 z (dF d3)) := ⟨c1, c2⟩
                clear hwr3 c1 c2 hal
                go_wp2_with fail
                refine HC.out.mono ?_
                rintro er w4 ⟨rfl, n4, d4, os4, hw4, hs4, hp4, hr4⟩
                have HW4 : Hid (w4 = sortWorldK encI 1 w blk 0 (n3 + n4) d4 (os3 ++ os4)) := by
                  unfold Hid
                  rw [hw4, HW3.out]
                  exact HWW.out n3 n4 d3 d4 os3 os4 (hs4.trans HS3.out.symm)
                have HS4 := hideO hs4
                have HP4 := hideO hp4
                have HR4 := hideO hr4
                clear hw4 hs4 hp4 hr4 HC
                go_wp2_with fail
                go_roundw
                case rel =>
                  have hal := HAE.out
                  refine ⟨b2, n3 + n4, d4, os3 ++ os4, rfl, by omega, by omega, HS4.out, ?_, HP3.out.trans (HP4.out.mono (Nat.zero_le _) (by omega) (Nat.le_refl _)), HW4.out⟩
                  have := HC3.out
                  rw [hal.1] at this
                  refine this.last (by omega) (fun i hi => HP4.out.2 i (Or.inl (by omega))) ?_
                  rw [← hal.1]
                  exact HCC.out.1.merge HCC.out.2 (by omega) (by omega) HP4.out HR4.out
                case measure => have := HAE.out; simp [intOf]; omega
              · have hmz' : ¬ (m3 : Int) < (z : Int) := by omega
                clear hwr3 hal
                go_wp2_with fail
                go_roundw
                case rel =>
                  have hal := HAE.out
                  refine ⟨b2, n3, d3, os3, rfl, by omega, by omega, HS3.out, ?_, HP3.out, HW3.out⟩
                  rcases Nat.eq_or_lt_of_le hkz3 with q | q
                  · rw [← q]
                    rw [q]
                    have := HC3.out
                    rw [q] at this
                    exact this
                  · have := HC3.out
                    rw [hal.1] at this
                    refine this.last (by omega) (fun i hi => rfl) ?_
                    rw [← hal.1]
                    have c1 := HD3.out.at0 hal.2.2.2.2 q
                    rwa [Nat.min_eq_right (by omega)] at c1
                case measure => have := HAE.out; simp [intOf]; omega
        · have hlz' : ¬ (bs : Int) < (z : Int) := by omega
          have HF := hideO (HC2.out.whole (by omega))
          go_wp2_with fail
          refine bodyPost_end (v := .tuple #[]) (by simp [results, Try.results168, go_sem]) rfl ⟨rfl, n2, d2, ⟨os2, HW2.out⟩, HS2.out, HP2.out, HF.out⟩
end Go.Proofs.Ytmkpakhpjgocjaa.So

/- Plain mathematics of SHA-256, in the spellings of the model's own operations on numbers of 32 bits: turns, the spread of a chunk, the rounds. -/
namespace Go.Proofs.Ytmkpakhpjgocjaa.Sh

def rot (x : Int) (k : Nat) : Int := bits BinOp.or IntKind.u32 (x / 2 ^ k) (x * 2 ^ (32 - k) % 4294967296)

def rotI (x K : Int) : Int := rot x K.toNat

theorem or_comm32 (a b : Int) : bits BinOp.or IntKind.u32 a b = bits BinOp.or IntKind.u32 b a := by
  show IntKind.u32.wrap ((BitVec.ofInt 32 a ||| BitVec.ofInt 32 b).toNat : Int) = IntKind.u32.wrap ((BitVec.ofInt 32 b ||| BitVec.ofInt 32 a).toNat : Int)
  rw [BitVec.or_comm]

theorem neg_mask (k m : Nat) (hk : 0 < k) (hm : 0 < m) (h : k + m = 32) : bits BinOp.and IntKind.u64 (IntKind.u64.wrap (-(k : Int))) 31 = (m : Int) := by
  have e : IntKind.u64.wrap (-(k : Int)) = ((18446744073709551616 - k : Nat) : Int) := by
    simp [IntKind.wrap, IntKind.bits, IntKind.signed]
    omega
  rw [e]
  have := u64_and_nat (18446744073709551616 - k) 31 (by omega) (by decide)
  rw [nat_mask5] at this
  refine Eq.trans this ?_
  omega
end Go.Proofs.Ytmkpakhpjgocjaa.Sh
