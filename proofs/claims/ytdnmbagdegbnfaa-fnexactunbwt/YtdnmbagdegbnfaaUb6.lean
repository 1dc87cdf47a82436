/- Texts put together: ShaPlain, ShaPlain2, ShaMade, PlaceI, UnbImpl, UnbImpl2, UnbSpec2, BwtLaw, UnbLaw. -/
import Derived.Laws.BitsAllLaws
import Derived.Test.YtdnmbagdegbnfaaShaBytes
import Derived.Test.YtdnmbagdegbnfaaUb5
import Derived.Test.YtdnmbagdegbnfaaUbOrdImpl
import Derived.Test.YtdnmbagdegbnfaaPlcPlain
import Derived.Test.YtdnmbagdegbnfaaUbBwtImpl
import Derived.Test.YtdnmbagdegbnfaaUbUnbSpec
import Derived.Test.YtdnmbagdegbnfaaUbBwtSpec
/- Plain mathematics of SHA-256, in the spellings of the model's own operations on numbers of 32 bits: turns, the spread of a chunk, the rounds. -/
namespace Go.Proofs.Ytdnmbagdegbnfaa.Sh

def rot (x : Int) (k : Nat) : Int := bits BinOp.or IntKind.u32 (x / 2 ^ k) (x * 2 ^ (32 - k) % 4294967296)

def rotI (x K : Int) : Int := rot x K.toNat

theorem or_comm32 (a b : Int) : bits BinOp.or IntKind.u32 a b = bits BinOp.or IntKind.u32 b a := by
  show IntKind.u32.wrap ((BitVec.ofInt 32 a ||| BitVec.ofInt 32 b).toNat : Int) = IntKind.u32.wrap ((BitVec.ofInt 32 b ||| BitVec.ofInt 32 a).toNat : Int)
  rw [BitVec.or_comm]

theorem neg_mask (k m : Nat) (hk : 0 < k) (hm : 0 < m) (h : k + m = 32) : bits BinOp.and IntKind.u64 (IntKind.u64.wrap (-(k : Int))) 31 = (m : Int) := by
  have e : IntKind.u64.wrap (-(k : Int)) = ((18446744073709551616 - k : Nat) : Int) := by
    simp [IntKind.wrap, IntKind.bits, IntKind.signed]
    omega
  rw [e]
  have := u64_and_nat (18446744073709551616 - k) 31 (by omega) (by decide)
  rw [nat_mask5] at this
  refine Eq.trans this ?_
  omega
end Go.Proofs.Ytdnmbagdegbnfaa.Sh

/- Plain mathematics of SHA-256: the numbers of a chunk, their spread over the rounds. -/
namespace Go.Proofs.Ytdnmbagdegbnfaa.Sh

def part (B : Nat → Nat) (i : Nat) : Nat → Nat
  | 0 => 0
  | j + 1 => part B i j * 256 + B (4 * i + j)
def word (B : Nat → Nat) (i : Nat) : Nat := part B i 4

theorem part_lt (B : Nat → Nat) (hB : ∀ j, B j < 256) (i : Nat) : ∀ j, part B i j < 256 ^ j
  | 0 => by simp [part]
  | j + 1 => by
    have h := part_lt B hB i j
    have h2 := hB (4 * i + j)
    simp only [part, Nat.pow_succ]
    omega
theorem part_lt24 (B : Nat → Nat) (hB : ∀ j, B j < 256) (i j : Nat) (hj : j < 4) : part B i j < 16777216 := by
  have h := part_lt B hB i j
  have : (256 : Nat) ^ j ≤ 256 ^ 3 := Nat.pow_le_pow_right (by decide) (by omega)
  omega
theorem or_step (x b : Nat) (hx : x < 16777216) (hb : b < 256) : bits BinOp.or IntKind.u32 ((x : Int) * 256) (b : Int) = ((x * 256 + b : Nat) : Int) := by
  have := u32_or_nat (x * 256) b (by omega) (by omega)
  rw [nat_join 8 (x * 256) b (by omega) (by omega)] at this
  rw [← this]
  simp

def sm0 (x : Int) : Int := bits BinOp.xor IntKind.u32 (bits BinOp.xor IntKind.u32 (rotI x 7) (rotI x 18)) (x / 8)
def sm1 (x : Int) : Int := bits BinOp.xor IntKind.u32 (bits BinOp.xor IntKind.u32 (rotI x 17) (rotI x 19)) (x / 1024)

/-- w i of the document -/
def wv (B : Nat → Nat) (i : Nat) : Int :=
  if i < 16 then (word B i : Nat)
  else (wv B (i - 16) + sm0 (wv B (i - 15)) + wv B (i - 7) + sm1 (wv B (i - 2))) % 4294967296
termination_by i
decreasing_by all_goals omega

theorem wv_lo (B : Nat → Nat) (i : Nat) (h : i < 16) : wv B i = (word B i : Nat) := by rw [wv, if_pos h]
theorem wv_hi (B : Nat → Nat) (i : Nat) (h : ¬ i < 16) : wv B i = (wv B (i - 16) + sm0 (wv B (i - 15)) + wv B (i - 7) + sm1 (wv B (i - 2))) % 4294967296 := by rw [wv, if_neg h]
end Go.Proofs.Ytdnmbagdegbnfaa.Sh

/- A row of numbers that make has just made. -/
namespace Go.Proofs.Ytdnmbagdegbnfaa.Sh
open Go.RowKit

theorem made_zerosK (k : IntKind) (n : Nat) : (madeCells (Value.int k 0).cells (n * 1)).toList = (rowF k n (fun _ => 0)).toList := by
  apply List.ext_getElem?
  intro i
  by_cases hi : i < n
  · simp [madeCells, rowF, hi, Value.cells, Nat.mod_one]
  · simp [madeCells, rowF, hi, Value.cells]

theorem made_rowK {k : IntKind} {w : World} {base e g n : Nat} (h : w.ownsRow base e 1 (.slice (some ⟨g, 0, none⟩) n n) n (madeCells (Value.int k 0).cells (n * 1)).toList) : IsB w g e k n (fun _ => 0) := by
  obtain ⟨_, h⟩ := h
  rcases h with ⟨h, _⟩ | ⟨g', cap, cur, hv, _, hb, _, _, hsz, htk⟩
  · simp at h
  · simp at hv
    obtain ⟨rfl, rfl⟩ := hv
    rw [made_zerosK, List.take_of_length_le (by simp [hsz])] at htk
    have : cur = rowF k n (fun _ => 0) := by simpa using htk
    rw [this] at hb
    exact hb

/-- a row that the call owns, element by element -/
theorem own_cells {w : World} {base e n : Nat} {v : Value} {k : IntKind} {f : Nat → Int} (hn : 0 < n) (h : w.ownsRow base e 1 v n (rowF k n f).toList) :
    ∃ g c, v = .slice (some ⟨g, 0, none⟩) n c ∧ base ≤ g ∧ g < w.heap.size ∧ ∀ j, j < n → w.cell? ⟨g, j, none⟩ = some (.int k (f j)) := by
  obtain ⟨_, h⟩ := h
  rcases h with ⟨_, h⟩ | ⟨g, cap, cur, hv, hg, hb, hnc, _, hsz, htk⟩
  · omega
  · refine ⟨g, cap, hv, hg, (Array.getElem?_eq_some_iff.1 hb).1, fun j hj => ?_⟩
    rw [cell_of_row w g j cur e (0, 0) hb]
    have h1 : cur.toList[j]? = (cur.toList.take (n * 1))[j]? := by rw [List.getElem?_take_of_lt (by omega)]
    rw [← Array.getElem?_toList, h1, htk, Array.getElem?_toList]
    exact rowF_get k n f j hj
theorem rowF_snoc (k : IntKind) (n : Nat) (f : Nat → Int) : (rowF k n f).toList ++ [.int k (f n)] = (rowF k (n + 1) f).toList := by
  simp [rowF, List.range_succ]
/-- a text's byte at a place, as a walk asks for it -/
theorem byte_at (t : ByteArray) (j : Nat) (h : j < t.size) : ∃ y : UInt8, t[j] = y ∧ y.toNat = bt t j := ⟨t[j], rfl, bt_get t j h⟩

/-- four bytes put together by shifts -/
theorem word_spec (B : Nat → Nat) (k : Nat) (y0 y1 y2 y3 : Nat) (h0 : y0 = B (4 * k)) (h1 : y1 = B (4 * k + 1)) (h2 : y2 = B (4 * k + 2)) (h3 : y3 = B (4 * k + 3)) (hB : ∀ j, B j < 256) :
    bits BinOp.or IntKind.u32 (bits BinOp.or IntKind.u32 (bits BinOp.or IntKind.u32 ((y0 : Int) * 16777216) ((y1 : Int) * 65536))
      ((y2 : Int) * 256)) (y3 : Int) = ((word B k : Nat) : Int) := by
  have b0 := hB (4 * k)
  have b1 := hB (4 * k + 1)
  have b2 := hB (4 * k + 2)
  have b3 := hB (4 * k + 3)
  rw [← h0] at b0
  rw [← h1] at b1
  rw [← h2] at b2
  rw [← h3] at b3
  rw [show (y0 : Int) * 16777216 = ((y0 * 16777216 : Nat) : Int) by simp, show (y1 : Int) * 65536 = ((y1 * 65536 : Nat) : Int) by simp, show (y2 : Int) * 256 = ((y2 * 256 : Nat) : Int) by simp]
  rw [u32_or_nat _ _ (by omega) (by omega), nat_join 24 (y0 * 16777216) (y1 * 65536) (by omega) (by omega),
    u32_or_nat _ _ (by omega) (by omega), nat_join 16 (y0 * 16777216 + y1 * 65536) (y2 * 256) (by omega) (by omega),
    u32_or_nat _ _ (by omega) (by omega), nat_join 8 (y0 * 16777216 + y1 * 65536 + y2 * 256) y3 (by omega) (by omega)]
  simp only [word, part, Nat.add_zero, ← h0, ← h1, ← h2, ← h3]
  omega
end Go.Proofs.Ytdnmbagdegbnfaa.Sh

/- What the program's placesByByte answers. -/
namespace Go.Proofs.Ytdnmbagdegbnfaa.So
open Go.RowKit Go.Sort Go.Proofs
open Go.Proofs.Ytdnmbagdegbnfaa.Sh (bt bt_get bt_lt IsB)

set_option maxHeartbeats 1000000 in
theorem sortStable_I (T : ByteArray) (cc blk cap : Nat) (d : Array Nat) (w : World) (hH : HoldsK encI 1 w blk 0 d) (hblk : blk < w.heap.size) (hsz : d.size ≤ 1048576) (hcap : Cap w cc T) (hcb0 : cc ≠ blk) (hbd : ∀ i, dF d i < T.size) (hid : ∀ i, i < d.size → dF d i = i) :
    Calls Try.prog 151 #[.slice (some ⟨blk, 0, none⟩) d.size cap, .func (.func 152) #[] #[.pointer (some ⟨cc, 0, none⟩)]] w fun e w' =>
      e = .returned (.tuple #[]) ∧ ∃ n d' os, w' = sortWorldK encI 1 w blk 0 n d' os ∧ d'.size = d.size ∧ PermF 0 d.size (dF d) (dF d') ∧ Ris (clI T) 0 d.size (dF d') := by
  have HS := hideO (stable_I T cc blk cap d w hH hblk hsz hcap hcb0 hbd hid)
  clear hH hid hcap hbd
  generalize d.size = z at HS hsz ⊢
  go_enter Try.func151, Try.ntmps151
  go_wp2_with fail
  refine HS.out.mono ?_
  rintro e w' ⟨rfl, n, d', os, hw, hs, hp, hr⟩
  have HX : Hid (∃ n d' os, w' = sortWorldK encI 1 w blk 0 n d' os ∧ d'.size = z ∧ PermF 0 z (dF d) (dF d') ∧ Ris (clI T) 0 z (dF d')) := ⟨n, d', os, hw, hs, hp, hr⟩
  clear hw hs hp hr
  go_wp2_with fail
  refine bodyPost_end (v := .tuple #[]) (by simp [results, Try.results151, go_sem]) rfl ⟨rfl, HX.out⟩

/-- a row of numbers as the sort sees it -/
theorem holds_isB {w : World} {g n : Nat} {f : Nat → Nat} {e : TypeId} (h : IsB w g e .i64 n (fun j => ((f j : Nat) : Int))) : HoldsK encI 1 w g 0 ((List.range n).map f).toArray := by
  intro j hj
  rw [size_flatK] at hj
  have hj' : j < n := by simpa using hj
  rw [get_flatK _ _ _ _ hj, Nat.zero_add]
  refine ⟨?_, h.frozen j⟩
  rw [h.cell hj']
  simp [encI, hj', Nat.mod_one]
def iotaF (k : Nat) : Nat → Nat := fun j => if j < k then j else 0
theorem iotaF_next (k j : Nat) : Sh.upd (fun j => ((iotaF k j : Nat) : Int)) k (k : Nat) j = ((iotaF (k + 1) j : Nat) : Int) := by
  unfold Sh.upd iotaF
  by_cases e : j = k
  · subst e
    rw [if_pos rfl, if_pos (by omega)]
  · rw [if_neg e]
    by_cases h : j < k
    · have h' : j < k + 1 := by omega
      simp only [h, h', if_true]
    · have h' : ¬ j < k + 1 := by omega
      simp only [h, h', if_false]

theorem Try.infoI3 : (Try.prog.info? 3).map (fun i => (i.zero, i.size, i.bytes)) = some (some (.int .i64 0), 1, 8) := by kernel_rfl

set_option maxHeartbeats 1000000 in
theorem insertion_0 (blk cap : Nat) (cv : Value) (w : World) :
    Calls Try.prog 161 #[.slice (some ⟨blk, 0, none⟩) 0 cap, .int .i64 0, .int .i64 0, cv] w fun e w' => e = .returned (.tuple #[]) ∧ w' = w := by
  go_enter Try.func161, Try.ntmps161
  go_wp2_with fail
  go_loopw [8] (fun i wr => i = .int .i64 1 ∧ wr = w) (fun _ _ => 0)
  case atStart => exact ⟨rfl, rfl⟩
  case round =>
    obtain ⟨rfl, rfl⟩ := hrel
    go_wp2_with fail
    refine bodyPost_end (v := .tuple #[]) (by simp [results, Try.results161, go_sem]) rfl ⟨rfl, rfl⟩
set_option maxHeartbeats 1000000 in
theorem stable_0 (blk cap : Nat) (cv : Value) (w : World) :
    Calls Try.prog 158 #[.slice (some ⟨blk, 0, none⟩) 0 cap, .int .i64 0, cv] w fun e w' => e = .returned (.tuple #[]) ∧ w' = w := by
  have HI := hideO (insertion_0 blk cap cv w)
  go_enter Try.func158, Try.ntmps158
  go_wp2_with fail
  go_loopw [7, 8] (fun u v wr => u = .int .i64 0 ∧ v = .int .i64 20 ∧ wr = w) (fun _ _ _ => 0)
  case atStart => exact ⟨rfl, rfl, rfl⟩
  case round =>
    obtain ⟨rfl, rfl, rfl⟩ := hrel
    go_wp2_with fail
    refine HI.out.mono ?_
    rintro e w' ⟨rfl, hw⟩
    subst w'
    go_wp2_with fail
    go_loopw [6] (fun u wr2 => u = .int .i64 20 ∧ wr2 = wr) (fun _ _ => 0)
    case atStart => exact ⟨rfl, rfl⟩
    case round =>
      obtain ⟨rfl, hw⟩ := hrel
      subst hw
      go_wp2_with fail
      refine bodyPost_end (v := .tuple #[]) (by simp [results, Try.results158, go_sem]) rfl ⟨rfl, rfl⟩
set_option maxHeartbeats 1000000 in
theorem sortStable_0 (blk cap : Nat) (cv : Value) (w : World) :
    Calls Try.prog 151 #[.slice (some ⟨blk, 0, none⟩) 0 cap, cv] w fun e w' => e = .returned (.tuple #[]) ∧ w' = w := by
  have HS := hideO (stable_0 blk cap cv w)
  go_enter Try.func151, Try.ntmps151
  go_wp2_with fail
  refine HS.out.mono ?_
  rintro e w' ⟨rfl, hw⟩
  subst w'
  go_wp2_with fail
  refine bodyPost_end (v := .tuple #[]) (by simp [results, Try.results151, go_sem]) rfl ⟨rfl, rfl⟩
/-- the sort at the row of all places -/
theorem sort_all (t : ByteArray) (cc blk : Nat) (w : World) (hn : t.size ≤ 1048576) (hB : IsB w blk 3 .i64 t.size (fun j => ((iotaF t.size j : Nat) : Int))) (hcap : Cap w cc t) (hcb : cc < blk) :
    Calls Try.prog 151 #[.slice (some ⟨blk, 0, none⟩) t.size t.size, .func (.func 152) #[] #[.pointer (some ⟨cc, 0, none⟩)]] w fun e w' =>
      e = .returned (.tuple #[]) ∧ blk < w'.heap.size ∧ (∀ j, j < t.size → w'.cell? ⟨blk, j, none⟩ = some (.int .i64 (plF t j : Nat))) ∧ Below blk w w' := by
  by_cases h0 : t.size = 0
  · rw [h0]
    refine (sortStable_0 blk 0 _ w).mono ?_
    rintro e w' ⟨rfl, rfl⟩
    exact ⟨rfl, hB.lt, fun j hj => absurd hj (Nat.not_lt_zero _), Below.refl _ _⟩
  · have hH := holds_isB hB
    have hds : ((List.range t.size).map (iotaF t.size)).toArray.size = t.size := by simp
    have hdf : ∀ i, i < t.size → dF ((List.range t.size).map (iotaF t.size)).toArray i = i := fun i hi => by
      simp [dF, hi, iotaF]
    have hbd : ∀ i, dF ((List.range t.size).map (iotaF t.size)).toArray i < t.size := fun i => by
      by_cases hi : i < t.size
      · rw [hdf i hi]; exact hi
      · rw [dF_out _ _ (by rw [hds]; omega)]; omega
    have := sortStable_I t cc blk t.size _ w hH hB.lt (by rw [hds]; exact hn) hcap (by omega) hbd (fun i hi => hdf i (by rw [hds] at hi; exact hi))
    rw [hds] at this
    refine this.mono ?_
    rintro e w' ⟨rfl, n, d', os, rfl, hs, hp, hr⟩
    refine ⟨rfl, Nat.lt_of_lt_of_le hB.lt (world_size n d' os), fun j hj => ?_, world_below n d' os (Nat.le_refl _) (Nat.le_of_lt hB.lt)⟩
    have hH' := world_holds hH hB.lt n d' os (hs.trans hds.symm)
    have hc := (cells_I hH' (i := j) (by rw [hs]; exact hj)).1
    rw [hc]
    have hseg : (seg (dF d') 0 t.size).Perm (List.range t.size) := by
      have h1 := hp.1
      have e : seg (dF ((List.range t.size).map (iotaF t.size)).toArray) 0 t.size = List.range t.size := by
        unfold seg
        rw [Nat.sub_zero]
        apply List.ext_getElem
        · simp
        · intro i h1 h2
          have h3 : i < t.size := by simpa using h2
          simp only [List.getElem_map, List.getElem_range]
          rw [show (List.range' 0 t.size)[i]'(by simpa using h3) = i by simp]
          exact hdf i h3
      rw [e] at h1
      exact h1
    have := plF_seg hseg hr j hj
    rw [← this]
    rfl

set_option maxRecDepth 100000 in
set_option maxHeartbeats 1000000 in
theorem places_impl (t : ByteArray) (w : World) (hn : t.size ≤ 1048576) :
    Calls Try.prog 137 #[.string t] w fun e w' => ∃ g, e = .returned (.slice (some ⟨g, 0, none⟩) t.size t.size) ∧ w.heap.size ≤ g ∧ g < w'.heap.size ∧ (∀ j, j < t.size → w'.cell? ⟨g, j, none⟩ = some (.int .i64 (plF t j : Nat))) ∧ Below w.heap.size w w' := by
  obtain ⟨i0, hi0, hz0, hz1, hz2⟩ := info_parts Try.infoI3
  obtain ⟨w0, hw0⟩ : ∃ w0, w0 = w.alloc (.cells #[.string t] 9) := ⟨_, rfl⟩
  have z0 : w0.heap.size = w.heap.size + 1 := by rw [hw0]; simp
  have HC0 : Hid (Cap w0 w.heap.size t) := by unfold Hid Cap; rw [hw0, cell_of_row _ w.heap.size 0 _ _ (0, 0) (heap_alloc_last w _)]; rfl
  have HB0 : Hid (Below w.heap.size w w0) := by unfold Hid; rw [hw0]; exact (Below.refl _ _).alloc (Nat.le_refl _) _
  go_enter Try.func137, Try.ntmps137
  go_wp2_with (at_make; rw [← hw0]; refine wpList_make_full _ rfl (.tmp 6) (.tmp 6) 109 rfl w0.heap.size 3 i0 (.int .i64 0) 1 Try.underlying109 hi0 hz0 hz1 .i64 .i64 _ _ t.size rfl rfl (by simp) (by simp) (by rw [hz2]; omega) (by unfold maxLen; omega) (Nat.le_refl _) ?_; intro w1 hown1 hgrow1; have HT1 := hideO (Sh.made_rowK hown1); have hb1 := (Below.refl w0.heap.size w0).grown hgrow1 (Nat.le_refl _) (by simp); have HC1 : Hid (Cap w1 w.heap.size t) := HC0.out.block (hb1.block w.heap.size (by omega)); have HB1 := hideO (HB0.out.trans (hb1.mono (by omega))); have zz1 := HT1.out.lt; clear hown1 hgrow1 hb1)
  go_loopw [10] (fun i wr => ∃ k : Nat, i = .int .i64 k ∧ k ≤ t.size ∧ IsB wr (w.heap.size + 1) 3 .i64 t.size (fun j => ((iotaF k j : Nat) : Int)) ∧ Cap wr w.heap.size t ∧ Below w.heap.size w wr) (fun i _ => t.size - (intOf i).toNat)
  case atStart => exact ⟨0, rfl, Nat.zero_le _, by rw [← z0]; exact HT1.out.congr (fun j _ => by simp [iotaF]), HC1.out, HB1.out⟩
  case round =>
    obtain ⟨k, rfl, hk, hrow, hcap, hbel⟩ := hrel
    have T1 := hideO hrow
    have C1 := hideO hcap
    have GB := hideO hbel
    clear hbel hcap
    by_cases hlt : k < t.size
    · have c2 := hrow.cell (j := k) hlt
      have f2 := hrow.frozen k
      have hkz : (k : Int) < (t.size : Int) := by omega
      have TS := hideO ((hrow.set k (k : Nat)).congr (fun j _ => iotaF_next k j))
      have CS : Hid (Cap (wr.setCell ⟨w.heap.size + 1, k, none⟩ (.int .i64 (k : Nat))) w.heap.size t) := C1.out.block (heap_setCell_other _ _ _ _ (by simp))
      have BS := hideO (GB.out.setCell (p := ⟨w.heap.size + 1, k, none⟩) (by simp) (.int .i64 (k : Nat)))
      clear hrow
      go_wp2_with fail
      go_roundw
      case rel => exact ⟨k + 1, by go_num, by omega, TS.out, CS.out, BS.out⟩
      case measure => simp [intOf]; omega
    · obtain rfl : k = t.size := by omega
      have HS := hideO (sort_all t w.heap.size (w.heap.size + 1) wr hn T1.out C1.out (by omega))
      clear hrow
      go_wp2_with fail
      refine HS.out.mono ?_
      rintro e w2 ⟨rfl, hz, hc, hb⟩
      have HC := hideO hc
      have HB2 := hideO (GB.out.trans (hb.mono (by omega)))
      clear hc hb
      go_wp2_with fail
      go_ret
      exact ⟨_, rfl, by omega, hz, HC.out, HB2.out⟩
end Go.Proofs.Ytdnmbagdegbnfaa.So

/- What the program's Unbwt answers. -/
namespace Go.Proofs.Ytdnmbagdegbnfaa.So
open Go.RowKit Go.Sort Go.Proofs
open Go.Proofs.Ytdnmbagdegbnfaa.Sh (bt bt_get bt_lt strF IsB made_row)

set_option maxRecDepth 100000 in
set_option maxHeartbeats 1000000 in
theorem turnBack_impl (t : ByteArray) (a : Nat) (w : World) (hn : t.size ≤ 1048576) (ha : a < t.size ∨ t.size = 0) :
    Calls Try.prog 110 #[.string t, .int .i64 a] w fun e w' => e = .returned (.string (backT t a)) ∧ Below w.heap.size w w' := by
  obtain ⟨i0, hi0, hz0, hz1, hz2⟩ := info_parts Nu.Try.infoJ5
  have HPL := hideO (places_impl t w hn)
  go_enter Try.func110, Try.ntmps110
  go_wp2_with fail
  refine HPL.out.mono ?_
  rintro e w1 ⟨g, rfl, hg1, hg2, hc, hb1⟩
  have HC := hideO hc
  have HB1 := hideO hb1
  have z1 := hb1.size
  clear hc hb1
  go_wp2_with (at_make; refine wpList_make_full _ rfl (.tmp 12) (.tmp 12) 22 rfl w1.heap.size 5 i0 (.int .u8 0) 1 Try.underlying22 hi0 hz0 hz1 .i64 .i64 _ _ t.size rfl rfl (by simp) (by simp) (by rw [hz2]; omega) (by unfold maxLen; omega) (Nat.le_refl _) ?_; intro w2 hown2 hgrow2; have HT2 := hideO (made_row hown2); have HB2 := hideO ((Below.refl w1.heap.size w1).grown hgrow2 (Nat.le_refl _) (by simp)); clear hown2 hgrow2)
  go_loopw [17, 7] (fun i m wr => ∃ k : Nat, i = .int .i64 k ∧ k ≤ t.size ∧ m = .int .i64 (itR t a k : Nat) ∧ IsB wr w1.heap.size 5 .u8 t.size (fun j => ((fillK t a k j : Nat) : Int)) ∧ Below w1.heap.size w1 wr) (fun i _ _ => t.size - (intOf i).toNat)
  case atStart => exact ⟨0, rfl, Nat.zero_le _, rfl, HT2.out.congr (fun j _ => by simp [fillK]), HB2.out⟩
  case round =>
    obtain ⟨k, rfl, hk, rfl, hrow, hbel⟩ := hrel
    have T1 := hideO hrow
    have GB := hideO hbel
    have hsz := hrow.lt
    clear hbel
    by_cases hlt : k < t.size
    · have hat : a < t.size := by omega
      have hr1 := itR_lt t a k hat
      have hr2 := itR_lt t a (k + 1) hat
      have e0 : itR t a (k + 1) = plF t (itR t a k) := rfl
      have c1 : wr.cell? ⟨g, itR t a k, none⟩ = some (.int .i64 (itR t a (k + 1) : Nat)) := by
        rw [GB.out.cell (p := ⟨g, itR t a k, none⟩) hg2, e0]
        exact HC.out _ hr1
      have HN := hideO (fillK_next t a k)
      obtain ⟨p, hp⟩ : ∃ p, p = itR t a k := ⟨_, rfl⟩
      obtain ⟨q, hq⟩ : ∃ q, q = itR t a (k + 1) := ⟨_, rfl⟩
      have HQ := hideO hq
      rw [← hp, ← hq] at c1
      rw [← hq] at hr2 HN
      rw [← hp] at hr1 ⊢
      have hpz : (p : Int) < (t.size : Int) := by omega
      have hqz : (q : Int) < (t.size : Int) := by omega
      have hkz : (k : Int) < (t.size : Int) := by omega
      obtain ⟨y, hy, hyt⟩ : ∃ y : UInt8, t[q] = y ∧ y.toNat = bt t q := ⟨_, rfl, bt_get _ _ hr2⟩
      rw [← hyt] at HN
      have c2 := hrow.cell (j := k) hlt
      have f2 := hrow.frozen k
      have TS := hideO ((hrow.set k (y.toNat : Nat)).congr (fun j _ => HN.out j))
      have BS := hideO (GB.out.setCell (p := ⟨w1.heap.size, k, none⟩) (Nat.le_refl _) (.int .u8 (y.toNat : Nat)))
      clear hrow hp hq hyt e0 ha
      go_wp2_with fail
      go_roundw
      case rel => exact ⟨k + 1, by go_num, by omega, by rw [← HQ.out], TS.out, BS.out⟩
      case measure => simp [intOf]; omega
    · obtain rfl : k = t.size := by omega
      have hcv := hrow.str (P := Try.prog) (src := 22) (dst := 9) t.size t.size (Nat.le_refl _) (fun j _ => fillK_lt _ _ _ j) Try.underlying22 Try.underlying5 Try.underlying9
      rw [fillK_all] at hcv
      have BZ := hideO (HB1.out.trans (GB.out.mono z1))
      generalize itR t a t.size = m
      clear hrow ha
      go_wp2_with fail
      go_ret
      exact ⟨rfl, BZ.out⟩

set_option maxHeartbeats 1000000 in
theorem isPlace_impl (t : ByteArray) (a : Int) (w : World) :
    Calls Try.prog 109 #[.string t, .int .i64 a] w fun e w' => e = .returned (.bool (!decide (a < 0 ∨ ((t.size : Int) ≤ a ∧ 0 < a)))) ∧ w' = w := by
  by_cases h0 : a = 0
  · subst h0
    rw [decide_eq_false (by omega)]
    go_enter Try.func109, Try.ntmps109
    go_wp2_with fail
    go_ret
    exact ⟨rfl, rfl⟩
  · have hz : (a == 0) = false := beq_eq_false_iff_ne.2 h0
    by_cases h1 : 0 < a
    · have hd : decide (0 < a) = true := decide_eq_true h1
      by_cases h2 : a < (t.size : Int)
      · have hd2 : decide (a < (t.size : Int)) = true := decide_eq_true h2
        rw [decide_eq_false (by omega)]
        clear h0
        go_enter Try.func109, Try.ntmps109
        go_wp2_with fail
        go_ret
        exact ⟨rfl, rfl⟩
      · have hd2 : decide (a < (t.size : Int)) = false := decide_eq_false h2
        rw [decide_eq_true (by omega)]
        clear h0
        go_enter Try.func109, Try.ntmps109
        go_wp2_with fail
        go_ret
        exact ⟨rfl, rfl⟩
    · have hd : decide (0 < a) = false := decide_eq_false h1
      rw [decide_eq_true (by omega)]
      clear h0
      go_enter Try.func109, Try.ntmps109
      go_wp2_with fail
      go_ret
      exact ⟨rfl, rfl⟩
end Go.Proofs.Ytdnmbagdegbnfaa.So

/- What the program's Unbwt answers: the whole. -/
namespace Go.Proofs.Ytdnmbagdegbnfaa.So
open Go.RowKit Go.Sort Go.Proofs

def IsX (w : World) (g : Nat) : Prop := w.heap[g]? = some (.cells #[.string ⟨#[]⟩, .int .i64 0, .int .i64 0] 51 (0, 0))
theorem IsX.cells {w : World} {g : Nat} (h : IsX w g) : w.cell? ⟨g, 0, none⟩ = some (.string ⟨#[]⟩) ∧ w.cell? ⟨g, 1, none⟩ = some (.int .i64 0) ∧ w.cell? ⟨g, 2, none⟩ = some (.int .i64 0) ∧ (∀ j, w.frozen? ⟨g, j, none⟩ = false) := by
  refine ⟨?_, ?_, ?_, fun j => frozen_of_row w g j _ _ h⟩
  · rw [cell_of_row w g 0 _ _ (0, 0) h]; rfl
  · rw [cell_of_row w g 1 _ _ (0, 0) h]; rfl
  · rw [cell_of_row w g 2 _ _ (0, 0) h]; rfl
theorem bwtC_no {t : ByteArray} (h : t.size ≤ 48) : bwtC t = 0 := by
  unfold bwtC
  rw [if_neg (by omega), if_neg (by omega)]

set_option maxRecDepth 100000 in
set_option maxHeartbeats 1000000 in
theorem unbwt_impl (t : ByteArray) (a : Int) (w : World) (hn : t.size ≤ 1048576) :
    Calls Try.prog 45 #[.string t, .int .i64 a] w fun e w' => e = .returned (unR t a) ∧ Below w.heap.size w w' := by
  by_cases hbig : 8000 < t.size
  · have HV := hideO (unR_big (a := a) hbig)
    go_enter Try.func45, Try.ntmps45
    go_wp2_with fail
    refine bodyPost_ret (v := tOut ⟨#[]⟩ 0 2) (by simp [results, tOut, Try.results45, go_sem]) rfl ⟨by rw [HV.out], ?_⟩
    exact (Below.refl _ _).alloc (Nat.le_refl _) _
  · have hbig' : ¬ (8000 : Int) < (t.size : Int) := by omega
    by_cases hlong : 48 < t.size
    · have HV := hideO (unR_form (a := a) hbig (Or.inl hlong))
      have hd : decide ((48 : Int) < (t.size : Int)) = true := decide_eq_true (by omega)
      go_enter Try.func45, Try.ntmps45
      go_wp2_with fail
      refine bodyPost_ret (v := tOut ⟨#[]⟩ 0 1) (by simp [results, tOut, Try.results45, go_sem]) rfl ⟨by rw [HV.out], ?_⟩
      exact (Below.refl _ _).alloc (Nat.le_refl _) _
    · have hlong' : ¬ (48 : Int) < (t.size : Int) := by omega
      have hd : decide ((48 : Int) < (t.size : Int)) = false := decide_eq_false (by omega)
      obtain ⟨w0, hw0⟩ : ∃ w0, w0 = w.alloc (.cells #[.string ⟨#[]⟩, .int .i64 0, .int .i64 0] 51) := ⟨_, rfl⟩
      have z0 : w0.heap.size = w.heap.size + 1 := by rw [hw0]; simp
      have HR0 : Hid (IsX w0 w.heap.size) := by unfold Hid; rw [hw0]; exact heap_alloc_last w _
      have HB0 : Hid (Below w.heap.size w w0) := by unfold Hid; rw [hw0]; exact (Below.refl _ _).alloc (Nat.le_refl _) _
      have HIP := hideO (isPlace_impl t a w0)
      by_cases hbad : a < 0 ∨ ((t.size : Int) ≤ a ∧ 0 < a)
      · have HV := hideO (unR_form hbig (Or.inr hbad))
        rw [decide_eq_true hbad] at HIP
        go_enter Try.func45, Try.ntmps45
        go_wp2_with fail
        rw [← hw0]
        refine HIP.out.mono ?_
        rintro e w' ⟨rfl, hw⟩
        subst w'
        subst hw0
        go_wp2_with fail
        refine bodyPost_ret (v := tOut ⟨#[]⟩ 0 1) (by simp [results, tOut, Try.results45, go_sem]) rfl ⟨by rw [HV.out], ?_⟩
        exact (Below.refl _ _).alloc (Nat.le_refl _) _
      · rw [decide_eq_false hbad] at HIP
        obtain ⟨m, rfl⟩ : ∃ m : Nat, a = m := ⟨a.toNat, by omega⟩
        have HTB := hideO (turnBack_impl t m w0 hn (by omega))
        have hbz := backT_size t m
        have HBW := hideO (fun W => bwt_impl (backT t m) W (by omega))
        rw [bwtC_no (show (backT t m).size ≤ 48 by omega)] at HBW
        have HY := hideO (fun h => unR_yes (t := t) (a := m) (by omega) (by omega) h)
        have HNO := hideO (fun h => unR_no (t := t) (a := m) (by omega) (by omega) h)
        obtain ⟨b, hb⟩ : ∃ b, b = backT t m := ⟨_, rfl⟩
        obtain ⟨bt', hbt⟩ : ∃ bt', bt' = bwtT b := ⟨_, rfl⟩
        obtain ⟨ba, hba⟩ : ∃ ba, ba = bwtA b := ⟨_, rfl⟩
        rw [← hb] at HTB HBW HY HNO
        rw [← hbt, ← hba] at HBW HY HNO
        unfold sOut at HBW
        clear hb hbt hba hbz hbad
        by_cases hq : bt' = t ∧ ba = m
        · obtain ⟨rfl, rfl⟩ := hq
          have HV := hideO (HY.out ⟨rfl, rfl⟩)
          clear HY HNO
          go_enter Try.func45, Try.ntmps45
          go_wp2_with fail
          rw [← hw0]
          refine HIP.out.mono ?_
          rintro e w' ⟨rfl, hw⟩
          subst w'
          go_wp2_with fail
          rw [← hw0]
          refine HTB.out.mono ?_
          rintro e w1 ⟨rfl, hb1⟩
          have HR1 : Hid (IsX w1 w.heap.size) := (hb1.block w.heap.size (by omega)).trans HR0.out
          have HB1 := hideO (HB0.out.trans (hb1.mono (by omega)))
          have z1 := hb1.size
          clear hb1
          go_wp2_with fail
          refine (HBW.out w1).mono ?_
          rintro e w2 ⟨rfl, hb2⟩
          have hr2 : IsX w2 w.heap.size := (hb2.block w.heap.size (by omega)).trans HR1.out
          have GB := hideO (HB1.out.trans (hb2.mono (by omega)))
          have z2 := hb2.size
          obtain ⟨c0, c1, c2, f0⟩ := hr2.cells
          clear hr2 hb2
          go_wp2_with fail
          refine bodyPost_ret (v := tOut b 0 0) (by simp [results, tOut, Try.results45, go_sem, c0, c1, c2]) rfl ⟨by rw [HV.out], ?_⟩
          exact ((GB.out.setCell (Nat.le_refl _) _).setCell (Nat.le_refl _) _).setCell (Nat.le_refl _) _
        · have HV := hideO (HNO.out hq)
          by_cases hqt : bt' = t
          · subst hqt
            have hqm : ((ba : Int) == (m : Int)) = false := beq_eq_false_iff_ne.2 (fun e => hq ⟨rfl, by omega⟩)
            clear hq
            clear HY HNO
            go_enter Try.func45, Try.ntmps45
            go_wp2_with fail
            rw [← hw0]
            refine HIP.out.mono ?_
            rintro e w' ⟨rfl, hw⟩
            subst w'
            go_wp2_with fail
            rw [← hw0]
            refine HTB.out.mono ?_
            rintro e w1 ⟨rfl, hb1⟩
            have HR1 : Hid (IsX w1 w.heap.size) := (hb1.block w.heap.size (by omega)).trans HR0.out
            have HB1 := hideO (HB0.out.trans (hb1.mono (by omega)))
            have z1 := hb1.size
            clear hb1
            go_wp2_with fail
            refine (HBW.out w1).mono ?_
            rintro e w2 ⟨rfl, hb2⟩
            have hr2 : IsX w2 w.heap.size := (hb2.block w.heap.size (by omega)).trans HR1.out
            have GB := hideO (HB1.out.trans (hb2.mono (by omega)))
            have z2 := hb2.size
            obtain ⟨c0, c1, c2, f0⟩ := hr2.cells
            clear hr2 hb2
            go_wp2_with fail
            refine bodyPost_ret (v := tOut ⟨#[]⟩ 0 3) (by simp [results, tOut, Try.results45, go_sem, c0, c1, c2]) rfl ⟨by rw [HV.out], ?_⟩
            exact ((GB.out.setCell (Nat.le_refl _) _).setCell (Nat.le_refl _) _).setCell (Nat.le_refl _) _
          · have hqe : (bt'.toList == t.toList) = false := by rw [list_eq_iff]; exact decide_eq_false hqt
            clear hq hqt
            clear HY HNO
            go_enter Try.func45, Try.ntmps45
            go_wp2_with fail
            rw [← hw0]
            refine HIP.out.mono ?_
            rintro e w' ⟨rfl, hw⟩
            subst w'
            go_wp2_with fail
            rw [← hw0]
            refine HTB.out.mono ?_
            rintro e w1 ⟨rfl, hb1⟩
            have HR1 : Hid (IsX w1 w.heap.size) := (hb1.block w.heap.size (by omega)).trans HR0.out
            have HB1 := hideO (HB0.out.trans (hb1.mono (by omega)))
            have z1 := hb1.size
            clear hb1
            go_wp2_with fail
            refine (HBW.out w1).mono ?_
            rintro e w2 ⟨rfl, hb2⟩
            have hr2 : IsX w2 w.heap.size := (hb2.block w.heap.size (by omega)).trans HR1.out
            have GB := hideO (HB1.out.trans (hb2.mono (by omega)))
            have z2 := hb2.size
            obtain ⟨c0, c1, c2, f0⟩ := hr2.cells
            clear hr2 hb2
            go_wp2_with fail
            refine bodyPost_ret (v := tOut ⟨#[]⟩ 0 3) (by simp [results, tOut, Try.results45, go_sem, c0, c1, c2]) rfl ⟨by rw [HV.out], ?_⟩
            exact ((GB.out.setCell (Nat.le_refl _) _).setCell (Nat.le_refl _) _).setCell (Nat.le_refl _) _
end Go.Proofs.Ytdnmbagdegbnfaa.So

/- What the specification's Unbwt answers. -/
namespace Go.Proofs.Ytdnmbagdegbnfaa.So
open Go.RowKit Go.Sort Go.Proofs

set_option maxRecDepth 100000 in
set_option maxHeartbeats 8000000 in
theorem unbwt_spec (t : ByteArray) (a : Int) (w : World) (hn : t.size ≤ 1048576) :
    Calls Try.prog 54 #[.string t, .int .i64 a] w fun e w' => e = .returned (unR t a) ∧ Below w.heap.size w w' := by
  by_cases hbig : 8000 < t.size
  · have HV := hideO (unR_big (a := a) hbig)
    go_enter Try.func54, Try.ntmps54
    go_wp2_with fail
    refine bodyPost_ret (v := tOut ⟨#[]⟩ 0 2) (by simp [results, tOut, Try.results54, go_sem]) rfl ⟨by rw [HV.out], ?_⟩
    exact (Below.refl _ _).alloc (Nat.le_refl _) _
  · have hbig' : ¬ (8000 : Int) < (t.size : Int) := by omega
    obtain ⟨w0, hw0⟩ : ∃ w0, w0 = w.alloc (.cells #[.string ⟨#[]⟩, .int .i64 0, .int .i64 0] 51) := ⟨_, rfl⟩
    have z0 : w0.heap.size = w.heap.size + 1 := by rw [hw0]; simp
    have HR0 : Hid (IsX w0 w.heap.size) := by unfold Hid; rw [hw0]; exact heap_alloc_last w _
    have HB0 : Hid (Below w.heap.size w w0) := by unfold Hid; rw [hw0]; exact (Below.refl _ _).alloc (Nat.le_refl _) _
    have HIP := hideO (block_spec t w0 hn)
    by_cases hlong : 48 < t.size
    · have HV := hideO (unR_form (a := a) hbig (Or.inl hlong))
      rw [decide_eq_false (by omega : ¬ t.size ≤ 48)] at HIP
      go_enter Try.func54, Try.ntmps54
      go_wp2_with fail
      rw [← hw0]
      refine HIP.out.mono ?_
      rintro e w' ⟨rfl, hw⟩
      subst w'
      subst hw0
      go_wp2_with fail
      refine bodyPost_ret (v := tOut ⟨#[]⟩ 0 1) (by simp [results, tOut, Try.results54, go_sem]) rfl ⟨by rw [HV.out], ?_⟩
      exact (Below.refl _ _).alloc (Nat.le_refl _) _
    · rw [decide_eq_true (by omega : t.size ≤ 48)] at HIP
      by_cases hbad : a < 0 ∨ ((t.size : Int) ≤ a ∧ 0 < a)
      · have HV := hideO (unR_form hbig (Or.inr hbad))
        by_cases hneg : a < 0
        · have hd1 : decide (a < 0) = true := decide_eq_true hneg
          clear hbad
          go_enter Try.func54, Try.ntmps54
          go_wp2_with fail
          rw [← hw0]
          refine HIP.out.mono ?_
          rintro e w' ⟨rfl, hw⟩
          subst w'
          subst hw0
          go_wp2_with fail
          refine bodyPost_ret (v := tOut ⟨#[]⟩ 0 1) (by simp [results, tOut, Try.results54, go_sem]) rfl ⟨by rw [HV.out], ?_⟩
          exact (Below.refl _ _).alloc (Nat.le_refl _) _
        · have hd1 : decide (a < 0) = false := decide_eq_false hneg
          have hd2 : decide ((t.size : Int) ≤ a) = true := decide_eq_true (by omega)
          have hd3 : decide (0 < a) = true := decide_eq_true (by omega)
          have hd4 : decide (a < (t.size : Int)) = false := decide_eq_false (by omega)
          have p2 : (t.size : Int) ≤ a := by omega
          have p3 : 0 < a := by omega
          clear hbad
          go_enter Try.func54, Try.ntmps54
          go_wp2_with fail
          rw [← hw0]
          refine HIP.out.mono ?_
          rintro e w' ⟨rfl, hw⟩
          subst w'
          subst hw0
          go_wp2_with fail
          refine bodyPost_ret (v := tOut ⟨#[]⟩ 0 1) (by simp [results, tOut, Try.results54, go_sem]) rfl ⟨by rw [HV.out], ?_⟩
          exact (Below.refl _ _).alloc (Nat.le_refl _) _
      · obtain ⟨m, rfl⟩ : ∃ m : Nat, a = m := ⟨a.toNat, by omega⟩
        have hd1 : decide ((m : Int) < 0) = false := decide_eq_false (by omega)
        have HTB := hideO (l05Back_spec t m w0 (by omega) (by omega))
        have hbz := backT_size t m
        have HBW := hideO (fun W => l05Bwt_spec (backT t m) W (by omega))
        have HY := hideO (fun h => unR_yes (t := t) (a := m) (by omega) (by omega) h)
        have HNO := hideO (fun h => unR_no (t := t) (a := m) (by omega) (by omega) h)
        obtain ⟨b, hb⟩ : ∃ b, b = backT t m := ⟨_, rfl⟩
        obtain ⟨bt', hbt⟩ : ∃ bt', bt' = bwtT b := ⟨_, rfl⟩
        obtain ⟨ba, hba⟩ : ∃ ba, ba = bwtA b := ⟨_, rfl⟩
        rw [← hb] at HTB HBW HY HNO
        rw [← hbt, ← hba] at HBW HY HNO
        have hcase : (¬ t.size ≤ m) ∨ (t.size ≤ m ∧ ¬ 0 < m) := by omega
        clear hb hbt hba hbz hbad
        have HALL : Hid (∀ w1 : World, Below w0.heap.size w0 w1 → ∀ w2 : World, Below w1.heap.size w1 w2 → IsX w2 w.heap.size ∧ Below w.heap.size w w2 ∧ w.heap.size < w2.heap.size) := fun w1 h1 w2 h2 => by
          have z1 := h1.size
          have z2 := h2.size
          exact ⟨(h2.block w.heap.size (by omega)).trans ((h1.block w.heap.size (by omega)).trans HR0.out), (HB0.out.trans (h1.mono (by omega))).trans (h2.mono (by omega)), by omega⟩
        by_cases hq : bt' = t ∧ ba = m
        · obtain ⟨rfl, rfl⟩ := hq
          have HV := hideO (HY.out ⟨rfl, rfl⟩)
          clear HY HNO
          rcases hcase with p2 | ⟨p2, p3⟩
          · have q2 : ¬ (bt'.size : Int) ≤ (ba : Int) := by omega
            have d2 : decide (bt'.size ≤ ba) = false := decide_eq_false p2
            have d2z : decide ((bt'.size : Int) ≤ (ba : Int)) = false := decide_eq_false q2
            go_enter Try.func54, Try.ntmps54
            go_wp2_with fail
            rw [← hw0]
            refine HIP.out.mono ?_
            rintro e w' ⟨rfl, hw⟩
            subst w'
            go_wp2_with fail
            rw [← hw0]
            refine HTB.out.mono ?_
            rintro e w1 ⟨rfl, hb1⟩
            have HB1 := hideO hb1
            clear hb1
            go_wp2_with fail
            refine (HBW.out w1).mono ?_
            rintro e w2 ⟨rfl, hb2⟩
            obtain ⟨hr2, hg2, z2⟩ := HALL.out w1 HB1.out w2 hb2
            have GB := hideO hg2
            obtain ⟨c0, c1, c2, f0⟩ := hr2.cells
            clear hr2 hb2 hg2
            go_wp2_with fail
            refine bodyPost_ret (v := tOut b 0 0) (by simp [results, tOut, Try.results54, go_sem, c0, c1, c2]) rfl ⟨by rw [HV.out], ?_⟩
            exact ((GB.out.setCell (Nat.le_refl _) _).setCell (Nat.le_refl _) _).setCell (Nat.le_refl _) _
          · have q2 : (bt'.size : Int) ≤ (ba : Int) := by omega
            have d2 : decide (bt'.size ≤ ba) = true := decide_eq_true p2
            have d2z : decide ((bt'.size : Int) ≤ (ba : Int)) = true := decide_eq_true q2
            have q3 : ¬ (0 : Int) < (ba : Int) := by omega
            have d3 : decide (0 < ba) = false := decide_eq_false p3
            have d3z : decide ((0 : Int) < (ba : Int)) = false := decide_eq_false q3
            go_enter Try.func54, Try.ntmps54
            go_wp2_with fail
            rw [← hw0]
            refine HIP.out.mono ?_
            rintro e w' ⟨rfl, hw⟩
            subst w'
            go_wp2_with fail
            rw [← hw0]
            refine HTB.out.mono ?_
            rintro e w1 ⟨rfl, hb1⟩
            have HB1 := hideO hb1
            clear hb1
            go_wp2_with fail
            refine (HBW.out w1).mono ?_
            rintro e w2 ⟨rfl, hb2⟩
            obtain ⟨hr2, hg2, z2⟩ := HALL.out w1 HB1.out w2 hb2
            have GB := hideO hg2
            obtain ⟨c0, c1, c2, f0⟩ := hr2.cells
            clear hr2 hb2 hg2
            go_wp2_with fail
            refine bodyPost_ret (v := tOut b 0 0) (by simp [results, tOut, Try.results54, go_sem, c0, c1, c2]) rfl ⟨by rw [HV.out], ?_⟩
            exact ((GB.out.setCell (Nat.le_refl _) _).setCell (Nat.le_refl _) _).setCell (Nat.le_refl _) _
        · have HV := hideO (HNO.out hq)
          by_cases hqt : bt' = t
          · subst hqt
            have hqm : ((ba : Int) != (m : Int)) = true := bne_iff_ne.2 (fun e => hq ⟨rfl, by omega⟩)
            clear hq HY HNO
            rcases hcase with p2 | ⟨p2, p3⟩
            · have q2 : ¬ (bt'.size : Int) ≤ (m : Int) := by omega
              have d2 : decide (bt'.size ≤ m) = false := decide_eq_false p2
              have d2z : decide ((bt'.size : Int) ≤ (m : Int)) = false := decide_eq_false q2
              go_enter Try.func54, Try.ntmps54
              go_wp2_with fail
              rw [← hw0]
              refine HIP.out.mono ?_
              rintro e w' ⟨rfl, hw⟩
              subst w'
              go_wp2_with fail
              rw [← hw0]
              refine HTB.out.mono ?_
              rintro e w1 ⟨rfl, hb1⟩
              have HB1 := hideO hb1
              clear hb1
              go_wp2_with fail
              refine (HBW.out w1).mono ?_
              rintro e w2 ⟨rfl, hb2⟩
              obtain ⟨hr2, hg2, z2⟩ := HALL.out w1 HB1.out w2 hb2
              have GB := hideO hg2
              obtain ⟨c0, c1, c2, f0⟩ := hr2.cells
              clear hr2 hb2 hg2
              go_wp2_with fail
              refine bodyPost_ret (v := tOut ⟨#[]⟩ 0 3) (by simp [results, tOut, Try.results54, go_sem, c0, c1, c2]) rfl ⟨by rw [HV.out], ?_⟩
              exact ((GB.out.setCell (Nat.le_refl _) _).setCell (Nat.le_refl _) _).setCell (Nat.le_refl _) _
            · have q2 : (bt'.size : Int) ≤ (m : Int) := by omega
              have d2 : decide (bt'.size ≤ m) = true := decide_eq_true p2
              have d2z : decide ((bt'.size : Int) ≤ (m : Int)) = true := decide_eq_true q2
              have q3 : ¬ (0 : Int) < (m : Int) := by omega
              have d3 : decide (0 < m) = false := decide_eq_false p3
              have d3z : decide ((0 : Int) < (m : Int)) = false := decide_eq_false q3
              go_enter Try.func54, Try.ntmps54
              go_wp2_with fail
              rw [← hw0]
              refine HIP.out.mono ?_
              rintro e w' ⟨rfl, hw⟩
              subst w'
              go_wp2_with fail
              rw [← hw0]
              refine HTB.out.mono ?_
              rintro e w1 ⟨rfl, hb1⟩
              have HB1 := hideO hb1
              clear hb1
              go_wp2_with fail
              refine (HBW.out w1).mono ?_
              rintro e w2 ⟨rfl, hb2⟩
              obtain ⟨hr2, hg2, z2⟩ := HALL.out w1 HB1.out w2 hb2
              have GB := hideO hg2
              obtain ⟨c0, c1, c2, f0⟩ := hr2.cells
              clear hr2 hb2 hg2
              go_wp2_with fail
              refine bodyPost_ret (v := tOut ⟨#[]⟩ 0 3) (by simp [results, tOut, Try.results54, go_sem, c0, c1, c2]) rfl ⟨by rw [HV.out], ?_⟩
              exact ((GB.out.setCell (Nat.le_refl _) _).setCell (Nat.le_refl _) _).setCell (Nat.le_refl _) _
          · have hqe : (bt'.toList == t.toList) = false := by rw [list_eq_iff]; exact decide_eq_false hqt
            clear hq hqt HY HNO
            rcases hcase with p2 | ⟨p2, p3⟩
            · have q2 : ¬ (t.size : Int) ≤ (m : Int) := by omega
              have d2 : decide (t.size ≤ m) = false := decide_eq_false p2
              have d2z : decide ((t.size : Int) ≤ (m : Int)) = false := decide_eq_false q2
              go_enter Try.func54, Try.ntmps54
              go_wp2_with fail
              rw [← hw0]
              refine HIP.out.mono ?_
              rintro e w' ⟨rfl, hw⟩
              subst w'
              go_wp2_with fail
              rw [← hw0]
              refine HTB.out.mono ?_
              rintro e w1 ⟨rfl, hb1⟩
              have HB1 := hideO hb1
              clear hb1
              go_wp2_with fail
              refine (HBW.out w1).mono ?_
              rintro e w2 ⟨rfl, hb2⟩
              obtain ⟨hr2, hg2, z2⟩ := HALL.out w1 HB1.out w2 hb2
              have GB := hideO hg2
              obtain ⟨c0, c1, c2, f0⟩ := hr2.cells
              clear hr2 hb2 hg2
              go_wp2_with fail
              refine bodyPost_ret (v := tOut ⟨#[]⟩ 0 3) (by simp [results, tOut, Try.results54, go_sem, c0, c1, c2]) rfl ⟨by rw [HV.out], ?_⟩
              exact ((GB.out.setCell (Nat.le_refl _) _).setCell (Nat.le_refl _) _).setCell (Nat.le_refl _) _
            · have q2 : (t.size : Int) ≤ (m : Int) := by omega
              have d2 : decide (t.size ≤ m) = true := decide_eq_true p2
              have d2z : decide ((t.size : Int) ≤ (m : Int)) = true := decide_eq_true q2
              have q3 : ¬ (0 : Int) < (m : Int) := by omega
              have d3 : decide (0 < m) = false := decide_eq_false p3
              have d3z : decide ((0 : Int) < (m : Int)) = false := decide_eq_false q3
              go_enter Try.func54, Try.ntmps54
              go_wp2_with fail
              rw [← hw0]
              refine HIP.out.mono ?_
              rintro e w' ⟨rfl, hw⟩
              subst w'
              go_wp2_with fail
              rw [← hw0]
              refine HTB.out.mono ?_
              rintro e w1 ⟨rfl, hb1⟩
              have HB1 := hideO hb1
              clear hb1
              go_wp2_with fail
              refine (HBW.out w1).mono ?_
              rintro e w2 ⟨rfl, hb2⟩
              obtain ⟨hr2, hg2, z2⟩ := HALL.out w1 HB1.out w2 hb2
              have GB := hideO hg2
              obtain ⟨c0, c1, c2, f0⟩ := hr2.cells
              clear hr2 hb2 hg2
              go_wp2_with fail
              refine bodyPost_ret (v := tOut ⟨#[]⟩ 0 3) (by simp [results, tOut, Try.results54, go_sem, c0, c1, c2]) rfl ⟨by rw [HV.out], ?_⟩
              exact ((GB.out.setCell (Nat.le_refl _) _).setCell (Nat.le_refl _) _).setCell (Nat.le_refl _) _
end Go.Proofs.Ytdnmbagdegbnfaa.So

/- The walk of the law FnExactBwt. -/
namespace Go.Proofs.Ytdnmbagdegbnfaa.So
open Go.RowKit

set_option maxHeartbeats 400000 in
theorem eq_sort (t : ByteArray) (a c : Nat) (w : World) :
    Calls Try.prog 72 #[.agg #[.string t, .int .i64 a, .int .i64 c], .agg #[.string t, .int .i64 a, .int .i64 c]] w fun e w' => e = .returned (.bool true) ∧ Below w.heap.size w w' := by
  have h1 : ((a : Int) != (a : Int)) = false := by simp
  have h2 : ((c : Int) != (c : Int)) = false := by simp
  go_enter Try.func72, Try.ntmps72
  go_wp2
  go_ret
  exact ⟨rfl, ((Below.refl _ _).alloc (Nat.le_refl _) _).alloc (by simp) _⟩
theorem bcell {W w1 : World} (hb : Below W.heap.size W w1) : (∀ b o, b < W.heap.size → w1.cell? ⟨b, o, none⟩ = W.cell? ⟨b, o, none⟩) ∧ (∀ b o, b < W.heap.size → w1.frozen? ⟨b, o, none⟩ = W.frozen? ⟨b, o, none⟩) :=
  ⟨fun b o h => hb.cell (p := ⟨b, o, none⟩) h, fun b o h => hb.frozen (p := ⟨b, o, none⟩) h⟩
end Go.Proofs.Ytdnmbagdegbnfaa.So
namespace Go.Proofs.Ytdnmbagdegbnfaa.fnExactBwt
open Go.RowKit
open Go.Proofs.Ytdnmbagdegbnfaa.So

set_option maxHeartbeats 400000 in
theorem walk (a0 : ByteArray) (w0 : a0.size ≤ maxLen) (w : World) :
    Calls Try.prog 11 #[.string a0] w fun e w' => e = .returned (.bool true) ∧ Below w.heap.size w w' := by
  have hs := w0
  unfold maxLen at hs
  have HI := hideO (fun (W : World) (h : a0.size ≤ 1048576) => bwt_impl a0 W h)
  have HP := hideO (fun (W : World) (h : a0.size ≤ 1048576) => bwt_spec a0 W h)
  unfold sOut at HI HP
  generalize bwtT a0 = t at HI HP
  generalize bwtA a0 = m at HI HP
  generalize bwtC a0 = c at HI HP
  by_cases hbig : 1048576 < a0.size
  · go_enter Try.func11, Try.ntmps11
    go_wp2
    go_ret
    exact ⟨rfl, Below.refl _ _⟩
  · have HN : Hid (a0.size ≤ 1048576) := by
      unfold Hid
      omega
    have hbig' : ¬ (1048576 : Int) < (a0.size : Int) := by omega
    go_enter Try.func11, Try.ntmps11
    go_wp2_with fail
    refine (HP.out _ HN.out).mono ?_
    rintro e w1 ⟨rfl, hb1⟩
    go_wp2_with fail
    refine (HI.out _ HN.out).mono ?_
    rintro e w2 ⟨rfl, hb2⟩
    obtain ⟨hc2, hf2⟩ := bcell hb2
    have hz2 : w1.heap.size < w2.heap.size := by have := hb2.size; simp at this; omega
    go_wp2_with fail
    refine (eq_sort _ _ _ _).mono ?_
    rintro e w3 ⟨rfl, hb3⟩
    go_wp2
    go_ret
    refine ⟨rfl, ?_⟩
    have k1 := (hb1.alloc hb1.size (.cells #[.string t, .int .i64 m, .int .i64 c] 49)).trans (hb2.mono (by have := hb1.size; simp; omega))
    have k2 := k1.alloc (by have := hb1.size; omega) (.cells #[.string t, .int .i64 m, .int .i64 c] 49)
    exact k2.trans (hb3.mono (by have := hb1.size; simp; omega))
end Go.Proofs.Ytdnmbagdegbnfaa.fnExactBwt

/- The walk of the law FnExactUnbwt. -/
namespace Go.Proofs.Ytdnmbagdegbnfaa.So
open Go.RowKit

set_option maxHeartbeats 400000 in
theorem eq_text (t : ByteArray) (a c : Int) (w : World) :
    Calls Try.prog 73 #[.agg #[.string t, .int .i64 a, .int .i64 c], .agg #[.string t, .int .i64 a, .int .i64 c]] w fun e w' => e = .returned (.bool true) ∧ Below w.heap.size w w' := by
  have h1 : (a != a) = false := by simp
  have h2 : (c != c) = false := by simp
  go_enter Try.func73, Try.ntmps73
  go_wp2
  go_ret
  exact ⟨rfl, ((Below.refl _ _).alloc (Nat.le_refl _) _).alloc (by simp) _⟩
end Go.Proofs.Ytdnmbagdegbnfaa.So
namespace Go.Proofs.Ytdnmbagdegbnfaa.fnExactUnbwt
open Go.RowKit
open Go.Proofs.Ytdnmbagdegbnfaa.So

set_option maxHeartbeats 400000 in
theorem walk (a0 : ByteArray) (w0 : a0.size ≤ maxLen) (a1 : Int) (w : World) :
    Calls Try.prog 12 #[.string a0, .int .i64 a1] w fun e w' => e = .returned (.bool true) ∧ Below w.heap.size w w' := by
  have hs := w0
  unfold maxLen at hs
  have HI := hideO (fun (W : World) (h : a0.size ≤ 1048576) => unbwt_impl a0 a1 W h)
  have HP := hideO (fun (W : World) (h : a0.size ≤ 1048576) => unbwt_spec a0 a1 W h)
  obtain ⟨t, c, hv⟩ := unR_case a0 a1
  rw [hv] at HI HP
  clear hv
  by_cases hbig : 1048576 < a0.size
  · go_enter Try.func12, Try.ntmps12
    go_wp2
    go_ret
    exact ⟨rfl, Below.refl _ _⟩
  · have HN : Hid (a0.size ≤ 1048576) := by
      unfold Hid
      omega
    have hbig' : ¬ (1048576 : Int) < (a0.size : Int) := by omega
    go_enter Try.func12, Try.ntmps12
    go_wp2_with fail
    refine (HP.out _ HN.out).mono ?_
    rintro e w1 ⟨rfl, hb1⟩
    go_wp2_with fail
    refine (HI.out _ HN.out).mono ?_
    rintro e w2 ⟨rfl, hb2⟩
    obtain ⟨hc2, hf2⟩ := bcell hb2
    have hz2 : w1.heap.size < w2.heap.size := by have := hb2.size; simp at this; omega
    go_wp2_with fail
    refine (eq_text _ _ _ _).mono ?_
    rintro e w3 ⟨rfl, hb3⟩
    go_wp2
    go_ret
    refine ⟨rfl, ?_⟩
    have k1 := (hb1.alloc hb1.size (.cells #[.string t, .int .i64 0, .int .i64 c] 51)).trans (hb2.mono (by have := hb1.size; simp; omega))
    have k2 := k1.alloc (by have := hb1.size; omega) (.cells #[.string t, .int .i64 0, .int .i64 c] 51)
    exact k2.trans (hb3.mono (by have := hb1.size; simp; omega))
end Go.Proofs.Ytdnmbagdegbnfaa.fnExactUnbwt
