/- Texts put together: PkCat, WayRow. -/
import Derived.Test.YtkfipamdfpknpaaDoorWy29
import Derived.Test.YtkfipamdfpknpaaDoorWy32
import Derived.Test.YtkfipamdfpknpaaDoorWy33
import Derived.Test.YtkfipamdfpknpaaDoorWy24
import Derived.Test.YtkfipamdfpknpaaDoorWy28
import Derived.Laws.AppendOwn
import Derived.WalkSpells
import Derived.Stop.Asserts
import Derived.RowKitTokens
/- The walks of joinAll and putNums. -/
namespace Go.Proofs.YtkfipamdfpknpaaDoor.Pk
open Go.RowKit
open Go.Proofs.YtkfipamdfpknpaaDoor.St (Strs IsS made_strs)
open Go.Proofs.YtkfipamdfpknpaaDoor.In (Ints IsI OwnI)
open Go.Proofs.YtkfipamdfpknpaaDoor.Nu (putS)
theorem hideP {p : Prop} (h : p) : Hid p := h
def cat (l : List ByteArray) : List UInt8 := l.flatMap fun s => s.data.toList
theorem cat_next (l : List ByteArray) (k : Nat) (h : k < l.length) : cat (l.take (k + 1)) = cat (l.take k) ++ l[k].data.toList := by
 rw [List.take_add_one, List.getElem?_eq_getElem h]
 unfold cat
 rw [List.flatMap_append]
 simp
theorem cat_take_le (l : List ByteArray) (k : Nat) : (cat (l.take k)).length ≤ (cat l).length := by
  have : cat l = cat (l.take k) ++ cat (l.drop k) := by
   unfold cat
   rw [← List.flatMap_append, List.take_append_drop]
  rw [this, List.length_append]
  omega
set_option maxRecDepth 100000 in
set_option maxHeartbeats 1000000 in
theorem join_any (l : List ByteArray) (a : Option Addr) (cap n : Nat) (w : World) (h : Strs w w.heap.size a l) (hn : l.length = n) (hn2 : n ≤ 1048576) (hc : (cat l).length ≤ 1048576) :
  Calls Tryd.prog 53 #[.slice a n cap] w fun e w' => e = .returned (.string ⟨(cat l).toArray⟩) ∧ Below w.heap.size w w' := by
 have HN := hideP hn
 have HS := hideP h
 have HC := hideP (fun k => Nat.le_trans (cat_take_le l k) hc)
 clear h hn hc
 go_enter Tryd.func53, Tryd.ntmps53
 go_wp2_with fail
 go_loopw [8, 5] (fun i _ wr => ∃ k : Nat, i = .int .i64 k ∧ k ≤ n ∧ Lib.IsBuilder 98 5 w.heap.size w.heap.size (Lib.byteCells (cat (l.take k))) wr ∧ Below w.heap.size w wr ∧ w.heap.size ≤ wr.heap.size) (fun i _ _ => n - (intOf i).toNat)
 case atStart => exact ⟨0, rfl, Nat.zero_le _, Lib.fresh_isBuilder _ _ w, (Below.refl _ _).alloc (Nat.le_refl _) _, by simp⟩
 case round =>
  obtain ⟨k, rfl, hk, hbu, hbel, hbz⟩ := hrel
  have HBU := hideP hbu
  have GB := hideP hbel
  clear hbu hbel
  by_cases hlt : k < n
  ·have hkl : k < l.length := by rw [HN.out]; exact hlt
   obtain ⟨b, off, rfl, hb, hcl⟩ : ∃ b off, a = some ⟨b, off, none⟩ ∧ b < w.heap.size ∧ ∀ j (h : j < l.length), wr.cell? ⟨b, off + j, none⟩ = some (.string l[j]) := by
    rcases HS.out.below GB.out with h0 | h
    ·subst h0
     simp at hkl
    ·exact h
   have ci := hcl k hkl
   have HNX := hideP (cat_next l k hkl)
   have h1 := HC.out (k + 1)
   rw [HNX.out, List.length_append] at h1
   generalize l[k] = s at ci HNX h1
   have hss : s.data.toList.length = s.size := by simp
   have HLE : Hid ((Lib.byteCells (cat (l.take k))).length + s.size ≤ 140737488355328) := by
    unfold Hid
    rw [Lib.byteCells_length]
    omega
   have HNC : Hid (Lib.byteCells (cat (l.take k)) ++ Lib.strCells s = Lib.byteCells (cat (l.take (k + 1)))) := by
    unfold Hid
    rw [HNX.out, Lib.byteCells_append, Lib.strCells_eq]
   have HWR := hideP (Sb.write_any w.heap.size w.heap.size _ s wr HBU.out HLE.out hbz)
   clear hcl h1 hss hkl
   go_wp2_with fail
   refine HWR.out.mono ?_
   rintro e w2 ⟨rfl, hbt, hb2⟩
   rw [HNC.out] at hbt
   have HBT := hideP hbt
   have B2 := hideP (GB.out.trans hb2)
   have z2 := hb2.size
   clear hbt hb2
   go_wp2_with fail
   go_roundw
   case rel => exact ⟨k + 1, by go_num, by omega, Or.inr HBT.out, B2.out, by omega⟩
   case measure => simp [intOf]; omega
  ·obtain rfl : k = n := by omega
   have HE : Hid (cat (l.take k) = cat l) := by
    unfold Hid
    rw [List.take_of_length_le (by rw [HN.out]; exact Nat.le_refl _)]
   have HST := hideP (Sb.string_any w.heap.size w.heap.size _ wr HBU.out hbz)
   rw [HE.out] at HST
   go_wp2_with fail
   refine HST.out.mono ?_
   rintro e w2 ⟨rfl, hb2⟩
   have B2 := hideP (GB.out.trans hb2)
   clear hb2
   go_wp2_with fail
   go_ret
   exact ⟨rfl, B2.out⟩
def numsL (l : List Int) : List UInt8 := l.flatMap fun x => (putS x).data.toList
def putsN (l : List Int) (k : Nat) : List ByteArray := (l.take k).map putS ++ List.replicate (l.length - k) ⟨#[]⟩
end Go.Proofs.YtkfipamdfpknpaaDoor.Pk


/- Rows of steps in memory; the digest and the text of a step. -/
namespace Go.Proofs.YtkfipamdfpknpaaDoor.Tr
open Go.RowKit
open Go.Proofs.YtkfipamdfpknpaaDoor.St (Strs OwnS one_newS one_cellS app_one)
open Go.Proofs.YtkfipamdfpknpaaDoor.Sh (Vars nodeV leafV nodeR nodeR_yes leafR leafR_yes leaf_impl node_impl)
open Go.Proofs.YtkfipamdfpknpaaDoor.Pk (cat join_any)
def stepV : Stp → Value
 | .leaf t => .iface 72 (.agg #[.string t])
 | .node l r => .iface 78 (.agg #[.string l, .string r])
def OwnF (w : World) (base : Nat) (v : Value) (l : List Stp) : Prop := w.ownsRow base 60 1 v l.length (l.map stepV)
theorem OwnF.below {w w' : World} {base : Nat} {v : Value} {l : List Stp} (h : OwnF w base v l) (b : Below w.heap.size w w') : OwnF w' base v l := by
 obtain ⟨hl, h⟩ := h
 refine ⟨hl, ?_⟩
 rcases h with h | ⟨g, cap, cur, hv, hg, hb, rest⟩
 ·exact .inl h
 ·exact .inr ⟨g, cap, cur, hv, hg, by rw [b.block g (Array.getElem?_eq_some_iff.1 hb).1]; exact hb, rest⟩
theorem OwnF.mono {w : World} {base base' : Nat} {v : Value} {l : List Stp} (h : OwnF w base v l) (hb : base' ≤ base) : OwnF w base' v l := by
 obtain ⟨hl, h⟩ := h
 refine ⟨hl, ?_⟩
 rcases h with h | ⟨g, cap, cur, hv, hg, rest⟩
 ·exact .inl h
 ·exact .inr ⟨g, cap, cur, hv, Nat.le_trans hb hg, rest⟩
theorem OwnF.snoc {w : World} {base : Nat} {v : Value} {l : List Stp} {s : Stp} (h : w.ownsRow base 60 1 v (l.length + 1) (l.map stepV ++ [stepV s])) : OwnF w base v (l ++ [s]) := by
 unfold OwnF
 rw [List.length_append, List.map_append]
 exact h
theorem OwnF.some {w : World} {base : Nat} {v : Value} {l : List Stp} (h : OwnF w base v l) (hl : 0 < l.length) : ∃ g cap, v = .slice (.some ⟨g, 0, none⟩) l.length cap ∧ base ≤ g ∧ g < w.heap.size ∧ l.length ≤ cap ∧ ∀ j (h : j < l.length), w.cell? ⟨g, j, none⟩ = .some (stepV l[j]) := by
 obtain ⟨_, h⟩ := h
 rcases h with ⟨h, h0⟩ | ⟨g, cap, cur, hv, hg, hb, hnc, _, hsz, htk⟩
 ·omega
 ·refine ⟨g, cap, hv, hg, (Array.getElem?_eq_some_iff.1 hb).1, hnc, fun j hj => ?_⟩
  rw [cell_of_row w g j _ _ _ hb, ← Array.getElem?_toList]
  have h1 : cur.toList[j]? = (cur.toList.take (l.length * 1))[j]? := by rw [List.getElem?_take_of_lt (by omega)]
  rw [h1, htk]
  simp [hj]
theorem Tryd.infoF : (Tryd.prog.info? 60).map (fun i => (i.zero, i.size, i.bytes)) = some (some .nilIface, 1, 16) := by kernel_rfl
theorem one_newF (W : World) (s : Stp) (t : TypeId) : ∀ (j : Nat) (u : Value), [stepV s][j]? = some u → (W.alloc (.cells #[stepV s] t)).cell? ((⟨W.heap.size, 0, none⟩ : Addr).add j) = some u := by
 intro j u hj
 match j, hj with
 | 0, hj => simp at hj; subst hj; simp [Addr.add]
theorem one_cellF (s : Stp) : ∀ u ∈ [stepV s], u.oneCell' = true := by
 intro u hu
 simp at hu
 subst hu
 cases s <;> rfl
theorem own_oneF (W : World) (s : Stp) : OwnF (W.alloc (.cells #[stepV s] 60)) W.heap.size (.slice (some ⟨W.heap.size, 0, none⟩) 1 1) [s] :=
 ⟨rfl, .inr ⟨W.heap.size, 1, #[stepV s], rfl, Nat.le_refl _, heap_alloc_new W _, Nat.le_refl _, by unfold maxLen; omega, rfl, rfl⟩⟩
theorem methodLeaf (h : Value) (w : World) : (Go.method 279 72 (.agg #[h]) "loop.example/g00550/impl.digest").run Tryd.prog w = .ok (115, .agg #[h]) w := by kernel_rfl
theorem methodNode (h k : Value) (w : World) : (Go.method 279 78 (.agg #[h, k]) "loop.example/g00550/impl.digest").run Tryd.prog w = .ok (116, .agg #[h, k]) w := by kernel_rfl
def Fit : Stp → Prop
 | .leaf t => t.size ≤ 100
 | .node l r => l.size = 32 ∧ r.size = 32
set_option maxRecDepth 100000 in
set_option maxHeartbeats 1000000 in
theorem leafDig (t : ByteArray) (w : World) (ht : t.size ≤ 100) (hV : Vars w) :
  Calls Tryd.prog 115 #[.agg #[.string t]] w fun e w' => e = .returned (.string (leafV t)) ∧ Below w.heap.size w w' := by
 have HA : Hid (Below w.heap.size w (w.alloc (.cells #[.string t] 72))) := (Below.refl _ _).alloc (Nat.le_refl _) _
 have HV : Hid (Vars (w.alloc (.cells #[.string t] 72))) := hV.below HA.out hV.two
 have HL := St.hideT (fun W h => leaf_impl t W (by unfold maxLen; omega) h)
 rw [leafR_yes t (by omega)] at HL
 clear hV
 generalize leafV t = R at HL ⊢
 go_enter Tryd.func115, Tryd.ntmps115
 go_wp2_with fail
 refine (HL.out _ HV.out).mono ?_
 rintro e w1 ⟨rfl, hb⟩
 have B1 := St.hideT (below2 HA.out hb)
 clear hb
 go_wp2_with fail
 go_ret
 exact ⟨rfl, B1.out⟩
set_option maxRecDepth 100000 in
set_option maxHeartbeats 1000000 in
theorem nodeDig (l r : ByteArray) (w : World) (hl : l.size = 32) (hr : r.size = 32) (hV : Vars w) :
  Calls Tryd.prog 116 #[.agg #[.string l, .string r]] w fun e w' => e = .returned (.string (nodeV l r)) ∧ Below w.heap.size w w' := by
 have HA : Hid (Below w.heap.size w (w.alloc (.cells #[.string l, .string r] 78))) := (Below.refl _ _).alloc (Nat.le_refl _) _
 have HV : Hid (Vars (w.alloc (.cells #[.string l, .string r] 78))) := hV.below HA.out hV.two
 have HL := St.hideT (fun W h => node_impl l r W h)
 rw [nodeR_yes l r hl hr] at HL
 clear hV
 generalize nodeV l r = R at HL ⊢
 go_enter Tryd.func116, Tryd.ntmps116
 go_wp2_with fail
 refine (HL.out _ HV.out).mono ?_
 rintro e w1 ⟨rfl, hb⟩
 have B1 := St.hideT (below2 HA.out hb)
 clear hb
 go_wp2_with fail
 go_ret
 exact ⟨rfl, B1.out⟩
set_option maxRecDepth 100000 in
set_option maxHeartbeats 1000000 in
theorem topOf_any (l : List Stp) (s : Stp) (base : Nat) (v : Value) (w : World) (ho : OwnF w base v (l ++ [s])) (hf : Fit s) (hV : Vars w) (h64 : l.length ≤ 64) :
  Calls Tryd.prog 52 #[v] w fun e w' => e = .returned (.string s.dig) ∧ Below w.heap.size w w' := by
 obtain ⟨g, cap, rfl, _, hg, hc, hcell⟩ := ho.some (by simp)
 have ci := hcell l.length (by simp)
 rw [List.getElem_append_right (Nat.le_refl _)] at ci
 simp only [Nat.sub_self, List.getElem_cons_zero] at ci
 have hlen : (l ++ [s]).length = l.length + 1 := by simp
 rw [hlen]
 clear hcell hlen ho hc
 have m1 := methodLeaf
 have m2 := methodNode
 generalize l.length = n at ci h64 ⊢
 have HV := St.hideT hV
 clear hV
 cases s with
 | leaf t =>
  have HL := St.hideT (fun W h => leafDig t W hf h)
  show Calls _ _ _ _ fun e w' => e = .returned (.string (leafV t)) ∧ _
  unfold stepV at ci
  generalize leafV t = R at HL ⊢
  go_enter Tryd.func52, Tryd.ntmps52
  go_wp2_with fail
  refine (HL.out _ HV.out).mono ?_
  rintro e w1 ⟨rfl, hb⟩
  have B1 := St.hideT hb
  clear hb
  go_wp2_with fail
  go_ret
  exact ⟨rfl, B1.out⟩
 | node a b =>
  have HL := St.hideT (fun W h => nodeDig a b W hf.1 hf.2 h)
  show Calls _ _ _ _ fun e w' => e = .returned (.string (nodeV a b)) ∧ _
  unfold stepV at ci
  generalize nodeV a b = R at HL ⊢
  go_enter Tryd.func52, Tryd.ntmps52
  go_wp2_with fail
  refine (HL.out _ HV.out).mono ?_
  rintro e w1 ⟨rfl, hb⟩
  have B1 := St.hideT hb
  clear hb
  go_wp2_with fail
  go_ret
  exact ⟨rfl, B1.out⟩
end Go.Proofs.YtkfipamdfpknpaaDoor.Tr

