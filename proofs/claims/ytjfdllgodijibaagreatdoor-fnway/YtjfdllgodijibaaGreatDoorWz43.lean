/- Texts put together: SoMrgBT, SoSwapT, SoRotT, SoMrgCT, SoMrgT, SortPlain3, SoStabT, SoSorted, OrdImpl. -/
import Derived.Test.YtjfdllgodijibaaGreatDoorWz41
import Derived.Test.YtjfdllgodijibaaGreatDoorWz42
import Derived.Test.YtjfdllgodijibaaGreatDoorWz28
/- The walk of a merge in place at turns, whose second part is one turn. -/
namespace Go.Proofs.YtjfdllgodijibaaGreatDoor.So
open Go.RowKit Go.Sort Go.Proofs
end Go.Proofs.YtjfdllgodijibaaGreatDoor.So


/- The walks of a stable sort's helpers at turns: two rows that change places, and two parts that are turned round. -/
namespace Go.Proofs.YtjfdllgodijibaaGreatDoor.So
open Go.RowKit Go.Sort Go.Proofs
end Go.Proofs.YtjfdllgodijibaaGreatDoor.So


/- The walk of a stable sort's rotation at turns. -/
namespace Go.Proofs.YtjfdllgodijibaaGreatDoor.So
open Go.RowKit Go.Sort Go.Proofs
end Go.Proofs.YtjfdllgodijibaaGreatDoor.So


/- The walk of a merge in place at turns: both parts longer than one. -/
namespace Go.Proofs.YtjfdllgodijibaaGreatDoor.So
open Go.RowKit Go.Sort Go.Proofs
end Go.Proofs.YtjfdllgodijibaaGreatDoor.So


/- A merge in place at turns, in whole. -/
namespace Go.Proofs.YtjfdllgodijibaaGreatDoor.So
open Go.RowKit Go.Sort Go.Proofs
end Go.Proofs.YtjfdllgodijibaaGreatDoor.So


/- Plain mathematics of a stable sort in place: chunks that rise, and hold just the places that they are. -/
namespace Go.Proofs.YtjfdllgodijibaaGreatDoor.So
open Go.RowKit
def Ch (cl:Nat->Nat->Bool) (a b:Nat) (f:Nat->Nat):Prop:=Ris cl a b f/\∀ i,a<=i->i<b->a<=f i/\f i<b
section
variable {cl : Nat → Nat → Bool} {a m b : Nat} {f g : Nat → Nat}
theorem Ch.congr (h:Ch cl a b f) (e:∀ i,a<=i->i<b->g i=f i):Ch cl a b g :=
 ⟨h.1.congr e,fun i h1 h2=>by rw[e i h1 h2];exact h.2 i h1 h2⟩
end
def Chs (cl:Nat->Nat->Bool) (bs n lo hi:Nat) (f:Nat->Nat):Prop:=∀ c,lo<=bs*c->bs*c<hi->Ch cl (bs*c) (min (bs*c+bs) n) f
section
variable {cl : Nat → Nat → Bool} {bs n k : Nat} {f g : Nat → Nat}
theorem Chs.none:Chs cl bs n 0 0 f:=fun _ _ h=>absurd h (Nat.not_lt_zero _)
theorem mul_step {c:Nat} (h:bs*k<bs*c):bs*k+bs<=bs*c:=by
 have:k<c:=Nat.lt_of_mul_lt_mul_left h
 have:=Nat.mul_le_mul_left bs (show k+1<=c from this)
 rw[Nat.mul_succ]at this
 exact this
theorem Chs.last (h:Chs cl bs n 0 (bs*k) f) (hb:n<bs*k+bs) (e:∀ i,i<bs*k->g i=f i) (hc:Ch cl (bs*k) n g):Chs cl bs n 0 n g:=by
 intro c h1 h2
 rcases Nat.lt_trichotomy (bs*c) (bs*k) with q|q|q
 ·have:=mul_step q
  exact(h c h1 q).congr fun i p1 p2=>e i (by omega)
 ·rw[q,Nat.min_eq_right (by omega)]
  exact hc
 ·have:=mul_step q
  omega
end
end Go.Proofs.YtjfdllgodijibaaGreatDoor.So


/- The walk of a stable sort at turns. -/
namespace Go.Proofs.YtjfdllgodijibaaGreatDoor.So
open Go.RowKit Go.Sort Go.Proofs
end Go.Proofs.YtjfdllgodijibaaGreatDoor.So


/- What the program's sortedTurns answers. -/
namespace Go.Proofs.YtjfdllgodijibaaGreatDoor.So
open Go.RowKit Go.Sort Go.Proofs Go.Shelf
attribute [local go_sem] Oper.semAt_some
def flatT (T:Nat->ByteArray) (l:List Nat):List Value:=l.flatMap (encT T)
end Go.Proofs.YtjfdllgodijibaaGreatDoor.So


/- What the program's OrderOf answers. -/
namespace Go.Proofs.YtjfdllgodijibaaGreatDoor.So
open Go.RowKit Go.Sort Go.Proofs
open In (OwnI one_newI one_cellI)
open In.Tryz (infoI2)
end Go.Proofs.YtjfdllgodijibaaGreatDoor.So

