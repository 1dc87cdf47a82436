/- Texts put together: SortPlain2. -/
import Derived.Test.YtkgjfdanjmnmbaaGreatDoorOz29
/- Plain mathematics of a merge in place by halves: what is turned round, and why both halves put together rise. -/
namespace Go.Proofs.YtkgjfdanjmnmbaaGreatDoor.So
open Go.RowKit
theorem rot_none {s m e:Nat} (f:Nat->Nat) (h1:s<=m) (h2:m<=e) (h:s=m∨m=e):rotF s m e f=f:=by
 funext k
 unfold rotF
 rcases h with rfl|rfl
 ·repeat' split
  all_goals first|omega|(congr 1;omega)|rfl
 ·repeat' split
  all_goals first|omega|(congr 1;omega)|rfl
structure Cut (cl:Nat->Nat->Bool) (a m b mid s e:Nat) (f:Nat->Nat):Prop where
 as:a<=s
 smid:s<=mid
 mide:mid<=e
 eb:e<=b
 sm:s<=m
 me:m<=e
 sum:s+e=mid+m
 low:a<s->e<b->lx cl (f (s-1)) (f e)
 high:s<m->m<e->lx cl (f (e-1)) (f s)
section
variable {cl : Nat → Nat → Bool} {a m b mid s e : Nat} {f : Nat → Nat}
theorem Cut.perm (c:Cut cl a m b mid s e f):PermF a b f (rotF s m e f):=(rot_perm f c.sm c.me).mono c.as (Nat.le_trans c.sm c.me) c.eb
theorem Cut.g1 (c:Cut cl a m b mid s e f) (k:Nat) (h:k<s):rotF s m e f k=f k:=rot_out f k (Or.inl h) c.sm c.me
theorem Cut.g2 (c:Cut cl a m b mid s e f) (k:Nat) (h1:s<=k) (h2:k<mid):rotF s m e f k=f (k-s+m):=rot_first f k h1 (by have:=c.sum;have:=c.me;omega)
theorem Cut.g3 (c:Cut cl a m b mid s e f) (k:Nat) (h1:mid<=k) (h2:k<e):rotF s m e f k=f (k-(e-m)):=rot_second f k (by have:=c.smid;omega) (by have:=c.sum;have:=c.me;omega) h2
theorem Cut.g4 (c:Cut cl a m b mid s e f) (k:Nat) (h:e<=k):rotF s m e f k=f k:=rot_out f k (Or.inr h) c.sm c.me
theorem Cut.ris1 (c:Cut cl a m b mid s e f) (h:Ris cl a m f):Ris cl a s (rotF s m e f):=fun i j h1 h2 h3=>by
 rw[c.g1 i (by omega),c.g1 j h3]
 exact h i j h1 h2 (by have:=c.sm;omega)
theorem Cut.ris2 (c:Cut cl a m b mid s e f) (h:Ris cl m b f):Ris cl s mid (rotF s m e f):=fun i j h1 h2 h3=>by
 rw[c.g2 i h1 (by omega),c.g2 j (by omega) h3]
 exact h _ _ (by omega) (by omega) (by have:=c.sum;have:=c.eb;omega)
theorem Cut.ris3 (c:Cut cl a m b mid s e f) (h:Ris cl a m f):Ris cl mid e (rotF s m e f):=fun i j h1 h2 h3=>by
 have:=c.sum
 have:=c.me
 rw[c.g3 i h1 (by omega),c.g3 j (by omega) h3]
 exact h _ _ (by have:=c.as;omega) (by omega) (by omega)
theorem Cut.ris4 (c:Cut cl a m b mid s e f) (h:Ris cl m b f):Ris cl e b (rotF s m e f):=fun i j h1 h2 h3=>by
 rw[c.g4 i h1,c.g4 j (by omega)]
 exact h i j (by have:=c.me;omega) h2 h3
theorem Cut.sep1 (c:Cut cl a m b mid s e f) (h:Sep a m b f):Sep a s mid (rotF s m e f):=fun i j h1 h2 h3 h4=>by
 rw[c.g1 i h2,c.g2 j h3 h4]
 exact h _ _ h1 (by have:=c.sm;omega) (by omega) (by have:=c.sum;have:=c.eb;omega)
theorem Cut.sep2 (c:Cut cl a m b mid s e f) (h:Sep a m b f):Sep mid e b (rotF s m e f):=fun i j h1 h2 h3 h4=>by
 have:=c.sum
 have:=c.me
 rw[c.g3 i h1 h2,c.g4 j h3]
 exact h _ _ (by have:=c.as;omega) (by omega) (by omega) h4
theorem Cut.cross (c:Cut cl a m b mid s e f) (hw:Weak cl) (h1:Ris cl a m f) (h2:Ris cl m b f) (i j:Nat) (hi:a<=i) (hi2:i<mid) (hj:mid<=j) (hj2:j<b):lx cl (rotF s m e f i) (rotF s m e f j):=by
 have hs:=c.sum
 have hme:=c.me
 have hsm:=c.sm
 have hse:=c.smid
 have hme2:=c.mide
 by_cases a1:i<s
 ·rw[c.g1 i a1]
  by_cases a2:j<e
  ·rw[c.g3 j hj a2]
   exact h1 _ _ hi (by omega) (by omega)
  ·rw[c.g4 j (by omega)]
   have:=c.low (by omega) (by omega)
   have q1:lx cl (f i) (f e):=h1.le (j:=s-1) hi (by omega) (by omega) hw this
   exact h2.ge (i:=e) hme (by omega) hj2 hw q1
 ·rw[c.g2 i (by omega) hi2]
  by_cases a2:j<e
  ·rw[c.g3 j hj a2]
   have:=c.high (by omega) (by omega)
   have q1:lx cl (f (i-s+m)) (f s):=h2.le (j:=e-1) (by omega) (by omega) (by have:=c.eb;omega) hw this
   exact h1.ge (i:=s) c.as (by omega) (by omega) hw q1
  ·rw[c.g4 j (by omega)]
   exact h2 _ _ (by omega) (by omega) hj2
end
theorem halves {cl:Nat->Nat->Bool} {a mid b:Nat} {g g1 g2:Nat->Nat} (hx:∀ i j,a<=i->i<mid->mid<=j->j<b->lx cl (g i) (g j)) (ha:a<=mid) (hb:mid<=b)
  (p1:PermF a mid g g1) (p2:PermF mid b g1 g2) (r1:Ris cl a mid g1) (r2:Ris cl mid b g2):PermF a b g g2/\Ris cl a b g2:=by
 refine⟨(p1.mono (Nat.le_refl _) ha hb).trans (p2.mono ha hb (Nat.le_refl _)),?_⟩
 have e1:∀ i,a<=i->i<mid->g2 i=g1 i:=fun i _ h=>p2.2 i (Or.inl h)
 refine Ris.join (r1.congr e1) r2 (fun i j h1 h2 h3 h4=>?_)
 rw[e1 i h1 h2]
 have q:∀ j,mid<=j->j<b->lx cl (g1 i) (g2 j):=by
  refine p2.all (p:=fun v=>lx cl (g1 i) v) (fun j h3 h4=>?_)
  rw[p1.2 j (Or.inr h3)]
  exact p1.all (p:=fun v=>lx cl v (g j)) (fun k h5 h6=>hx k j h5 h6 h3 h4) i h1 h2
 exact q j h3 h4
end Go.Proofs.YtkgjfdanjmnmbaaGreatDoor.So

