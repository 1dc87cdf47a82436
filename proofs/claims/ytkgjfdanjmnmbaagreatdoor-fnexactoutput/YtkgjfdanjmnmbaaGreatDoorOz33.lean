/- Texts put together: SortPlain3. -/
import Derived.Test.YtkgjfdanjmnmbaaGreatDoorOz32
/- Plain mathematics of a stable sort in place: chunks that rise, and hold just the places that they are. -/
namespace Go.Proofs.YtkgjfdanjmnmbaaGreatDoor.So
open Go.RowKit
def Ch (cl:Nat->Nat->Bool) (a b:Nat) (f:Nat->Nat):Prop:=Ris cl a b f/\∀ i,a<=i->i<b->a<=f i/\f i<b
section
variable {cl : Nat → Nat → Bool} {a m b : Nat} {f g : Nat → Nat}
theorem Ch.congr (h:Ch cl a b f) (e:∀ i,a<=i->i<b->g i=f i):Ch cl a b g :=
 ⟨h.1.congr e,fun i h1 h2=>by rw[e i h1 h2];exact h.2 i h1 h2⟩
theorem Ch.sep (h1:Ch cl a m f) (h2:Ch cl m b f):Sep a m b f:=fun i j p1 p2 p3 p4=>by
 have:=(h1.2 i p1 p2).2
 have:=(h2.2 j p3 p4).1
 omega
theorem Ch.merge (h1:Ch cl a m f) (h2:Ch cl m b f) (am:a<=m) (mb:m<=b) (p:PermF a b f g) (r:Ris cl a b g):Ch cl a b g :=
 ⟨r,p.all (p:=fun v=>a<=v/\v<b) fun i p1 p2=>by
  rcases Nat.lt_or_ge i m with e|e
  ·have:=h1.2 i p1 e;omega
  ·have:=h2.2 i e p2;omega⟩
theorem Ch.start (hid:∀ i,a<=i->i<b->f i=i) (p:PermF a b f g) (r:Ris cl a b g):Ch cl a b g :=
 ⟨r,p.all (p:=fun v=>a<=v/\v<b) fun i p1 p2=>by rw[hid i p1 p2];omega⟩
end
def Chs (cl:Nat->Nat->Bool) (bs n lo hi:Nat) (f:Nat->Nat):Prop:=∀ c,lo<=bs*c->bs*c<hi->Ch cl (bs*c) (min (bs*c+bs) n) f
section
variable {cl : Nat → Nat → Bool} {bs n k : Nat} {f g : Nat → Nat}
theorem Chs.none:Chs cl bs n 0 0 f:=fun _ _ h=>absurd h (Nat.not_lt_zero _)
theorem mul_step {c:Nat} (h:bs*k<bs*c):bs*k+bs<=bs*c:=by
 have:k<c:=Nat.lt_of_mul_lt_mul_left h
 have:=Nat.mul_le_mul_left bs (show k+1<=c from this)
 rw[Nat.mul_succ]at this
 exact this
theorem Chs.more (h:Chs cl bs n 0 (bs*k) f) (hb:bs*k+bs<=n) (e:∀ i,i<bs*k->g i=f i) (hc:Ch cl (bs*k) (bs*k+bs) g):Chs cl bs n 0 (bs*k+bs) g:=by
 intro c h1 h2
 rcases Nat.lt_trichotomy (bs*c) (bs*k) with q|q|q
 ·have:=mul_step q
  exact(h c h1 q).congr fun i p1 p2=>e i (by omega)
 ·rw[q,Nat.min_eq_left hb]
  exact hc
 ·have:=mul_step q
  omega
theorem Chs.last (h:Chs cl bs n 0 (bs*k) f) (hb:n<bs*k+bs) (e:∀ i,i<bs*k->g i=f i) (hc:Ch cl (bs*k) n g):Chs cl bs n 0 n g:=by
 intro c h1 h2
 rcases Nat.lt_trichotomy (bs*c) (bs*k) with q|q|q
 ·have:=mul_step q
  exact(h c h1 q).congr fun i p1 p2=>e i (by omega)
 ·rw[q,Nat.min_eq_right (by omega)]
  exact hc
 ·have:=mul_step q
  omega
theorem Chs.rest {lo lo':Nat} (h:Chs cl bs n lo n f) (hl:lo<=lo') (e:∀ i,lo'<=i->i<n->g i=f i):Chs cl bs n lo' n g:=by
 intro c h1 h2
 exact(h c (by omega) h2).congr fun i p1 p2=>e i (by omega) (by omega)
theorem Chs.at0 {lo:Nat} (h:Chs cl bs n lo n f) (he:lo=bs*k) (hn:lo<n):Ch cl lo (min (lo+bs) n) f:=by
 subst he
 exact h k (Nat.le_refl _) hn
theorem Chs.at1 {lo:Nat} (h:Chs cl bs n lo n f) (he:lo=bs*k) (hn:lo+bs<n):Ch cl (lo+bs) (min (lo+bs+bs) n) f:=by
 subst he
 have:=h (k+1) (by rw[Nat.mul_succ];omega) (by rw[Nat.mul_succ];exact hn)
 rw[Nat.mul_succ]at this
 exact this
theorem Chs.whole (h:Chs cl bs n 0 n f) (hn:n<=bs):Ris cl 0 n f:=by
 rcases Nat.eq_zero_or_pos n with e|e
 ·subst e
  exact fun i j _ _ h3=>absurd h3 (Nat.not_lt_zero _)
 ·have:=(h 0 (Nat.zero_le _) (by rw[Nat.mul_zero];exact e)).1
  rw[Nat.mul_zero,Nat.zero_add,Nat.min_eq_right hn]at this
  exact this
end
end Go.Proofs.YtkgjfdanjmnmbaaGreatDoor.So

