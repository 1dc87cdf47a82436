/- A law on one operation in the still head of a region that draws its order: a whole array of numbers loaded out of its block. -/
import Derived.Test.YtghghkfhcpldhaaDoorShaLaws
import Derived.StillTailTactics
namespace Go.Proofs.YtghghkfhcpldhaaDoor.Sh
open Go.RowKit

theorem wpStill_load_row {P : Program} {w : World} {ops : Array Oper} {rest : List Oper} {a : Act} {Q : Act → Prop} {d : Tmp} {p : Operand} {ty tt : TypeId} {pos : String} {af : Array Edge}
    {g : Nat} {t : TypeId} {k : IntKind} {n : Nat} {f : Nat → Int} {e : TypeId} (hb : IsB w g t k n f) (hu : P.underlying ty = some (.array n e)) (hi : (P.info? ty).map (·.size) = some n)
    (hp : a.eval p = .pointer (some ⟨g, 0, none⟩)) (h : wpStill P ops w Q rest (a.put (some d) (.agg (rowF k n f)))) :
    wpStill P ops w Q (⟨some d, .load ty p, tt, pos, af, none⟩ :: rest) a := by
  refine wpStill_step fun K hK => ?_
  have hl := hb.loadAt (P := P) ty e hu hi
  simp [Region.wanted, Oper.still, Oper.stillUpon, execOp, hp, hl, Result.andThen]
  exact hK _ h

end Go.Proofs.YtghghkfhcpldhaaDoor.Sh
