/- Texts put together: WyOf. -/
import Derived.Test.YtjfdllgodijibaaGreatDoorWz40
import Derived.Test.YtjfdllgodijibaaGreatDoorWz46
import Derived.Test.YtjfdllgodijibaaGreatDoorWz45
/- What the draws of the law on ways take for granted. -/
namespace Go.Proofs.YtjfdllgodijibaaGreatDoor.Dr
open Go.RowKit
open Ls (ofV oV of_spec root_size rootV)
theorem ofV_small (s:ByteArray) (size:Int):∃ z b r c,r.size<=32/\ofV s size=oV z b r c:=by
 unfold ofV
 split
 ·exact⟨_,_,_,_,by decide,rfl⟩
 ·split
  ·exact⟨_,_,_,_,Nat.le_of_eq (root_size s size),rfl⟩
  ·exact⟨_,_,_,_,by decide,rfl⟩
theorem ofC:OfC:=fun W t z ht=>(of_spec t z W (by omega)).mono fun e w' ⟨he,hb⟩=>by
 obtain⟨z',b',r',c',hr,e2⟩:=ofV_small t z
 exact⟨⟨z',b',r',c',hr,by rw[he,e2]⟩,hb⟩
theorem pcC:PcC:=fun W t z ht=>(Pk.pieces_spec t z W (by omega)).mono fun e w' ⟨v,he,ho,hb⟩=>by
 refine⟨⟨v,_,he,ho,Pk.piecesR_length t z,fun s hs=>?_⟩,hb⟩
 unfold Pk.piecesR at hs
 obtain⟨x,_,rfl⟩:=List.mem_map.1 hs
 exact Ls.pack_size x
end Go.Proofs.YtjfdllgodijibaaGreatDoor.Dr

