import Derived.Test.YtnnoaolceeendaaDoorRows
import Derived.WalkKit
import Derived.ProofKit
import Derived.OpenShut
import Derived.Test.YtnnoaolceeendaaDoorWinA
namespace Go.Proofs.YtnnoaolceeendaaDoor
open Go.ChangeShapes Go.WideShapes Go.ChangeAt Go.RowKit

theorem Tryd.infoInt : (Tryd.prog.info? 3).map (fun i => (i.zero, i.size, i.bytes)) = some (some (.int .i64 0), 1, 8) := by kernel_rfl

theorem owns_snoc {w1 : World} {B : Nat} {v' : Value} {acc : List Int} {x : Int} (h : w1.ownsRow B 3 1 v' (acc.length + 1) (acc.map (Value.int .i64) ++ [.int .i64 x])) :
    w1.ownsRow B 3 1 v' (acc ++ [x]).length ((acc ++ [x]).map (Value.int .i64)) := by simpa using h

/-- What the loops hold: 'acc' is gathered, 'n' begins are still to be looked at; the row of the list lies from B on. -/
structure Gath (t size rest slide : Int) (L : List Int) (B : Nat) (w wr : World) (v : Value) (n : Nat) (acc : List Int) : Prop where
  all : acc ++ sel t size rest slide n = L
  short : acc.length + n ≤ 11
  own : wr.ownsRow B 3 1 v acc.length (acc.map (Value.int .i64))
  below : Below B w wr

theorem Gath.skip {t size rest slide : Int} {L : List Int} {B : Nat} {w wr : World} {v : Value} {n : Nat} {acc : List Int} (h : Gath t size rest slide L B w wr v (n + 1) acc) (ho : okB t size (rest + n * slide) = false) :
    Gath t size rest slide L B w wr v n acc := ⟨sel_no h.all ho, by have := h.short; omega, h.own, h.below⟩
theorem Gath.take {t size rest slide : Int} {L : List Int} {B : Nat} {w wr w1 : World} {v v' : Value} {n : Nat} {acc : List Int} {o : Obj} (h : Gath t size rest slide L B w wr v (n + 1) acc) (hB : B ≤ w.heap.size) (ho : okB t size (rest + n * slide) = true)
    (hown : w1.ownsRow B 3 1 v' (acc.length + 1) (acc.map (Value.int .i64) ++ [.int .i64 (t - (rest + n * slide))])) (hg : (wr.alloc o).grownBy w1 v.ownBlock) :
    Gath t size rest slide L B w w1 v' n (acc ++ [t - (rest + n * slide)]) :=
  ⟨sel_yes h.all ho, by have := h.short; simp; omega, owns_snoc hown, (h.below.alloc (by have := h.below.size; omega) _).grown hg (by have := h.below.size; simp; omega) (fun k hk => (h.own.lt k hk).1)⟩

end Go.Proofs.YtnnoaolceeendaaDoor
