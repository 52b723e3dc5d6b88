/- Package digest, at every argument: the forms that the laws take. -/
import Derived.Test.YtdaoccmhehekaaaDoorDG06
import Derived.Test.YtdaoccmhehekaaaDoorDR06
namespace Go.Proofs.YtdaoccmhehekaaaDoor
open Go.RowKit Go.PlainAid

/-! The forms that the laws take: what lay below stays. -/
theorem pSum (l : List UInt8) (hz : l.length ≤ 1000000) (w : World) :
    Calls Tryd.prog 11 #[.string (S l)] w fun e w' => e = .returned (.string (S (sumL l))) ∧ Below w.heap.size w w' := digSum_any l hz w
theorem pRight (l : List UInt8) (b : Bool) (hb : rightB l = b) (w : World) :
    Calls Tryd.prog 15 #[.string (S l)] w fun e w' => e = .returned (.bool b) ∧ Below w.heap.size w w' :=
  digRight_any l b hb w
theorem pJoin (a b : List UInt8) (ha : a.length ≤ 100000) (hb : b.length ≤ 100000) (w : World) :
    Calls Tryd.prog 12 #[.string (S a), .string (S b)] w fun e w' => e = .returned (.string (S (joinL a b))) ∧ Below w.heap.size w w' := digJoin_any a b (by omega) (by omega) w
theorem pRoot (L : List (List UInt8)) (hz : L.length ≤ 60) (hx : ∀ i, i < L.length → (L.getD i []).length ≤ 1000) (v : Value) (w : World) (hv : BL v L w) :
    Calls Tryd.prog 18 #[v] w fun e w' => e = .returned (.string (S (rootL L))) ∧ Below w.heap.size w w' := digRoot_any L (by omega) (fun i hi => by have := hx i hi; omega) v w hv
theorem pProof (L : List (List UInt8)) (hz : L.length ≤ 60) (hx : ∀ i, i < L.length → (L.getD i []).length ≤ 1000) (i : Int) (v : Value) (w : World) (hv : BL v L w) (r : List (List UInt8)) (er : Int) (h : proofI L i = (r, er)) :
    Calls Tryd.prog 20 #[v, .int .i64 i] w fun e w' => ∃ v', e = .returned (.tuple #[v', .int .i64 er]) ∧ BL v' r w' ∧ Below w.heap.size w w' := digProof_any L (by omega) (fun i hi => by have := hx i hi; omega) i v w hv r er h
theorem pCheck (root leaf : List UInt8) (hlf : leaf.length ≤ 1000) (i n : Int) (P : List (List UInt8)) (hz : P.length ≤ 100) (hx : ∀ i, i < P.length → (P.getD i []).length ≤ 1000) (v : Value) (w : World) (hv : BL v P w) (b : Bool) (hb : checkB root leaf i n P = b) :
    Calls Tryd.prog 23 #[.string (S root), .string (S leaf), .int .i64 i, .int .i64 n, v] w fun e w' => e = .returned (.bool b) ∧ Below w.heap.size w w' := digCheck_any root leaf (by omega) i n P (by omega) (fun i hi => by have := hx i hi; omega) v w hv b hb
end Go.Proofs.YtdaoccmhehekaaaDoor
