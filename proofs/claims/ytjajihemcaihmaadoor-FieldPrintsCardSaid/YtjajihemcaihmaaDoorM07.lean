/- Package field's functions, in the forms that the laws take. -/
import Derived.Test.YtjajihemcaihmaaDoorFM07
import Derived.Test.YtjajihemcaihmaaDoorFI07
import Derived.Test.YtjajihemcaihmaaDoorR07L
namespace Go.Proofs.YtjajihemcaihmaaDoor
open Go.RowKit Go.PlainAid

theorem pRight (f : Fld) (u : Value) (w : World) (hE : Env w) (hu : QL u f.subs w) (hz : ∀ i, i < f.subs.length → (f.subs.getD i sub0).2.length ≤ 1000) (er : Int) (hb : rightI f = er) :
    Calls Tryd.prog 11 #[FV f u] w fun e w' => e = .returned (.int .i64 er) ∧ Below w.heap.size w w' := fRight_any f u w hE hu (fun i hi => by have := hz i hi; omega) er hb
theorem pSame (f g : Fld) (u v : Value) (w : World) (hu : QL u f.subs w) (hv : QL v g.subs w) (b : Bool) (hb : sameB f g = b) :
    Calls Tryd.prog 13 #[FV f u, FV g v] w fun e w' => e = .returned (.bool b) ∧ Below w.heap.size w w' := fSame_any f g u v w hu hv b hb
theorem pGet (f : Fld) (u : Value) (w : World) (hu : QL u f.subs w) (c : UInt8) (r : List UInt8) (b : Bool) (hb : getL f.subs c = (r, b)) :
    Calls Tryd.prog 15 #[FV f u, .int .u8 (c.toNat : Int)] w fun e w' => e = .returned (.tuple #[.string (S r), .bool b]) ∧ Below w.heap.size w w' := fGet_any f u w hu c r b hb
theorem pAll (f : Fld) (u : Value) (w : World) (hu : QL u f.subs w) (codes : List UInt8) (hs : f.subs.length ≤ 100) :
    Calls Tryd.prog 18 #[FV f u, .string (S codes)] w fun e w' => ∃ v', e = .returned v' ∧ BL v' (allL f.subs codes) w' ∧ Below w.heap.size w w' := fAll_any f u w hu codes (by omega)
theorem pPlain (f : Fld) (u : Value) (w : World) (hu : QL u f.subs w) (codes : List UInt8) (hs : f.subs.length ≤ 100) (hL : ∀ i, ((allL f.subs codes).getD i []).length ≤ 1000) :
    Calls Tryd.prog 20 #[FV f u, .string (S codes)] w fun e w' => e = .returned (.string (S (plainL f.subs codes))) ∧ Below w.heap.size w w' := fPlain_any f u w hu codes (by omega) (fun i => by have := hL i; omega)
theorem pSet (f : Fld) (u : Value) (w : World) (hu : QL u f.subs w) (code : UInt8) (val : List UInt8) (hs : f.subs.length ≤ 100) :
    Calls Tryd.prog 22 #[FV f u, .int .u8 (code.toNat : Int), .string (S val)] w fun e w' => ∃ v', e = .returned (FV { f with subs := setR f.subs code val } v') ∧ QL v' (setR f.subs code val) w' ∧ Below w.heap.size w w' := fSet_any f u w hu code val (by omega)
theorem pPrint (f : Fld) (u : Value) (w : World) (hE : Env w) (hu : QL u f.subs w) (hz : ∀ i, i < f.subs.length → (f.subs.getD i sub0).2.length ≤ 1000) (r : List UInt8) (er : Int) (h : printR f = (r, er)) :
    Calls Tryd.prog 24 #[FV f u] w fun e w' => e = .returned (.tuple #[.string (S r), .int .i64 er]) ∧ Below w.heap.size w w' := fPrint_any f u w hE hu (fun i hi => by have := hz i hi; omega) r er h
theorem pParse (s : List UInt8) (hs : s.length ≤ 20000) (w : World) (hE : Env w) (f : Fld) (er : Int) (h : parseR s = (f, er)) :
    Calls Tryd.prog 26 #[.string (S s)] w fun e w' => ∃ v, e = .returned (.tuple #[FV f v, .int .i64 er]) ∧ QL v f.subs w' ∧ Below w.heap.size w w' := fParse_any s (by omega) w hE f er h
end Go.Proofs.YtjajihemcaihmaaDoor
