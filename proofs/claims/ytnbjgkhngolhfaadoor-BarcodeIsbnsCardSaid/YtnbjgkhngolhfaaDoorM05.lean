/- Package barcode as the laws take it: what lay below stays. -/
import Derived.Test.YtnbjgkhngolhfaaDoorBI05
import Derived.Test.YtnbjgkhngolhfaaDoorBP05
import Derived.Test.YtnbjgkhngolhfaaDoorBS05
namespace Go.Proofs.YtnbjgkhngolhfaaDoor
open Go.RowKit Go.PlainAid

theorem pLuhn (l : List UInt8) (hz : l.length ≤ 1000000) (x er : Int) (h : luhnI l = (x, er)) (w : World) :
    Calls Tryd.prog 13 #[.string (S l)] w fun e w' => e = .returned (.tuple #[.int .i64 x, .int .i64 er]) ∧ Below w.heap.size w w' :=
  (barLuhn_any l hz x er h w).mono fun e w' hh => ⟨hh.1, by rw [hh.2]; exact Below.refl _ _⟩
theorem pMake (k n : Int) (l : List UInt8) (er : Int) (h : makeI k n = (l, er)) (w : World) (hT : Tab w) :
    Calls Tryd.prog 15 #[.int .i64 k, .int .i64 n] w fun e w' => e = .returned (.tuple #[.string (S l), .int .i64 er]) ∧ Below w.heap.size w w' := barMake_any k n l er h w hT
theorem pParse (l : List UInt8) (hz : l.length ≤ 1000000) (x y er : Int) (h : parseI l = (x, y, er)) (w : World) :
    Calls Tryd.prog 17 #[.string (S l)] w fun e w' => e = .returned (.tuple #[.int .i64 x, .int .i64 y, .int .i64 er]) ∧ Below w.heap.size w w' := barParse_any l hz x y er h w
theorem pIsbn (l : List UInt8) (hz : l.length ≤ 1000000) (r : List UInt8) (er : Int) (h : isbnI l = (r, er)) (w : World) (hT : Tab w) :
    Calls Tryd.prog 19 #[.string (S l)] w fun e w' => e = .returned (.tuple #[.string (S r), .int .i64 er]) ∧ Below w.heap.size w w' := barIsbn_any l hz r er h w hT
theorem pIssn (l : List UInt8) (hz : l.length ≤ 1000000) (r : List UInt8) (er : Int) (h : issnI l = (r, er)) (w : World) :
    Calls Tryd.prog 21 #[.string (S l)] w fun e w' => e = .returned (.tuple #[.string (S r), .int .i64 er]) ∧ Below w.heap.size w w' := barIssn_any l hz r er h w
end Go.Proofs.YtnbjgkhngolhfaaDoor
