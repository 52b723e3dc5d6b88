/- The premise on the program's tables of layer 4: the library's powers of ten lie as their text lays them; strconv.Itoa under it. -/
import Derived.Test.YtbemenflkebpnaaDoorShelf
import Derived.Test.YtbemenflkebpnaaDoorR04D
import Derived.Lib.LaidTab
namespace Go.Proofs.YtbemenflkebpnaaDoor
open Go.RowKit

theorem Grow_below (w : World) (k : Nat) (os : Array Obj) : Below w.heap.size w (Sort.grow (w.drewN k) os) :=
  ⟨rfl, rfl, rfl, by simp [Sort.grow], fun i hi => Sort.heap_grow_old (w.drewN k) os hi⟩

structure Tab (w : World) : Prop where
  pows : Lib.TabIs Tryd.prog w "internal/strconv.uint64pow10" .u64 Lib.pow10Tab
theorem tabIs_below {w w' : World} {n : String} {k : IntKind} {zs : List Int} (h : Lib.TabIs Tryd.prog w n k zs) (hb : Below w.heap.size w w') : Lib.TabIs Tryd.prog w' n k zs := by
  unfold Lib.TabIs World.var? at *
  cases hg : Tryd.prog.globalNamed n with
  | none => simp [hg] at h
  | some g =>
    simp only [hg, Option.bind_some] at h ⊢
    have hlt : g < w.heap.size := by
      rcases Nat.lt_or_ge g w.heap.size with h' | h'
      · exact h'
      · rw [Array.getElem?_eq_none h'] at h; simp at h
    rw [hb.block g hlt]
    exact h
theorem Tab.on {w w' : World} (h : Tab w) (hb : Below w.heap.size w w') : Tab w' := ⟨tabIs_below h.pows hb⟩

/-- strconv.Itoa at a number that is not negative. -/
theorem itoa_any (n : Nat) (h : n ≤ 9223372036854775807) (w : World) (hT : Tab w) :
    Calls Tryd.prog 27 #[.int .i64 (n : Int)] w fun e w' => e = .returned (.string (S (Lib.decDigits n))) ∧ Below w.heap.size w w' :=
  (Tryd.strconv_Itoa (n : Int) (by omega) (by omega) w hT.pows).mono fun e w' hh => by
    obtain ⟨he, k, os, rfl⟩ := hh
    refine ⟨?_, Grow_below w k os⟩
    rw [he, Lib.itoa, if_neg (by omega), Int.toNat_natCast]
    rfl
theorem itoa_small (n : Nat) (h : n < 100) (w : World) :
    Calls Tryd.prog 27 #[.int .i64 (n : Int)] w fun e w' => e = .returned (.string (S (Lib.decDigits n))) ∧ w' = w := Tryd.strconv_Itoa_small n h w
end Go.Proofs.YtbemenflkebpnaaDoor
