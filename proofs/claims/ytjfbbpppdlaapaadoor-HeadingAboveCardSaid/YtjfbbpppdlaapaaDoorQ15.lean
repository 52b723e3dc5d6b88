/- Merged: RSize, RSizeT. -/
import Derived.Test.YtjfbbpppdlaapaaDoorQ14
namespace Go.Proofs.YtjfbbpppdlaapaaDoor

section
open Go.RowKit
/-- The width of what decode reads, at least 1. -/
theorem size_ref (s : ByteArray) (i : Nat) (hi : i < s.size) (hz : s.size ≤ 1000000) (w : World) :
    Calls Tryd.prog 52 #[.string s, .int .i64 i] w fun e w' => e = .returned (.int .i64 (max (refDec s i).2 1 : Nat)) ∧ Below w.heap.size w w' := by
  have cD := decode_ref s i hi hz w
  generalize hd : refDec s i = d at cD
  obtain ⟨c, k⟩ := d
  simp only at cD
  clear hd
  by_cases hk : k = 0
  · subst hk
    go_enter Tryd.func52, Tryd.ntmps52
    go_wp2_with fail
    refine cD.mono ?_
    rintro e w1 ⟨rfl, b1⟩
    go_wp2
    go_ret
    exact ⟨rfl, b1⟩
  · have h1 : (1 : Int) ≤ (k : Int) := by omega
    have h2 : max k 1 = k := by omega
    rw [h2]
    clear h2 hk
    have HM : RowKit.Hid (max (k : Int) 1 = (k : Int)) := by unfold RowKit.Hid; omega
    go_enter Tryd.func52, Tryd.ntmps52
    go_wp2_with fail
    refine cD.mono ?_
    rintro e w1 ⟨rfl, b1⟩
    go_wp2
    go_ret
    refine ⟨?_, b1⟩
    first
      | rfl
      | (show Ending.returned (.int .i64 (max (k : Int) 1)) = _; rw [HM.out])
end

section
open Go.RowKit
theorem size_refT (cs : List Nat) (h : OKs cs) (hz : (T cs).size ≤ 1000000) (k : Nat) (hk : k < cs.length) (w : World) :
    Calls Tryd.prog 52 #[.string (T cs), .int .i64 (off cs k)] w fun e w' => e = .returned (.int .i64 (wid cs[k])) ∧ Below w.heap.size w w' := by
  have := size_ref (T cs) (off cs k) (off_lt cs k hk) hz w
  rw [refDec_T cs h k hk] at this
  have hw := wid_pos cs[k]
  rw [show max ((cs[k], wid cs[k]) : Nat × Nat).2 1 = wid cs[k] from by simp only; omega] at this
  exact this
end

end Go.Proofs.YtjfbbpppdlaapaaDoor
