/- libraryref07: mark. -/
import Derived.Test.YtjajihemcaihmaaGreatDoorR07I
namespace Go.Proofs.YtjajihemcaihmaaGreatDoor
open Go.RowKit Go.PlainAid

def markB (c : UInt8) : List UInt8 := if c = 32 then [35] else [c]
set_option maxHeartbeats 4000000 in
theorem refmark_any (c : UInt8) (b : Int) (hb : b = (c.toNat : Int)) (w : World) :
    Calls Tryz.prog 39 #[.int .u8 b] w fun e w' => e = .returned (.string (S (markB c))) ∧ Below w.heap.size w w' := by
  unfold markB
  by_cases h : c = 32
  · rw [if_pos h]
    have t : b = 32 := by rw [hb, h]; rfl
    subst t
    clear h hb
    go_enter Tryz.func39, Tryz.ntmps39
    go_wp2
    go_ret
    exact ⟨rfl, Below.refl _ _⟩
  · rw [if_neg h]
    have hn : c.toNat ≠ 32 := fun e => h (UInt8.toNat_inj.1 e)
    have t : (b == 32) = false := by rw [hb]; simp; omega
    have hB := (Byt.one w c).str
    have hu : u8V c = .int .u8 b := by rw [hb]; rfl
    rw [hu] at hB
    clear h hb hn hu
    go_enter Tryz.func39, Tryz.ntmps39
    go_wp2
    go_ret
    exact ⟨rfl, (Below.refl _ w).alloc (Nat.le_refl _) _⟩
end Go.Proofs.YtjajihemcaihmaaGreatDoor
