/- Merged: Env07, FE07. -/
import Derived.Test.YtceneblmllpdnaaDoorShelf
import Derived.Test.YtceneblmllpdnaaDoorQ16
import Derived.Test.YtceneblmllpdnaaDoorQ17
import Derived.Lib.LaidTab
import Derived.Test.YtceneblmllpdnaaDoorQ10
namespace Go.Proofs.YtceneblmllpdnaaDoor

section
open Go.RowKit
theorem drewN_below (w : World) (n : Nat) : Below w.heap.size w (w.drewN n) := ⟨rfl, rfl, rfl, Nat.le_refl _, fun _ _ => rfl⟩

structure Env (w : World) : Prop where
  tabs : Tabs w
  most : ∃ m, w.cell? ⟨2, 0, none⟩ = some (.int .i64 m)
theorem cell_below {w w' : World} {g : Nat} {v : Value} (h : w.cell? ⟨g, 0, none⟩ = some v) (hb : Below w.heap.size w w') : w'.cell? ⟨g, 0, none⟩ = some v := by
  have hlt : g < w.heap.size := by
    rcases Nat.lt_or_ge g w.heap.size with h' | h'
    · exact h'
    · simp [World.cell?, Array.getElem?_eq_none h'] at h
  exact (hb.cell (p := ⟨g, 0, none⟩) hlt).trans h
theorem Env.after {w w' : World} (h : Env w) (hb : Below w.heap.size w w') : Env w' := by
  obtain ⟨h1, ⟨m, hm⟩⟩ := h
  exact ⟨h1.after hb, ⟨m, cell_below hm hb⟩⟩

/-- text.Valid. -/
theorem cValid (l : List UInt8) (hz : l.length ≤ 1000000) (b : Bool) (hb : validT l = b) (w : World) (hE : Env w) :
    Calls Tryd.prog 70 #[.string (S l)] w fun e w' => e = .returned (.bool b) ∧ Below w.heap.size w w' :=
  valid_is (S l) b hb (by rw [S_size]; omega) w hE.tabs
theorem count_le' (l d : List UInt8) : Lib.countB (S l) (S d) ≤ l.length + 1 := Lib.count_le l d
theorem cReplace (l old new r : List UInt8) (h0 : 1 ≤ old.length) (h2 : new.length ≤ 2) (hz : l.length ≤ 1000000) (hr : Lib.replaceAll l old new = r) (w : World) (hE : Env w) :
    Calls Tryd.prog 63 #[.string (S l), .string (S old), .string (S new)] w fun e w' => e = .returned (.string (S r)) ∧ Below w.heap.size w w' := by
  obtain ⟨m, hm⟩ := hE.most
  have hc := count_le' l old
  have hmul : Lib.countB (S l) (S old) * (S new).size ≤ (l.length + 1) * 2 := Nat.mul_le_mul hc (by rw [S_size]; exact h2)
  have h := Tryd.strings_ReplaceAll (S l) (S old) (S new) m w (by rw [S_size]; omega) hm (by rw [S_size]; exact h0) (by rw [S_size l]; omega)
  rw [show (S l).data.toList = l from rfl, show (S old).data.toList = old from rfl, show (S new).data.toList = new from rfl, hr] at h
  exact h
/-- A blank by nothing. -/
theorem cStrike (l : List UInt8) (hz : l.length ≤ 1000000) (w : World) (hE : Env w) :
    Calls Tryd.prog 63 #[.string (S l), .string ⟨#[32]⟩, .string ⟨#[]⟩] w fun e w' => e = .returned (.string (S (subL 32 [] l))) ∧ Below w.heap.size w w' :=
  cReplace l [32] [] _ (by simp) (by simp) hz (sub_all 32 [] l (by simp)) w hE
end

section
open Go.RowKit Go.PlainAid

end

end Go.Proofs.YtceneblmllpdnaaDoor
