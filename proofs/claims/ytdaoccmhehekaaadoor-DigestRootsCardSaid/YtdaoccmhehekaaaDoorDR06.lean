/- Package digest: Right. -/
import Derived.Test.YtdaoccmhehekaaaDoorShelf
import Derived.Test.YtdaoccmhehekaaaDoorR06C
namespace Go.Proofs.YtdaoccmhehekaaaDoor
open Go.RowKit Go.PlainAid

def hexC : List UInt8 := [48, 49, 50, 51, 52, 53, 54, 55, 56, 57, 97, 98, 99, 100, 101, 102]
theorem hexC_contains (x : UInt8) : hexC.contains x = hexB x := by
  have h : ∀ n : Fin 256, hexC.contains (UInt8.ofNat n.1) = hexB (UInt8.ofNat n.1) := by decide +kernel
  have h2 := h ⟨x.toNat, UInt8.toNat_lt x⟩
  rwa [show UInt8.ofNat x.toNat = x from UInt8.ofNat_toNat] at h2
theorem drop_nil (p : UInt8 → Bool) : ∀ l : List UInt8, l.dropWhile p = [] ↔ l.all p = true
  | [] => by simp
  | x :: l => by
    cases h : p x
    · simp [h]
    · simp only [List.dropWhile_cons, h, if_true, List.all_cons, Bool.true_and]
      exact drop_nil p l
theorem trim_iff (l : List UInt8) : Lib.trimLeftS l hexC = [] ↔ l.all hexB = true := by
  unfold Lib.trimLeftS
  rw [drop_nil, show (fun x => hexC.contains x) = hexB from funext hexC_contains]
theorem trim_all (l : List UInt8) (h : l.all hexB = true) : Lib.trimLeftS l hexC = [] := (trim_iff l).2 h
theorem trim_not (l : List UInt8) (h : l.all hexB = false) : Lib.trimLeftS l hexC ≠ [] := fun h2 => by
  rw [(trim_iff l).1 h2] at h
  cases h
theorem trim_hex (l : List UInt8) (w : World) :
    Calls Tryd.prog 26 #[.string (S l), .string ⟨#[48, 49, 50, 51, 52, 53, 54, 55, 56, 57, 97, 98, 99, 100, 101, 102]⟩] w fun e w' => e = .returned (.string (S (Lib.trimLeftS l hexC))) ∧ Below w.heap.size w w' :=
  Any.strings_TrimLeft_laid Tryd.lays161x (by kernel_rfl) (S l) ⟨#[48, 49, 50, 51, 52, 53, 54, 55, 56, 57, 97, 98, 99, 100, 101, 102]⟩ w (by decide) (ascii_of_all (by decide))

theorem digRight_any (l : List UInt8) (b : Bool) (hb : rightB l = b) (w : World) :
    Calls Tryd.prog 15 #[.string (S l)] w fun e w' => e = .returned (.bool b) ∧ Below w.heap.size w w' := by
  obtain ⟨n, hn⟩ : ∃ n, l.length = n := ⟨_, rfl⟩
  have hsz : (S l).size = n := by rw [S_size, hn]
  unfold rightB at hb
  rw [hn] at hb
  by_cases h16 : n = 16
  · rw [decide_eq_true h16, Bool.true_and] at hb
    have t1 : ((n : Int) == 16) = true := by rw [h16]; rfl
    have c := Lib.hid (fun W => trim_hex l W)
    cases hb2 : l.all hexB
    · obtain rfl : b = false := by rw [← hb, hb2]
      obtain ⟨e1, e2⟩ := S_facts _ (trim_not l hb2)
      clear hb hb2
      generalize S (Lib.trimLeftS l hexC) = r at *
      generalize S l = s at *
      go_enter Tryd.func15, Tryd.ntmps15
      go_wp2_with fail
      refine (c.out _).mono ?_
      rintro e w1 ⟨rfl, b1⟩
      go_wp2
      go_ret
      exact ⟨rfl, b1⟩
    · obtain rfl : b = true := by rw [← hb, hb2]
      rw [trim_all l hb2] at c
      rw [show S [] = (⟨#[]⟩ : ByteArray) from rfl] at c
      clear hb hb2
      generalize S l = s at *
      go_enter Tryd.func15, Tryd.ntmps15
      go_wp2_with fail
      refine (c.out _).mono ?_
      rintro e w1 ⟨rfl, b1⟩
      go_wp2
      go_ret
      exact ⟨rfl, b1⟩
  · rw [decide_eq_false h16, Bool.false_and] at hb
    subst hb
    have t1 : ((n : Int) == 16) = false := by simp; omega
    generalize S l = s at *
    go_enter Tryd.func15, Tryd.ntmps15
    go_wp2
    go_ret
    exact ⟨rfl, Below.refl _ _⟩
end Go.Proofs.YtdaoccmhehekaaaDoor
