/- The premise of layer 5 on the program's tables: the library's powers of ten lie as their text lays them, and the cell of internal/bytealg.MaxLen holds some number. strconv.Itoa, strconv.Atoi, strings.ReplaceAll, Repeat, TrimSuffix, HasPrefix as this package calls them. -/
import Derived.Test.YtnbjgkhngolhfaaDoorShelf
import Derived.Test.YtnbjgkhngolhfaaDoorPL05
import Derived.Lib.LaidTab
import Derived.Lib.ConvBytes
namespace Go.Proofs.YtnbjgkhngolhfaaDoor
open Go.RowKit

theorem Grow_below (w : World) (k : Nat) (os : Array Obj) : Below w.heap.size w (Sort.grow (w.drewN k) os) :=
  ⟨rfl, rfl, rfl, by simp [Sort.grow], fun i hi => Sort.heap_grow_old (w.drewN k) os hi⟩
theorem bytes_below (w : World) (e : TypeId) (s : ByteArray) : Below w.heap.size w (Lib.bytesWorld w e s) :=
  ⟨rfl, rfl, rfl, by rw [Lib.bytesWorld_size]; omega, fun i hi => Lib.bytesWorld_at_old w e s i hi⟩

structure Tab (w : World) : Prop where
  pows : Lib.TabIs Tryd.prog w "internal/strconv.uint64pow10" .u64 Lib.pow10Tab
  most : ∃ m, w.cell? ⟨3, 0, none⟩ = some (.int .i64 m)
theorem tabIs_below {w w' : World} {n : String} {k : IntKind} {zs : List Int} (h : Lib.TabIs Tryd.prog w n k zs) (hb : Below w.heap.size w w') : Lib.TabIs Tryd.prog w' n k zs := by
  unfold Lib.TabIs World.var? at *
  cases hg : Tryd.prog.globalNamed n with
  | none => simp [hg] at h
  | some g =>
    simp only [hg, Option.bind_some] at h ⊢
    have hlt : g < w.heap.size := by
      rcases Nat.lt_or_ge g w.heap.size with h' | h'
      · exact h'
      · rw [Array.getElem?_eq_none h'] at h; simp at h
    rw [hb.block g hlt]
    exact h
theorem Tab.on {w w' : World} (h : Tab w) (hb : Below w.heap.size w w') : Tab w' := by
  refine ⟨tabIs_below h.pows hb, ?_⟩
  obtain ⟨m, hm⟩ := h.most
  have hlt : 3 < w.heap.size := by
    rcases Nat.lt_or_ge 3 w.heap.size with h' | h'
    · exact h'
    · simp [World.cell?, Array.getElem?_eq_none h'] at hm
  exact ⟨m, (hb.cell (p := ⟨3, 0, none⟩) hlt).trans hm⟩

/-- strconv.Itoa at a number that is not negative. -/
theorem itoa_any (n : Nat) (h : n ≤ 9223372036854775807) (w : World) (hT : Tab w) :
    Calls Tryd.prog 27 #[.int .i64 (n : Int)] w fun e w' => e = .returned (.string (S (Lib.decDigits n))) ∧ Below w.heap.size w w' :=
  (Tryd.strconv_Itoa (n : Int) (by omega) (by omega) w hT.pows).mono fun e w' hh => by
    obtain ⟨he, k, os, rfl⟩ := hh
    refine ⟨?_, Grow_below w k os⟩
    rw [he, Lib.itoa, if_neg (by omega), Int.toNat_natCast]
    rfl
theorem itoa_digit (n : Nat) (h : n ≤ 9) (w : World) :
    Calls Tryd.prog 27 #[.int .i64 (n : Int)] w fun e w' => e = .returned (.string (S [dgt n])) ∧ w' = w := by
  have c := Tryd.strconv_Itoa_small n (by omega) w
  rw [dec_one n (by omega)] at c
  exact c
/-- strconv.Atoi at digits, at most eighteen. -/
theorem atoi_any (l : List UInt8) (a n : Nat) (h1 : 1 ≤ n) (h18 : n ≤ 18) (hl : a + n ≤ l.length) (hd : ∀ i, i < n → digB (l.getD (a + i) 0) = true) (w : World) :
    Calls Tryd.prog 31 #[.string (S ((l.drop a).take n))] w fun e w' => e = .returned (.tuple #[.int .i64 ((valL l a n : Nat) : Int), .nilIface]) ∧ Below w.heap.size w w' :=
  (Tryd.strconv_Atoi (S ((l.drop a).take n)) _ (by rw [S_size, List.length_take]; omega) (atoi_digits l a n h1 hl hd) w).mono fun e w' hh => by
    obtain ⟨he, t, rfl⟩ := hh
    exact ⟨he, bytes_below _ _ _⟩
/-- strings.ReplaceAll of one character by nothing. -/
theorem strike_any (l : List UInt8) (c : UInt8) (hz : l.length ≤ 1000000) (w : World) (hT : Tab w) :
    Calls Tryd.prog 32 #[.string (S l), .string (S [c]), .string (S [])] w fun e w' => e = .returned (.string (S (l.filter fun x => decide (x ≠ c)))) ∧ Below w.heap.size w w' := by
  obtain ⟨m, hm⟩ := hT.most
  have h := Tryd.strings_ReplaceAll (S l) (S [c]) (S []) m w (by rw [S_size]; omega) hm (by rw [S_size]; exact Nat.le_refl _) (by rw [S_size, S_size]; simp; omega)
  rw [show (S l).data.toList = l from rfl, show (S [c]).data.toList = [c] from rfl, show (S []).data.toList = [] from rfl, struck] at h
  exact h
/-- strings.Repeat of a nought. -/
theorem nought_any (c : Nat) (hc : c ≤ 100) (w : World) :
    Calls Tryd.prog 28 #[.string ⟨#[48]⟩, .int .i64 (c : Int)] w fun e w' => e = .returned (.string (S (Lib.repeatL [48] c))) ∧ Below w.heap.size w w' :=
  Tryd.strings_Repeat ⟨#[48]⟩ c w (by omega) (by simp [ByteArray.size]; omega)
/-- strings.TrimSuffix of an X. -/
theorem trim_any (l : List UInt8) (hz : l.length ≤ 1000000) (w : World) :
    Calls Tryd.prog 52 #[.string (S l), .string ⟨#[88]⟩] w fun e w' => e = .returned (.string (S (Lib.trimSuffix l [88]))) ∧ w' = w :=
  Tryd.strings_TrimSuffix (S l) ⟨#[88]⟩ w (by rw [S_size]; omega)
/-- strings.HasPrefix of three characters. -/
theorem three_any (l : List UInt8) (a b c : UInt8) (h : 3 ≤ l.length) (w : World) :
    Calls Tryd.prog 36 #[.string (S l), .string ⟨#[a, b, c]⟩] w fun e w' => e = .returned (.bool (decide (l.take 3 = [a, b, c]))) ∧ w' = w := by
  have h2 := Tryd.strings_HasPrefix (S l) ⟨#[a, b, c]⟩ w
  rw [show (S l).data.toList = l from rfl, show (⟨#[a, b, c]⟩ : ByteArray).data.toList = [a, b, c] from rfl, begins_three l a b c h] at h2
  exact h2
end Go.Proofs.YtnbjgkhngolhfaaDoor
