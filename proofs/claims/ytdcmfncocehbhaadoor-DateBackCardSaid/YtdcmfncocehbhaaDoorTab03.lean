/- The premise on the program's tables of layer 3: the lengths of the months and the library's powers of ten lie as their text lays them; strconv.Itoa under it. -/
import Derived.Test.YtdcmfncocehbhaaDoorShelf
import Derived.Test.YtdcmfncocehbhaaDoorR03Dig
import Derived.Lib.LaidTab
namespace Go.Proofs.YtdcmfncocehbhaaDoor
open Go.RowKit

theorem Grow_below (w : World) (k : Nat) (os : Array Obj) : Below w.heap.size w (Sort.grow (w.drewN k) os) :=
  ⟨rfl, rfl, rfl, by simp [Sort.grow], fun i hi => Sort.heap_grow_old (w.drewN k) os hi⟩

/-- The lengths of the months of a year that is no leap year. -/
def lensT : List Int := [31, 28, 31, 30, 31, 30, 31, 31, 30, 31, 30, 31]
structure Tab (w : World) : Prop where
  lens : Lib.TabIs Tryd.prog w "library/date.lengths" .i64 lensT
  pows : Lib.TabIs Tryd.prog w "internal/strconv.uint64pow10" .u64 Lib.pow10Tab
theorem tabIs_below {w w' : World} {n : String} {k : IntKind} {zs : List Int} (h : Lib.TabIs Tryd.prog w n k zs) (hb : Below w.heap.size w w') : Lib.TabIs Tryd.prog w' n k zs := by
  unfold Lib.TabIs World.var? at *
  cases hg : Tryd.prog.globalNamed n with
  | none => simp [hg] at h
  | some g =>
    simp only [hg, Option.bind_some] at h ⊢
    have hlt : g < w.heap.size := by
      rcases Nat.lt_or_ge g w.heap.size with h' | h'
      · exact h'
      · rw [Array.getElem?_eq_none h'] at h; simp at h
    rw [hb.block g hlt]
    exact h
theorem Tab.on {w w' : World} (h : Tab w) (hb : Below w.heap.size w w') : Tab w' := ⟨tabIs_below h.lens hb, tabIs_below h.pows hb⟩
theorem Tab.len {w : World} (h : Tab w) (i : Nat) (hi : i < 12) : w.cell? ⟨0, i, none⟩ = some (.int .i64 (lensT.getD i 0)) :=
  h.lens.cell (by kernel_rfl) i hi

/-- strconv.Itoa at a number that is not negative. -/
theorem itoa_any (n : Nat) (h : n ≤ 9223372036854775807) (w : World) (hT : Tab w) :
    Calls Tryd.prog 33 #[.int .i64 (n : Int)] w fun e w' => e = .returned (.string ⟨(Lib.decDigits n).toArray⟩) ∧ Below w.heap.size w w' :=
  (Tryd.strconv_Itoa (n : Int) (by omega) (by omega) w hT.pows).mono fun e w' hh => by
    obtain ⟨he, k, os, rfl⟩ := hh
    refine ⟨?_, Grow_below w k os⟩
    rw [he, Lib.itoa, if_neg (by omega), Int.toNat_natCast]

theorem dec1 (n : Nat) (h : n < 10) : Lib.decDigits n = [UInt8.ofNat (48 + n)] := by rw [Lib.decDigits, dif_pos h]
theorem decS (n : Nat) (h : ¬ n < 10) : Lib.decDigits n = Lib.decDigits (n / 10) ++ [UInt8.ofNat (48 + n % 10)] := by rw [Lib.decDigits, dif_neg h]
theorem dig_data (n k : Nat) : (digS n k).data.toList = (digL n k).map UInt8.ofNat := by
  unfold digS
  rw [strOfNums_data, List.map_map]
  rfl
theorem str_eq (l : List UInt8) (s : ByteArray) (h : s.data.toList = l) : (⟨l.toArray⟩ : ByteArray) = s := by
  subst h
  rfl
theorem dec_lo (n : Nat) (h : n < 10) : (⟨#[48]⟩ : ByteArray) ++ ⟨(Lib.decDigits n).toArray⟩ = digS n 2 := by
  rw [dec1 n h]
  refine ByteArray.ext (Array.toList_inj.1 ?_)
  rw [dig_data, show digL n 2 = [48 + n / 10 % 10, 48 + n % 10] by simp [digL], show n / 10 % 10 = 0 by omega, show n % 10 = n by omega]
  rfl
theorem dec_hi (n : Nat) (h : ¬ n < 10) (h1 : n < 100) : (⟨(Lib.decDigits n).toArray⟩ : ByteArray) = digS n 2 := by
  refine str_eq _ _ ?_
  rw [decS n h, dec1 (n / 10) (by omega), dig_data, show digL n 2 = [48 + n / 10 % 10, 48 + n % 10] by simp [digL], show n / 10 % 10 = n / 10 by omega]
  rfl
theorem dec_year (n : Nat) (h : 1000 ≤ n) (h1 : n < 10000) : (⟨(Lib.decDigits n).toArray⟩ : ByteArray) = digS n 4 := by
  refine str_eq _ _ ?_
  rw [decS n (by omega), decS (n / 10) (by omega), decS (n / 10 / 10) (by omega), dec1 (n / 10 / 10 / 10) (by omega), dig_data,
    show digL n 4 = [48 + n / 1000 % 10, 48 + n / 100 % 10, 48 + n / 10 % 10, 48 + n % 10] by simp [digL],
    show n / 1000 % 10 = n / 10 / 10 / 10 by omega, show n / 100 % 10 = n / 10 / 10 % 10 by omega]
  rfl
end Go.Proofs.YtdcmfncocehbhaaDoor
