/- Merged: R07K, R11E, R11F. -/
import Derived.Test.YtnfallkeicehiaaDoorQ08
import Derived.Deep.RegionHeld3
import Derived.Deep.CutBlock
import Derived.Deep.DeepCutAuto
import Derived.Test.YtnfallkeicehiaaDoorQ13
namespace Go.Proofs.YtnfallkeicehiaaDoor

section
open Go.RowKit Go.PlainAid
/-- All that lay in w lies still. -/
def Sees (w w' : World) : Prop := Below w.heap.size w w'
theorem Sees.self (w : World) : Sees w w := Below.refl _ _
theorem Sees.after {w w1 w2 : World} (h : Sees w w1) (hb : Below w1.heap.size w1 w2) : Sees w w2 := Below.trans h (hb.mono h.size)
theorem Sees_drew (w w' : World) : Sees w w'.drew ↔ Sees w w' :=
  ⟨fun h => ⟨h.os, h.tape, h.output, h.size, h.block⟩, fun h => ⟨h.os, h.tape, h.output, h.size, h.block⟩⟩

/-- The mark of a byte, as a text. -/
def MF (y : Int) : ByteArray := S (markB (UInt8.ofNat y.toNat))
theorem MF_at (l : List UInt8) (i : Nat) : MF (bt (S l) i) = S (markB (l.getD i 0)) := by
  unfold MF
  rw [bt_S, Int.toNat_natCast, UInt8.ofNat_toNat]
theorem MF_size (y : Int) : (MF y).size = 1 := by
  unfold MF markB
  rw [S_size]
  split <;> simp

theorem bt_nat (s : ByteArray) (i : Nat) : bt s i = ((UInt8.ofNat (bt s i).toNat).toNat : Int) := by
  have h := bt_S s.data.toList i
  rw [S_of] at h
  rw [h, Int.toNat_natCast, UInt8.ofNat_toNat]
end

section
open Go.RowKit Go.PlainAid
theorem line_max (f : Fld) (h : rightI f = 0) : (lineL f).length ≤ 20000 := by
  obtain ⟨htag, _, _, hn16, hsub, ha0, ha1⟩ := right_facts f h
  have h3 := tagB_len _ htag
  have hb := bodyL_le f.subs (fun i hi => (subE_zero _ (hsub i hi)).2.2.2)
  have hd := dec_bound f.auth.toNat
  have ha : (authP f.auth).length ≤ 10003 := by
    unfold authP
    split
    · simp
    · simp [padL]
      omega
  have hm : ∀ c, (markB c).length = 1 := fun c => by unfold markB; split <;> rfl
  unfold lineL headL
  simp only [List.length_append, List.length_cons, List.length_nil, hm]
  omega
theorem bodyF_max : ∀ (F : List Fld), (∀ f ∈ F, rightI f = 0) → (bodyF F).length ≤ 20001 * F.length
  | [], _ => by simp [bodyF]
  | f :: F, h => by
    have h1 := line_max f (h f (by simp))
    have h2 := bodyF_max F (fun g hg => h g (by simp [hg]))
    have e : (bodyF (f :: F)).length = (lineL f).length + 1 + (bodyF F).length := by simp [bodyF]; omega
    rw [e, List.length_cons, Nat.mul_add]
    omega
theorem bodyF_snoc (F : List Fld) (k : Nat) (f : Fld) (h : F[k]? = some f) : bodyF (F.take (k + 1)) = bodyF (F.take k) ++ lineL f ++ [10] := by
  have hk := (List.getElem?_eq_some_iff.1 h).1
  rw [List.take_succ_eq_append_getElem hk, (List.getElem?_eq_some_iff.1 h).2]
  unfold bodyF
  rw [List.flatMap_append]
  simp
theorem hdr_max (r : Rec) (h : rightRI r = 0) : (hdrR r).length ≤ 100 := by
  obtain ⟨a1, a2, a3, a4, a5, a6, a7, _, _⟩ := right_rec r h
  have h3 := lang_len _ a7
  have d1 := dec_len 3 r.id.toNat (by omega)
  have d2 := dec_len 3 r.ver.toNat (by omega)
  have hk : (kindW r.kind).length ≤ 7 := by
    unfold kindW
    split
    · decide
    · split
      · decide
      · split <;> decide
  unfold hdrR hdrX midX
  simp only [List.length_cons, List.length_append, h3]
  omega
theorem text_max (r : Rec) (h : rightRI r = 0) : (textX r).length ≤ 1300000 := by
  have h1 := hdr_max r h
  obtain ⟨_, _, _, _, _, _, _, a8, a9⟩ := right_rec r h
  have h2 := bodyF_max r.fields a9
  unfold textX
  simp only [List.length_cons, List.length_append, List.length_nil]
  omega
end

section
open Go.RowKit Go.PlainAid
def okZ (r : Rec) : Prop := ∀ i, i < r.fields.length → ∀ j, j < (r.fields.getD i fd0).subs.length → ((r.fields.getD i fd0).subs.getD j sub0).2.length ≤ 1000000
theorem prnX_le (r : Rec) : (prnX r).1.length ≤ 1300000 := by
  by_cases h : rightRI r = 0
  · rw [prn_of r h]
    exact text_max r h
  · rw [prn_no r (by unfold prnX; rw [if_pos h]; exact h)]
    exact Nat.zero_le _
theorem prnA_eq (L : List Rec) (h : ¬ 64 < L.length) : prnA L = if (catL L).2 ≠ 0 then ([], (catL L).2) else if 65536 < (catL L).1.length then ([], 4) else ((catL L).1, 0) := by
  unfold prnA
  rw [if_neg h]
end

end Go.Proofs.YtnfallkeicehiaaDoor
