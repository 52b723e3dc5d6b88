/- Merged: KU14. -/
import Derived.Test.YthjdopnoophigaaGreatDoorQ19
import Derived.Test.YthjdopnoophigaaGreatDoorQ34
import Derived.Test.YthjdopnoophigaaGreatDoorQ35
import Derived.Test.YthjdopnoophigaaGreatDoorQ31
import Derived.Deep.RegionHeld3
namespace Go.Proofs.YthjdopnoophigaaGreatDoor

section
open Go.RowKit Go.PlainAid
theorem QL.lay {w : World} {L : List Sub} {cs : Array Value} (h : cs.toList = cellsL L) (hm : L.length ≤ 1000) : QL (.slice (some ⟨w.heap.size, 0, none⟩) L.length L.length) L (w.alloc (.cells cs 48)) := by
  refine QL.of_row (B := w.heap.size) ⟨cellsL_length L, .inr ⟨w.heap.size, L.length, cs, rfl, Nat.le_refl _, heap_alloc_new w _, Nat.le_refl _, by unfold maxLen; omega, ?_, ?_⟩⟩
  · rw [← Array.length_toList, h, cellsL_length]
  · rw [h, List.take_of_length_le (by rw [cellsL_length]; exact Nat.le_refl _)]
theorem FL.lay {w : World} {f : Fld} {u : Value} (h : QL u f.subs w) : FL (.slice (some ⟨w.heap.size, 0, none⟩) 1 1) [f] (w.alloc (.cells #[.string (S f.tag), .string (S f.ind), u, .int .i64 f.auth] 24)) := by
  have hb := heap_alloc_new w (.cells #[.string (S f.tag), .string (S f.ind), u, .int .i64 f.auth] 24)
  obtain ⟨⟨p0, p1, p2, p3⟩, -⟩ := fcells4 hb
  refine ⟨_, 1, rfl, Nat.le_refl _, by unfold maxLen; omega, (fun h => by cases h), fun i hi => ?_⟩
  obtain rfl : i = 0 := by simpa using hi
  exact ⟨w.heap.size, 0, u, rfl, (Array.getElem?_eq_some_iff.1 hb).1, p0, p1, p2, p3, h.after ((Below.refl _ _).alloc (Nat.le_refl _) _)⟩
theorem AL.lay {w : World} {a : Au} {s t : Value} (hs : BL s a.see w) (ht : IL t a.above w) : AL (.slice (some ⟨w.heap.size, 0, none⟩) 1 1) [a] (w.alloc (.cells #[.int .i64 a.id, .int .i64 a.kind, .string (S a.heading), s, t] 56)) := by
  have hb := heap_alloc_new w (.cells #[.int .i64 a.id, .int .i64 a.kind, .string (S a.heading), s, t] 56)
  obtain ⟨⟨p0, p1, p2, p3, p4⟩, -⟩ := acells hb
  have hbl := (Below.refl w.heap.size w).alloc (Nat.le_refl _) (.cells #[.int .i64 a.id, .int .i64 a.kind, .string (S a.heading), s, t] 56)
  refine ⟨_, 1, rfl, Nat.le_refl _, by unfold maxLen; omega, (fun h => by cases h), fun i hi => ?_⟩
  obtain rfl : i = 0 := by simpa using hi
  exact ⟨w.heap.size, 0, s, t, rfl, (Array.getElem?_eq_some_iff.1 hb).1, p0, p1, p2, p3, p4, hs.after hbl, ht.after hbl⟩
theorem BL.lay14 (w : World) (x : List UInt8) : BL (.slice (some ⟨w.heap.size, 0, none⟩) 1 1) [x] (w.alloc (.cells #[.string (S x)] 9)) := by
  refine ⟨_, 1, rfl, Nat.le_refl _, by unfold maxLen; omega, (fun h => by cases h), fun i hi => ?_⟩
  obtain rfl : i = 0 := by simpa using hi
  refine ⟨w.heap.size, 0, rfl, by simp, ?_⟩
  rw [Lib.cell_of_heap (heap_alloc_new w _)]
  rfl

/-- A field in its box. -/
structure FX14 (b : Nat) (t i : ByteArray) (u : Value) (x : Int) (L : List Sub) (W : World) : Prop where
  bx : W.heap[b]? = some (.cells #[.string t, .string i, u, .int .i64 x] 24 (0, 0))
  q : QL u L W
theorem FX14.after {b : Nat} {t i : ByteArray} {u : Value} {x : Int} {L : List Sub} {W W' : World} (h : FX14 b t i u x L W) (hb : Below W.heap.size W W') : FX14 b t i u x L W' :=
  ⟨(hb.block b (Array.getElem?_eq_some_iff.1 h.bx).1).trans h.bx, h.q.after hb⟩
/-- A record in its box. -/
structure RX14 (b : Nat) (l : ByteArray) (u : Value) (L : List Fld) (W : World) : Prop where
  bx : W.heap[b]? = some (.cells #[.int .i64 0, .int .i64 3, .int .i64 1, .string l, u] 33 (0, 0))
  q : FL u L W
theorem RX14.after {b : Nat} {l : ByteArray} {u : Value} {L : List Fld} {W W' : World} (h : RX14 b l u L W) (hb : Below W.heap.size W W') : RX14 b l u L W' :=
  ⟨(hb.block b (Array.getElem?_eq_some_iff.1 h.bx).1).trans h.bx, h.q.after hb⟩
theorem okP14 : okF fP14 := ok_small _ (by decide) (by decide)
theorem okS14 : okF fS14 := ok_small _ (by decide) (by decide)
theorem okH14 : okF fH14 := ok_small _ (by decide) (by decide)
theorem okL14 : okF fL14 := ok_small _ (by decide) (by decide)
theorem okD14 : okF fD14 := ok_small _ (by decide) (by decide)

section
variable (W : World) (hE : Env W)
include hE
theorem exK1 : Calls Tryz.prog 25 #[.string ⟨#[49, 48, 48]⟩] W fun e w' => e = .returned (.int .i64 1) ∧ Below W.heap.size W w' := by
  have c := pKind_any [49, 48, 48] W hE.std
  rw [ex_kind1] at c
  exact c
theorem exK3 : Calls Tryz.prog 25 #[.string ⟨#[54, 53, 48]⟩] W fun e w' => e = .returned (.int .i64 3) ∧ Below W.heap.size W w' := by
  have c := pKind_any [54, 53, 48] W hE.std
  rw [ex_kind3] at c
  exact c
theorem exK0 : Calls Tryz.prog 25 #[.string ⟨#[50, 52, 53]⟩] W fun e w' => e = .returned (.int .i64 0) ∧ Below W.heap.size W w' := by
  have c := pKind_any [50, 52, 53] W hE.std
  rw [ex_kind0] at c
  exact c
theorem exHP (u : Value) (hu : QL u fP14.subs W) : Calls Tryz.prog 26 #[.agg #[.string ⟨#[49, 48, 48]⟩, .string ⟨#[49, 32]⟩, u, .int .i64 0]] W fun e w' => e = .returned (.string ⟨#[83, 109, 105, 116, 104, 44, 32, 65, 110, 110, 44, 32, 49, 57, 53, 48, 45]⟩) ∧ Below W.heap.size W w' := by
  have c := pHeading_any fP14 u W hE.std hu okP14
  rw [ex_headP] at c
  exact c
theorem exHS (u : Value) (hu : QL u fS14.subs W) : Calls Tryz.prog 26 #[.agg #[.string ⟨#[54, 53, 48]⟩, .string ⟨#[32, 48]⟩, u, .int .i64 0]] W fun e w' => e = .returned (.string ⟨#[68, 111, 103, 115, 45, 45, 72, 105, 115, 116, 111, 114, 121]⟩) ∧ Below W.heap.size W w' := by
  have c := pHeading_any fS14 u W hE.std hu okS14
  rw [ex_headS] at c
  exact c
theorem exHL (u : Value) (hu : QL u fL14.subs W) : Calls Tryz.prog 26 #[.agg #[.string ⟨#[54, 53, 48]⟩, .string ⟨#[32, 48]⟩, u, .int .i64 7]] W fun e w' => e = .returned (.string ⟨#[104, 111, 117, 110, 100, 115]⟩) ∧ Below W.heap.size W w' := by
  have c := pHeading_any fL14 u W hE.std hu okL14
  rw [ex_headL] at c
  exact c
theorem exHD (u : Value) (hu : QL u fD14.subs W) : Calls Tryz.prog 26 #[.agg #[.string ⟨#[54, 53, 48]⟩, .string ⟨#[32, 48]⟩, u, .int .i64 7]] W fun e w' => e = .returned (.string ⟨#[68, 111, 103, 115]⟩) ∧ Below W.heap.size W w' := by
  have c := pHeading_any fD14 u W hE.std hu okD14
  rw [ex_headD] at c
  exact c
theorem exPutP (u : Value) (hu : QL u fP14.subs W) : Calls Tryz.prog 11 #[.agg #[.string ⟨#[49, 48, 48]⟩, .string ⟨#[49, 32]⟩, u, .int .i64 0], .string ⟨#[76, 101, 101, 44, 32, 66, 111, 44, 32, 49, 57, 54, 48, 45]⟩] W fun e w' => ∃ ao cp, e = .returned (.agg #[.string ⟨#[49, 48, 48]⟩, .string ⟨#[49, 32]⟩, .slice ao 3 cp, .int .i64 0]) ∧ QL (.slice ao 3 cp) pP14.subs w' ∧ Below W.heap.size W w' := by
  have c := pPut_any fP14 u hP14 (by decide +kernel) (by decide) W hE hu (by decide)
  rw [ex_putP] at c
  refine Calls.mono c ?_
  rintro e w' ⟨v', h1, h2, h3⟩
  obtain ⟨ao, cp, hv⟩ := h2.form
  subst hv
  exact ⟨ao, cp, h1, h2.ql, h3⟩
theorem exPutS (u : Value) (hu : QL u fS14.subs W) : Calls Tryz.prog 11 #[.agg #[.string ⟨#[54, 53, 48]⟩, .string ⟨#[32, 48]⟩, u, .int .i64 0], .string ⟨#[67, 97, 116, 115, 45, 45, 67, 97, 114, 101, 45, 45, 71, 101, 114, 109, 97, 110, 121]⟩] W fun e w' => ∃ ao cp, e = .returned (.agg #[.string ⟨#[54, 53, 48]⟩, .string ⟨#[32, 48]⟩, .slice ao 3 cp, .int .i64 0]) ∧ QL (.slice ao 3 cp) pS14.subs w' ∧ Below W.heap.size W w' := by
  have c := pPut_any fS14 u hS14 (by decide +kernel) (by decide) W hE hu (by decide)
  rw [ex_putS] at c
  refine Calls.mono c ?_
  rintro e w' ⟨v', h1, h2, h3⟩
  obtain ⟨ao, cp, hv⟩ := h2.form
  subst hv
  exact ⟨ao, cp, h1, h2.ql, h3⟩
theorem exPrP (u : Value) (hu : QL u pP14.subs W) : Calls Tryz.prog 27 #[.agg #[.string ⟨#[49, 48, 48]⟩, .string ⟨#[49, 32]⟩, u, .int .i64 0]] W fun e w' => e = .returned (.tuple #[.string ⟨#[49, 48, 48, 32, 49, 35, 32, 36, 97, 76, 101, 101, 44, 32, 66, 111, 36, 100, 49, 57, 54, 48, 45, 36, 52, 97, 117, 116]⟩, .int .i64 0]) ∧ Below W.heap.size W w' :=
  fPrint_any pP14 u W hE hu (fun i hi => by
    have h3 : i < 3 := hi
    match i, h3 with
    | 0, _ => decide
    | 1, _ => decide
    | 2, _ => decide) _ _ ex_printP
theorem exPrS (u : Value) (hu : QL u pS14.subs W) : Calls Tryz.prog 27 #[.agg #[.string ⟨#[54, 53, 48]⟩, .string ⟨#[32, 48]⟩, u, .int .i64 0]] W fun e w' => e = .returned (.tuple #[.string ⟨#[54, 53, 48, 32, 35, 48, 32, 36, 97, 67, 97, 116, 115, 36, 120, 67, 97, 114, 101, 36, 120, 71, 101, 114, 109, 97, 110, 121]⟩, .int .i64 0]) ∧ Below W.heap.size W w' :=
  fPrint_any pS14 u W hE hu (fun i hi => by
    have h3 : i < 3 := hi
    match i, h3 with
    | 0, _ => decide
    | 1, _ => decide
    | 2, _ => decide) _ _ ex_printS
theorem exLink (la u : Value) (hA : AL la l14 W) (hu : FL u [fH14] W) : Calls Tryz.prog 28 #[la, .agg #[.int .i64 0, .int .i64 3, .int .i64 1, .string ⟨#[101, 110, 103]⟩, u]] W fun e w' => ∃ ao cp, e = .returned (.agg #[.int .i64 0, .int .i64 3, .int .i64 1, .string ⟨#[101, 110, 103]⟩, .slice ao 1 cp]) ∧ FL (.slice ao 1 cp) [fL14] w' ∧ Below W.heap.size W w' := by
  have c := pLink_any la l14 ⟨0, 3, 1, [101, 110, 103], [fH14]⟩ u W hE hA ex_bnd14 ex_right14 hu (by decide) (fun f hf => by rw [List.mem_singleton.1 hf]; exact okH14) (fun f hf _ => by
    rw [List.mem_singleton.1 hf, ex_headH]
    exact ⟨by decide +kernel, by decide⟩)
  refine Calls.mono c ?_
  rintro e w' ⟨v', h1, h2, h3⟩
  have h4 : FL v' [fL14] w' := by
    have : [fH14].map (linkX l14) = [fL14] := by rw [List.map_singleton, ex_link]
    rw [← this]
    exact h2
  obtain ⟨ao, cp, hv, -, -⟩ := h4.length
  subst hv
  exact ⟨ao, cp, h1, h4, h3⟩
theorem exFollow (la u : Value) (hA : AL la l14 W) (hu : FL u [fL14] W) : Calls Tryz.prog 29 #[la, .agg #[.int .i64 0, .int .i64 3, .int .i64 1, .string ⟨#[101, 110, 103]⟩, u]] W fun e w' => ∃ ao cp, e = .returned (.agg #[.int .i64 0, .int .i64 3, .int .i64 1, .string ⟨#[101, 110, 103]⟩, .slice ao 1 cp]) ∧ FL (.slice ao 1 cp) [fD14] w' ∧ Below W.heap.size W w' := by
  have c := pFollow_any la l14 ⟨0, 3, 1, [101, 110, 103], [fL14]⟩ u W hE hA ex_bnd14 ex_right14 hu (by decide) (fun f hf => by rw [List.mem_singleton.1 hf]; exact okL14) (fun f hf a ha => by
    rw [List.mem_singleton.1 hf] at ha
    have : getA l14 fL14.auth = some a14 := rfl
    rw [this] at ha
    obtain rfl := Option.some.inj ha
    exact ⟨by decide +kernel, by decide⟩)
  refine Calls.mono c ?_
  rintro e w' ⟨v', h1, h2, h3⟩
  have h4 : FL v' [fD14] w' := by
    have : [fL14].map (followX l14) = [fD14] := by rw [List.map_singleton, ex_follow]
    rw [← this]
    exact h2
  obtain ⟨ao, cp, hv, -, -⟩ := h4.length
  subst hv
  exact ⟨ao, cp, h1, h4, h3⟩
theorem exLoose (u : Value) (hu : FL u [fH14] W) : Calls Tryz.prog 16 #[.agg #[.int .i64 0, .int .i64 3, .int .i64 1, .string ⟨#[101, 110, 103]⟩, u]] W fun e w' => ∃ ao cp, e = .returned (.slice ao 1 cp) ∧ Below W.heap.size W w' := by
  have c := pLoose_any ⟨0, 3, 1, [101, 110, 103], [fH14]⟩ u W hE hu (by decide)
  refine Calls.mono c ?_
  rintro e w' ⟨v', h1, h2, h3⟩
  have h4 : IL v' [0] w' := by rw [← ex_loose]; exact h2
  obtain ⟨ao, cp, hv, -⟩ := h4
  subst hv
  exact ⟨ao, cp, h1, h3⟩
end
end

end Go.Proofs.YthjdopnoophigaaGreatDoor
