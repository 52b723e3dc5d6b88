/- Merged: R07A, R07B, BL. -/
import Derived.Test.YtceneblmllpdnaaDoorQ01
import Derived.Laws.AppendOwn
namespace Go.Proofs.YtceneblmllpdnaaDoor

section
open Go.RowKit Go.PlainAid
set_option maxHeartbeats 4000000 in
theorem refdigit_any (x : UInt8) (b : Bool) (hb : digB x = b) (w : World) :
    Calls Tryd.prog 57 #[.int .u8 (x.toNat : Int)] w fun e w' => e = .returned (.bool b) ∧ w' = w := by
  unfold digB at hb
  by_cases h1 : 48 ≤ x.toNat
  · have t1 : decide ((48 : Int) ≤ (x.toNat : Int)) = true := decide_eq_true (by omega)
    rw [decide_eq_true h1, Bool.true_and] at hb
    have t2 : decide ((x.toNat : Int) ≤ 57) = b := by rw [← hb, decide_eq_decide]; omega
    clear hb h1
    generalize x.toNat = n at *
    go_enter Tryd.func57, Tryd.ntmps57
    go_wp2
    go_ret
    exact ⟨rfl, rfl⟩
  · have t1 : decide ((48 : Int) ≤ (x.toNat : Int)) = false := decide_eq_false (by omega)
    rw [decide_eq_false h1, Bool.false_and] at hb
    subst hb
    clear h1
    generalize x.toNat = n at *
    go_enter Tryd.func57, Tryd.ntmps57
    go_wp2
    go_ret
    exact ⟨rfl, rfl⟩

set_option maxHeartbeats 4000000 in
theorem refCode_any (x : UInt8) (b : Bool) (hb : codeB x = b) (w : World) :
    Calls Tryd.prog 58 #[.int .u8 (x.toNat : Int)] w fun e w' => e = .returned (.bool b) ∧ w' = w := by
  unfold codeB at hb
  cases hd : digB x
  · have c1 := Lib.hid (fun W => refdigit_any x false hd W)
    rw [hd, Bool.false_or] at hb
    clear hd
    by_cases h1 : 97 ≤ x.toNat
    · have t1 : decide ((97 : Int) ≤ (x.toNat : Int)) = true := decide_eq_true (by omega)
      rw [decide_eq_true h1, Bool.true_and] at hb
      have t2 : decide ((x.toNat : Int) ≤ 122) = b := by rw [← hb, decide_eq_decide]; omega
      clear hb h1
      generalize x.toNat = n at *
      go_enter Tryd.func58, Tryd.ntmps58
      go_wp2_with fail
      refine (c1.out _).mono ?_
      rintro e w1 ⟨rfl, rfl⟩
      go_wp2
      go_ret
      exact ⟨rfl, rfl⟩
    · have t1 : decide ((97 : Int) ≤ (x.toNat : Int)) = false := decide_eq_false (by omega)
      rw [decide_eq_false h1, Bool.false_and] at hb
      subst hb
      clear h1
      generalize x.toNat = n at *
      go_enter Tryd.func58, Tryd.ntmps58
      go_wp2_with fail
      refine (c1.out _).mono ?_
      rintro e w1 ⟨rfl, rfl⟩
      go_wp2
      go_ret
      exact ⟨rfl, rfl⟩
  · have c1 := Lib.hid (fun W => refdigit_any x true hd W)
    rw [hd, Bool.true_or] at hb
    subst hb
    clear hd
    generalize x.toNat = n at *
    go_enter Tryd.func58, Tryd.ntmps58
    go_wp2_with fail
    refine (c1.out _).mono ?_
    rintro e w1 ⟨rfl, rfl⟩
    go_wp2
    go_ret
    exact ⟨rfl, rfl⟩
end

section
open Go.RowKit Go.PlainAid
/-- A text of three digits or so, against 010. -/
theorem less_three (l : List UInt8) (h3 : l.length = 3) (h0 : 48 ≤ (l.getD 0 0).toNat) (h1 : 48 ≤ (l.getD 1 0).toNat) (h2 : 48 ≤ (l.getD 2 0).toNat) : Op.bytesLess l [48, 49, 48] = (decide (l.getD 0 0 = 48) && decide (l.getD 1 0 = 48)) := by
  match l, h3 with
  | [a, b, c], _ =>
    have g0 : 48 ≤ a.toNat := h0
    have g1 : 48 ≤ b.toNat := h1
    have g2 : 48 ≤ c.toNat := h2
    have na : ¬ a < 48 := fun k => by have := UInt8.lt_iff_toNat_lt.1 k; simp at this; omega
    have nc : ¬ c < 48 := fun k => by have := UInt8.lt_iff_toNat_lt.1 k; simp at this; omega
    have nb : (b < 49) ↔ b = 48 := by
      rw [UInt8.lt_iff_toNat_lt, ← UInt8.toNat_inj]
      simp
      omega
    show (decide (a < 48) || (a == 48 && (decide (b < 49) || (b == 49 && (decide (c < 48) || (c == 48 && false)))))) = _
    rw [decide_eq_false na, decide_eq_false nc]
    simp [nb]
    rw [show (a == 48) = decide (a = 48) from rfl]
end

section
open Go.RowKit
def strB (x : List UInt8) : Value := .string (S x)
/-- A slice of these texts. -/
def BL (v : Value) (L : List (List UInt8)) (w : World) : Prop :=
  ∃ a cap, v = .slice a L.length cap ∧ L.length ≤ cap ∧ cap ≤ maxLen ∧ (a = none → cap = 0) ∧ ∀ i, i < L.length → ∃ g o, a = some ⟨g, o, none⟩ ∧ g < w.heap.size ∧ w.cell? ⟨g, o + i, none⟩ = some (strB (L.getD i []))
theorem BL.after {v : Value} {L : List (List UInt8)} {w w' : World} (h : BL v L w) (hb : Below w.heap.size w w') : BL v L w' := by
  obtain ⟨a, cap, rfl, hc, hm, hn, hx⟩ := h
  refine ⟨a, cap, rfl, hc, hm, hn, fun i hi => ?_⟩
  obtain ⟨g, o, rfl, hg, hcell⟩ := hx i hi
  exact ⟨g, o, rfl, Nat.lt_of_lt_of_le hg hb.size, (hb.cell (p := ⟨g, o + i, none⟩) hg).trans hcell⟩
theorem own_after {w w' : World} {B e size n : Nat} {v : Value} {xs : List Value} (h : w.ownsRow B e size v n xs) (hb : Below w.heap.size w w') : w'.ownsRow B e size v n xs := by
  refine ⟨h.1, ?_⟩
  rcases h.2 with hn | ⟨g, cap, cur, hv, hB', hg, rest⟩
  · exact .inl hn
  · have hlt : g < w.heap.size := (Array.getElem?_eq_some_iff.1 hg).1
    exact .inr ⟨g, cap, cur, hv, hB', (hb.block g hlt).trans hg, rest⟩
theorem infoString : (Tryd.prog.info? 9).map (fun i => (i.zero, i.size, i.bytes)) = some (some (.string ⟨#[]⟩), 1, 16) := by kernel_rfl
theorem info_string : ∃ i0, Tryd.prog.info? 9 = some i0 ∧ i0.zero = some (.string ⟨#[]⟩) ∧ i0.size = 1 ∧ i0.bytes = 16 := by
  obtain ⟨i0, h0, h2⟩ := Option.map_eq_some_iff.1 infoString
  simp only [Prod.mk.injEq] at h2
  exact ⟨i0, h0, h2.1, h2.2.1, h2.2.2⟩
/-- A slice of texts of the call's own, from block B on, not nil. -/
structure SR (B : Nat) (v : Value) (L : List (List UInt8)) (w : World) : Prop where
  row : w.ownsRow B 9 1 v L.length (L.map strB)
  nn : v ≠ .slice none 0 0
theorem SR.after {B : Nat} {v : Value} {L : List (List UInt8)} {w w' : World} (h : SR B v L w) (hb : Below w.heap.size w w') : SR B v L w' := ⟨own_after h.row hb, h.nn⟩
theorem SR.open {B : Nat} {v : Value} {L : List (List UInt8)} {w : World} (h : SR B v L w) :
    ∃ g cap, v = .slice (some ⟨g, 0, none⟩) L.length cap ∧ B ≤ g ∧ g < w.heap.size ∧ L.length ≤ cap ∧ cap ≤ maxLen ∧ ∀ i, i < L.length → w.cell? ⟨g, i, none⟩ = some (strB (L.getD i [])) := by
  rcases h.row.2 with ⟨h0, _⟩ | ⟨g, cap, cur, rfl, hb, hg, hc, hm, hs, ht⟩
  · exact absurd h0 h.nn
  · refine ⟨g, cap, rfl, hb, (Array.getElem?_eq_some_iff.1 hg).1, hc, hm, fun i hi => ?_⟩
    have := h.row.cells (g := g) rfl i (strB (L.getD i [])) (by rw [List.getElem?_map, List.getElem?_eq_getElem hi, List.getD_eq_getElem?_getD, List.getElem?_eq_getElem hi]; rfl)
    have hadd : (⟨g, 0, none⟩ : Addr).add i = ⟨g, i, none⟩ := by unfold Addr.add; split <;> simp_all
    rwa [hadd] at this
theorem SR.bl {B : Nat} {v : Value} {L : List (List UInt8)} {w : World} (h : SR B v L w) : BL v L w := by
  obtain ⟨g, cap, rfl, _, hg, hc, hm, hx⟩ := h.open
  exact ⟨_, cap, rfl, hc, hm, (fun h => by cases h), fun i hi => ⟨g, 0, rfl, hg, by rw [Nat.zero_add]; exact hx i hi⟩⟩
theorem SR.empty (w : World) : SR w.heap.size (.slice (some ⟨w.heap.size, 0, none⟩) 0 0) [] (w.alloc (.cells #[] 9)) :=
  ⟨⟨rfl, .inr ⟨w.heap.size, 0, #[], rfl, Nat.le_refl _, heap_alloc_new w _, Nat.le_refl _, Nat.zero_le _, rfl, rfl⟩⟩, fun h => by cases h⟩
theorem BL.length {v : Value} {L : List (List UInt8)} {w : World} (h : BL v L w) : ∃ a cap, v = .slice a L.length cap ∧ L.length ≤ cap ∧ cap ≤ maxLen := by
  obtain ⟨a, cap, h1, h2, h3, _⟩ := h
  exact ⟨a, cap, h1, h2, h3⟩
theorem BL.none_or {v : Value} {L : List (List UInt8)} {w : World} (h : BL v L w) : (v = .slice none 0 0 ∧ L = []) ∨ ∃ ad cap, v = .slice (some ad) L.length cap ∧ L.length ≤ cap ∧ cap ≤ maxLen ∧ ∀ j u, (L.map strB)[j]? = some u → w.cell? (ad.add j) = some u := by
  obtain ⟨a, cap, rfl, hc, hm, hn, hx⟩ := h
  cases a with
  | none =>
    obtain rfl := hn rfl
    have hl : L = [] := List.eq_nil_of_length_eq_zero (by omega)
    subst hl
    exact .inl ⟨rfl, rfl⟩
  | some ad =>
    refine .inr ⟨ad, cap, rfl, hc, hm, fun j u hj => ?_⟩
    have hjl : j < L.length := by
      have := (List.getElem?_eq_some_iff.1 hj).1
      rwa [List.length_map] at this
    obtain ⟨g, o, he, _, hcell⟩ := hx j hjl
    obtain rfl := Option.some.inj he
    rw [List.getElem?_map, List.getElem?_eq_getElem hjl] at hj
    rw [List.getD_eq_getElem?_getD, List.getElem?_eq_getElem hjl] at hcell
    have hadd : (⟨g, o, none⟩ : Addr).add j = ⟨g, o + j, none⟩ := by unfold Addr.add; split <;> simp_all
    rw [hadd, hcell]
    exact hj
end

end Go.Proofs.YtceneblmllpdnaaDoor
