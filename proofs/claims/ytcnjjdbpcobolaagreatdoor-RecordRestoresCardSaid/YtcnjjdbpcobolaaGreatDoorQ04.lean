/- Merged: BL, R07C, R07D. -/
import Derived.Test.YtcnjjdbpcobolaaGreatDoorQ01
import Derived.Laws.AppendOwn
import Derived.Test.YtcnjjdbpcobolaaGreatDoorQ03
namespace Go.Proofs.YtcnjjdbpcobolaaGreatDoor

section
open Go.RowKit
def strB (x : List UInt8) : Value := .string (S x)
/-- A slice of these texts. -/
def BL (v : Value) (L : List (List UInt8)) (w : World) : Prop :=
  ∃ a cap, v = .slice a L.length cap ∧ L.length ≤ cap ∧ cap ≤ maxLen ∧ (a = none → cap = 0) ∧ ∀ i, i < L.length → ∃ g o, a = some ⟨g, o, none⟩ ∧ g < w.heap.size ∧ w.cell? ⟨g, o + i, none⟩ = some (strB (L.getD i []))
theorem BL.after {v : Value} {L : List (List UInt8)} {w w' : World} (h : BL v L w) (hb : Below w.heap.size w w') : BL v L w' := by
  obtain ⟨a, cap, rfl, hc, hm, hn, hx⟩ := h
  refine ⟨a, cap, rfl, hc, hm, hn, fun i hi => ?_⟩
  obtain ⟨g, o, rfl, hg, hcell⟩ := hx i hi
  exact ⟨g, o, rfl, Nat.lt_of_lt_of_le hg hb.size, (hb.cell (p := ⟨g, o + i, none⟩) hg).trans hcell⟩
theorem own_after {w w' : World} {B e size n : Nat} {v : Value} {xs : List Value} (h : w.ownsRow B e size v n xs) (hb : Below w.heap.size w w') : w'.ownsRow B e size v n xs := by
  refine ⟨h.1, ?_⟩
  rcases h.2 with hn | ⟨g, cap, cur, hv, hB', hg, rest⟩
  · exact .inl hn
  · have hlt : g < w.heap.size := (Array.getElem?_eq_some_iff.1 hg).1
    exact .inr ⟨g, cap, cur, hv, hB', (hb.block g hlt).trans hg, rest⟩
theorem infoString : (Tryz.prog.info? 9).map (fun i => (i.zero, i.size, i.bytes)) = some (some (.string ⟨#[]⟩), 1, 16) := by kernel_rfl
theorem info_string : ∃ i0, Tryz.prog.info? 9 = some i0 ∧ i0.zero = some (.string ⟨#[]⟩) ∧ i0.size = 1 ∧ i0.bytes = 16 := by
  obtain ⟨i0, h0, h2⟩ := Option.map_eq_some_iff.1 infoString
  simp only [Prod.mk.injEq] at h2
  exact ⟨i0, h0, h2.1, h2.2.1, h2.2.2⟩
/-- A slice of texts of the call's own, from block B on, not nil. -/
structure SR (B : Nat) (v : Value) (L : List (List UInt8)) (w : World) : Prop where
  row : w.ownsRow B 9 1 v L.length (L.map strB)
  nn : v ≠ .slice none 0 0
theorem SR.after {B : Nat} {v : Value} {L : List (List UInt8)} {w w' : World} (h : SR B v L w) (hb : Below w.heap.size w w') : SR B v L w' := ⟨own_after h.row hb, h.nn⟩
theorem SR.open {B : Nat} {v : Value} {L : List (List UInt8)} {w : World} (h : SR B v L w) :
    ∃ g cap, v = .slice (some ⟨g, 0, none⟩) L.length cap ∧ B ≤ g ∧ g < w.heap.size ∧ L.length ≤ cap ∧ cap ≤ maxLen ∧ ∀ i, i < L.length → w.cell? ⟨g, i, none⟩ = some (strB (L.getD i [])) := by
  rcases h.row.2 with ⟨h0, _⟩ | ⟨g, cap, cur, rfl, hb, hg, hc, hm, hs, ht⟩
  · exact absurd h0 h.nn
  · refine ⟨g, cap, rfl, hb, (Array.getElem?_eq_some_iff.1 hg).1, hc, hm, fun i hi => ?_⟩
    have := h.row.cells (g := g) rfl i (strB (L.getD i [])) (by rw [List.getElem?_map, List.getElem?_eq_getElem hi, List.getD_eq_getElem?_getD, List.getElem?_eq_getElem hi]; rfl)
    have hadd : (⟨g, 0, none⟩ : Addr).add i = ⟨g, i, none⟩ := by unfold Addr.add; split <;> simp_all
    rwa [hadd] at this
theorem SR.bl {B : Nat} {v : Value} {L : List (List UInt8)} {w : World} (h : SR B v L w) : BL v L w := by
  obtain ⟨g, cap, rfl, _, hg, hc, hm, hx⟩ := h.open
  exact ⟨_, cap, rfl, hc, hm, (fun h => by cases h), fun i hi => ⟨g, 0, rfl, hg, by rw [Nat.zero_add]; exact hx i hi⟩⟩
theorem SR.empty (w : World) : SR w.heap.size (.slice (some ⟨w.heap.size, 0, none⟩) 0 0) [] (w.alloc (.cells #[] 9)) :=
  ⟨⟨rfl, .inr ⟨w.heap.size, 0, #[], rfl, Nat.le_refl _, heap_alloc_new w _, Nat.le_refl _, Nat.zero_le _, rfl, rfl⟩⟩, fun h => by cases h⟩
theorem BL.length {v : Value} {L : List (List UInt8)} {w : World} (h : BL v L w) : ∃ a cap, v = .slice a L.length cap ∧ L.length ≤ cap ∧ cap ≤ maxLen := by
  obtain ⟨a, cap, h1, h2, h3, _⟩ := h
  exact ⟨a, cap, h1, h2, h3⟩
theorem BL.none_or {v : Value} {L : List (List UInt8)} {w : World} (h : BL v L w) : (v = .slice none 0 0 ∧ L = []) ∨ ∃ ad cap, v = .slice (some ad) L.length cap ∧ L.length ≤ cap ∧ cap ≤ maxLen ∧ ∀ j u, (L.map strB)[j]? = some u → w.cell? (ad.add j) = some u := by
  obtain ⟨a, cap, rfl, hc, hm, hn, hx⟩ := h
  cases a with
  | none =>
    obtain rfl := hn rfl
    have hl : L = [] := List.eq_nil_of_length_eq_zero (by omega)
    subst hl
    exact .inl ⟨rfl, rfl⟩
  | some ad =>
    refine .inr ⟨ad, cap, rfl, hc, hm, fun j u hj => ?_⟩
    have hjl : j < L.length := by
      have := (List.getElem?_eq_some_iff.1 hj).1
      rwa [List.length_map] at this
    obtain ⟨g, o, he, _, hcell⟩ := hx j hjl
    obtain rfl := Option.some.inj he
    rw [List.getElem?_map, List.getElem?_eq_getElem hjl] at hj
    rw [List.getD_eq_getElem?_getD, List.getElem?_eq_getElem hjl] at hcell
    have hadd : (⟨g, o, none⟩ : Addr).add j = ⟨g, o + j, none⟩ := by unfold Addr.add; split <;> simp_all
    rw [hadd, hcell]
    exact hj
end

section
open Go.RowKit Go.PlainAid
set_option maxHeartbeats 8000000 in
theorem refTag_any (l : List UInt8) (b : Bool) (hb : tagB l = b) (w : World) :
    Calls Tryz.prog 68 #[.string (S l)] w fun e w' => e = .returned (.bool b) ∧ w' = w := by
  have hbt := get_bt (S l)
  obtain ⟨n, hn⟩ : ∃ n, l.length = n := ⟨_, rfl⟩
  have hsz : (S l).size = n := by rw [S_size, hn]
  unfold tagB at hb
  by_cases h3 : n = 3
  · rw [hn, decide_eq_true h3, Bool.true_and] at hb
    have hs3 : (S l).size = 3 := by rw [hsz, h3]
    have q0 := bt_S l 0
    have q1 := bt_S l 1
    have q2 := bt_S l 2
    cases h0 : digB (l.getD 0 0)
    · have c0 := Lib.hid (fun W => refdigit_any (l.getD 0 0) false h0 W)
      rw [h0, Bool.false_and, Bool.false_and, Bool.false_and] at hb
      subst hb
      rw [← q0] at c0
      clear q0 q1 q2 h0 hn h3 hsz
      generalize S l = s at *
      go_enter Tryz.func68, Tryz.ntmps68
      go_wp2_with fail
      refine (c0.out _).mono ?_
      rintro e w1 ⟨rfl, rfl⟩
      go_wp2
      go_ret
      exact ⟨rfl, rfl⟩
    have c0 := Lib.hid (fun W => refdigit_any (l.getD 0 0) true h0 W)
    rw [h0, Bool.true_and] at hb
    rw [← q0] at c0
    cases h1 : digB (l.getD 1 0)
    · have c1 := Lib.hid (fun W => refdigit_any (l.getD 1 0) false h1 W)
      rw [h1, Bool.false_and, Bool.false_and] at hb
      subst hb
      rw [← q1] at c1
      clear q0 q1 q2 h0 h1 hn h3 hsz
      generalize S l = s at *
      go_enter Tryz.func68, Tryz.ntmps68
      go_wp2_with fail
      refine (c0.out _).mono ?_
      rintro e w1 ⟨rfl, rfl⟩
      go_wp2_with fail
      refine (c1.out _).mono ?_
      rintro e w1 ⟨rfl, rfl⟩
      go_wp2
      go_ret
      exact ⟨rfl, rfl⟩
    have c1 := Lib.hid (fun W => refdigit_any (l.getD 1 0) true h1 W)
    rw [h1, Bool.true_and] at hb
    rw [← q1] at c1
    cases h2 : digB (l.getD 2 0)
    · have c2 := Lib.hid (fun W => refdigit_any (l.getD 2 0) false h2 W)
      rw [h2, Bool.false_and] at hb
      subst hb
      rw [← q2] at c2
      clear q0 q1 q2 h0 h1 h2 hn h3 hsz
      generalize S l = s at *
      go_enter Tryz.func68, Tryz.ntmps68
      go_wp2_with fail
      refine (c0.out _).mono ?_
      rintro e w1 ⟨rfl, rfl⟩
      go_wp2_with fail
      refine (c1.out _).mono ?_
      rintro e w1 ⟨rfl, rfl⟩
      go_wp2_with fail
      refine (c2.out _).mono ?_
      rintro e w1 ⟨rfl, rfl⟩
      go_wp2
      go_ret
      exact ⟨rfl, rfl⟩
    have c2 := Lib.hid (fun W => refdigit_any (l.getD 2 0) true h2 W)
    rw [h2, Bool.true_and] at hb
    rw [← q2] at c2
    have hl := less_three l (by omega) (((digB_iff _).1 h0).1) (((digB_iff _).1 h1).1) (((digB_iff _).1 h2).1)
    have hle : Op.bytesLess (S l).toList [48, 49, 48] = !b := by
      rw [ByteArray.toList_eq]
      show Op.bytesLess l [48, 49, 48] = !b
      rw [hl, ← hb, Bool.not_not]
    clear q0 q1 q2 h0 h1 h2 hn h3 hsz hl hb
    generalize S l = s at *
    go_enter Tryz.func68, Tryz.ntmps68
    go_wp2_with fail
    refine (c0.out _).mono ?_
    rintro e w1 ⟨rfl, rfl⟩
    go_wp2_with fail
    refine (c1.out _).mono ?_
    rintro e w1 ⟨rfl, rfl⟩
    go_wp2_with fail
    refine (c2.out _).mono ?_
    rintro e w1 ⟨rfl, rfl⟩
    have hge : (binOp BinOp.geq 9 (.string s) (.string ⟨#[48, 49, 48]⟩)).run Tryz.prog w1 = .ok (.bool b) w1 := by
      have e : (⟨#[48, 49, 48]⟩ : ByteArray).toList = [48, 49, 48] := by rw [ByteArray.toList_eq]
      simp [binOp, Op.stringOp, e, hle]
    go_wp2
    go_ret
    exact ⟨rfl, rfl⟩
  · rw [hn, decide_eq_false h3] at hb
    simp only [Bool.false_and] at hb
    subst hb
    have t1 : ((n : Int) == 3) = false := by simp; omega
    clear hn h3
    generalize S l = s at *
    go_enter Tryz.func68, Tryz.ntmps68
    go_wp2
    go_ret
    exact ⟨rfl, rfl⟩
end

section
open Go.RowKit Go.PlainAid
/-- A row of texts of the call's own, nil while it is empty. -/
theorem BL.of_row {B : Nat} {v : Value} {L : List (List UInt8)} {w : World} (h : w.ownsRow B 9 1 v L.length (L.map strB)) : BL v L w := by
  by_cases hn : v = .slice none 0 0
  · subst hn
    rcases h.2 with ⟨_, h0⟩ | ⟨g, cap, cur, e, _⟩
    · have : L = [] := List.eq_nil_of_length_eq_zero h0
      subst this
      exact ⟨none, 0, rfl, Nat.le_refl _, Nat.zero_le _, fun _ => rfl, fun i hi => by cases hi⟩
    · cases e
  · exact SR.bl ⟨h, hn⟩

set_option maxHeartbeats 8000000 in
theorem refAll_any (f : Fld) (u : Value) (w : World) (hu : QL u f.subs w) (codes : List UInt8) (hz : codes.length ≤ 1000000) (hs : f.subs.length ≤ 100000) :
    Calls Tryz.prog 61 #[FV f u, .string (S codes)] w fun e w' => ∃ v', e = .returned v' ∧ BL v' (allL f.subs codes) w' ∧ Below w.heap.size w w' := by
  obtain ⟨a, cap, rfl, hcap, hmax, _, hcell⟩ := hu
  unfold maxLen at hmax
  unfold FV
  obtain ⟨n, hn⟩ : ∃ n, f.subs.length = n := ⟨_, rfl⟩
  have HCell := Lib.hid hcell
  rw [hn] at hcap hs ⊢
  have HN := Lib.hid hn
  clear hcell hn
  have cI := Lib.hid (fun x b hb W => refin_any x codes hz b hb W)
  obtain ⟨W0, hW0⟩ : ∃ W0, w.alloc (.cells #[.string (S f.tag), .string (S f.ind), .slice a n cap, .int .i64 f.auth] 35) = W0 := ⟨_, rfl⟩
  have b0 : Below w.heap.size w W0 := by rw [← hW0]; exact (Below.refl w.heap.size w).alloc (Nat.le_refl _) _
  have k2 : W0.cell? ⟨w.heap.size, 2, none⟩ = some (.slice a n cap) := by rw [← hW0]; simp
  have hlt : w.heap.size < W0.heap.size := by rw [← hW0]; simp
  obtain ⟨i0, hi, hz0, hz1, hz2⟩ := info_string
  have HZ0 := Lib.hid hz0
  have HZ1 := Lib.hid hz1
  have HZ2 := Lib.hid hz2
  have HI := Lib.hid hi
  clear hi hz0 hz1 hz2
  generalize S codes = cs at *
  have HW0 := Lib.hid hW0
  clear hW0
  go_enter Tryz.func61, Tryz.ntmps61
  go_wp2
  rw [HW0.out]
  go_loopw [5, 6] (fun v i wr => ∃ k : Nat, k ≤ n ∧ i = .int .i64 (k : Int) ∧ wr.ownsRow W0.heap.size 9 1 v (allL (f.subs.take k) codes).length ((allL (f.subs.take k) codes).map strB) ∧ Below W0.heap.size W0 wr) (fun _ i _ => n - (intOf i).toNat)
  case atStart => exact ⟨0, Nat.zero_le _, rfl, World.ownsRow_nil _ _ _ _, Below.refl _ _⟩
  case round =>
    obtain ⟨k, hk, rfl, hown, hbw⟩ := hrel
    have j2 := (hbw.cell (p := ⟨w.heap.size, 2, none⟩) hlt).trans k2
    by_cases hkn : k < n
    · obtain ⟨g, o, rfl, hg, c1, c2⟩ := HCell.out k (by rw [HN.out]; exact hkn)
      have hg0 : g < W0.heap.size := by omega
      have c1 : wr.cell? ⟨g, o + k * 2, none⟩ = some (.int .u8 ((f.subs.getD k sub0).1.toNat : Int)) := ((hbw.cell (p := ⟨g, o + k * 2, none⟩) hg0).trans (b0.cell (p := ⟨g, o + k * 2, none⟩) hg)).trans c1
      have c2 : wr.cell? ⟨g, o + k * 2 + 1, none⟩ = some (.string (S (f.subs.getD k sub0).2)) := ((hbw.cell (p := ⟨g, o + k * 2 + 1, none⟩) hg0).trans (b0.cell (p := ⟨g, o + k * 2 + 1, none⟩) hg)).trans c2
      have i1 : (0 : Int) ≤ (k : Int) := by omega
      have i2 : (k : Int) < (n : Int) := by omega
      have hsn := allL_snoc f.subs codes k (by rw [HN.out]; exact hkn)
      have hll : (allL (f.subs.take k) codes).length ≤ k := Nat.le_trans (allL_length _ _) (by rw [List.length_take]; omega)
      have hsz := hbw.size
      generalize allL (f.subs.take k) codes = M at hown hsn hll
      generalize (f.subs.getD k sub0).2 = val at c2 hsn
      generalize (f.subs.getD k sub0).1 = code at c1 hsn
      cases hin : inB code codes
      · have cC := Lib.hid (cI.out code false hin wr)
        rw [hin, if_neg (fun h => by cases h), List.append_nil] at hsn
        have HS := Lib.hid hsn
        have Hbw := Lib.hid hbw
        have HOwn := Lib.hid hown
        clear hsn hin hbw hown c2
        generalize ((code.toNat : Nat) : Int) = y at *
        go_wp2_with fail
        refine (cC.out).mono ?_
        rintro e w5 ⟨rfl, rfl⟩
        go_wp2
        go_roundw
        case rel => exact ⟨k + 1, by omega, by go_num, by rw [HS.out]; exact HOwn.out, Hbw.out⟩
        case measure => simp [intOf]; omega
      · have cC := Lib.hid (cI.out code true hin wr)
        rw [hin, if_pos rfl] at hsn
        have HS := Lib.hid hsn
        have Hbw := Lib.hid hbw
        obtain ⟨m, hm⟩ : ∃ m, M.length = m := ⟨_, rfl⟩
        rw [hm] at hown hll
        have HM := Lib.hid hm
        have hown2 := hown.alloc (.cells #[strB val] 9)
        clear hsn hin hbw hm
        generalize ((code.toNat : Nat) : Int) = y at *
        go_wp2_with fail
        refine (cC.out).mono ?_
        rintro e w5 ⟨rfl, rfl⟩
        go_wp2_with (at_builtin; refine wpList_append_own _ rfl _ _ 45 rfl W0.heap.size 9 i0 (.string ⟨#[]⟩) 1 16 Tryz.underlying45 HI.out HZ0.out HZ1.out HZ2.out rfl (by decide) _ _ _ rfl hown2 ⟨w5.heap.size, 0, none⟩ 1 1 [strB val] rfl rfl (cells_one _ _ _) (by intro u hu; simp at hu; subst hu; rfl) (by unfold maxLen; omega) (by omega) (by simp; omega) ?_; intro v3 w3 hown3 hgrow3 hnil3)
        go_roundw
        case rel =>
          refine ⟨k + 1, by omega, by go_num, ?_, (Hbw.out.alloc (by omega) _).grown hgrow3 (by simp; omega) (fun j hj => (hown2.lt j hj).1)⟩
          rw [HS.out, List.length_append, HM.out, List.map_append]
          exact hown3
        case measure => simp [intOf]; omega
    · obtain rfl : k = n := by omega
      have hT : f.subs.take k = f.subs := by rw [← HN.out, List.take_length]
      rw [hT] at hown
      have hbl := BL.of_row hown
      have HBL := Lib.hid hbl
      have Fin := Lib.hid (b0.trans (hbw.mono b0.size))
      clear hown hbw hbl hT
      go_wp2
      go_ret
      exact ⟨_, rfl, HBL.out, Fin.out⟩
end

end Go.Proofs.YtcnjjdbpcobolaaGreatDoor
