/- libraryref07: All. -/
import Derived.Test.YtjajihemcaihmaaDoorR07C
namespace Go.Proofs.YtjajihemcaihmaaDoor
open Go.RowKit Go.PlainAid

/-- A row of texts of the call's own, nil while it is empty. -/
theorem BL.of_row {B : Nat} {v : Value} {L : List (List UInt8)} {w : World} (h : w.ownsRow B 9 1 v L.length (L.map strB)) : BL v L w := by
  by_cases hn : v = .slice none 0 0
  · subst hn
    rcases h.2 with ⟨_, h0⟩ | ⟨g, cap, cur, e, _⟩
    · have : L = [] := List.eq_nil_of_length_eq_zero h0
      subst this
      exact ⟨none, 0, rfl, Nat.le_refl _, Nat.zero_le _, fun _ => rfl, fun i hi => by cases hi⟩
    · cases e
  · exact SR.bl ⟨h, hn⟩

set_option maxHeartbeats 8000000 in
theorem refAll_any (f : Fld) (u : Value) (w : World) (hu : QL u f.subs w) (codes : List UInt8) (hz : codes.length ≤ 1000000) (hs : f.subs.length ≤ 100000) :
    Calls Tryd.prog 19 #[FV f u, .string (S codes)] w fun e w' => ∃ v', e = .returned v' ∧ BL v' (allL f.subs codes) w' ∧ Below w.heap.size w w' := by
  obtain ⟨a, cap, rfl, hcap, hmax, _, hcell⟩ := hu
  unfold maxLen at hmax
  unfold FV
  obtain ⟨n, hn⟩ : ∃ n, f.subs.length = n := ⟨_, rfl⟩
  have HCell := Lib.hid hcell
  rw [hn] at hcap hs ⊢
  have HN := Lib.hid hn
  clear hcell hn
  have cI := Lib.hid (fun x b hb W => refin_any x codes hz b hb W)
  obtain ⟨W0, hW0⟩ : ∃ W0, w.alloc (.cells #[.string (S f.tag), .string (S f.ind), .slice a n cap, .int .i64 f.auth] 24) = W0 := ⟨_, rfl⟩
  have b0 : Below w.heap.size w W0 := by rw [← hW0]; exact (Below.refl w.heap.size w).alloc (Nat.le_refl _) _
  have k2 : W0.cell? ⟨w.heap.size, 2, none⟩ = some (.slice a n cap) := by rw [← hW0]; simp
  have hlt : w.heap.size < W0.heap.size := by rw [← hW0]; simp
  obtain ⟨i0, hi, hz0, hz1, hz2⟩ := info_string
  have HZ0 := Lib.hid hz0
  have HZ1 := Lib.hid hz1
  have HZ2 := Lib.hid hz2
  have HI := Lib.hid hi
  clear hi hz0 hz1 hz2
  generalize S codes = cs at *
  have HW0 := Lib.hid hW0
  clear hW0
  go_enter Tryd.func19, Tryd.ntmps19
  go_wp2
  rw [HW0.out]
  go_loopw [5, 6] (fun v i wr => ∃ k : Nat, k ≤ n ∧ i = .int .i64 (k : Int) ∧ wr.ownsRow W0.heap.size 9 1 v (allL (f.subs.take k) codes).length ((allL (f.subs.take k) codes).map strB) ∧ Below W0.heap.size W0 wr) (fun _ i _ => n - (intOf i).toNat)
  case atStart => exact ⟨0, Nat.zero_le _, rfl, World.ownsRow_nil _ _ _ _, Below.refl _ _⟩
  case round =>
    obtain ⟨k, hk, rfl, hown, hbw⟩ := hrel
    have j2 := (hbw.cell (p := ⟨w.heap.size, 2, none⟩) hlt).trans k2
    by_cases hkn : k < n
    · obtain ⟨g, o, rfl, hg, c1, c2⟩ := HCell.out k (by rw [HN.out]; exact hkn)
      have hg0 : g < W0.heap.size := by omega
      have c1 : wr.cell? ⟨g, o + k * 2, none⟩ = some (.int .u8 ((f.subs.getD k sub0).1.toNat : Int)) := ((hbw.cell (p := ⟨g, o + k * 2, none⟩) hg0).trans (b0.cell (p := ⟨g, o + k * 2, none⟩) hg)).trans c1
      have c2 : wr.cell? ⟨g, o + k * 2 + 1, none⟩ = some (.string (S (f.subs.getD k sub0).2)) := ((hbw.cell (p := ⟨g, o + k * 2 + 1, none⟩) hg0).trans (b0.cell (p := ⟨g, o + k * 2 + 1, none⟩) hg)).trans c2
      have i1 : (0 : Int) ≤ (k : Int) := by omega
      have i2 : (k : Int) < (n : Int) := by omega
      have hsn := allL_snoc f.subs codes k (by rw [HN.out]; exact hkn)
      have hll : (allL (f.subs.take k) codes).length ≤ k := Nat.le_trans (allL_length _ _) (by rw [List.length_take]; omega)
      have hsz := hbw.size
      generalize allL (f.subs.take k) codes = M at hown hsn hll
      generalize (f.subs.getD k sub0).2 = val at c2 hsn
      generalize (f.subs.getD k sub0).1 = code at c1 hsn
      cases hin : inB code codes
      · have cC := Lib.hid (cI.out code false hin wr)
        rw [hin, if_neg (fun h => by cases h), List.append_nil] at hsn
        have HS := Lib.hid hsn
        have Hbw := Lib.hid hbw
        have HOwn := Lib.hid hown
        clear hsn hin hbw hown c2
        generalize ((code.toNat : Nat) : Int) = y at *
        go_wp2_with fail
        refine (cC.out).mono ?_
        rintro e w5 ⟨rfl, rfl⟩
        go_wp2
        go_roundw
        case rel => exact ⟨k + 1, by omega, by go_num, by rw [HS.out]; exact HOwn.out, Hbw.out⟩
        case measure => simp [intOf]; omega
      · have cC := Lib.hid (cI.out code true hin wr)
        rw [hin, if_pos rfl] at hsn
        have HS := Lib.hid hsn
        have Hbw := Lib.hid hbw
        obtain ⟨m, hm⟩ : ∃ m, M.length = m := ⟨_, rfl⟩
        rw [hm] at hown hll
        have HM := Lib.hid hm
        have hown2 := hown.alloc (.cells #[strB val] 9)
        clear hsn hin hbw hm
        generalize ((code.toNat : Nat) : Int) = y at *
        go_wp2_with fail
        refine (cC.out).mono ?_
        rintro e w5 ⟨rfl, rfl⟩
        go_wp2_with (at_builtin; refine wpList_append_own _ rfl _ _ 33 rfl W0.heap.size 9 i0 (.string ⟨#[]⟩) 1 16 Tryd.underlying33 HI.out HZ0.out HZ1.out HZ2.out rfl (by decide) _ _ _ rfl hown2 ⟨w5.heap.size, 0, none⟩ 1 1 [strB val] rfl rfl (cells_one _ _ _) (by intro u hu; simp at hu; subst hu; rfl) (by unfold maxLen; omega) (by omega) (by simp; omega) ?_; intro v3 w3 hown3 hgrow3 hnil3)
        go_roundw
        case rel =>
          refine ⟨k + 1, by omega, by go_num, ?_, (Hbw.out.alloc (by omega) _).grown hgrow3 (by simp; omega) (fun j hj => (hown2.lt j hj).1)⟩
          rw [HS.out, List.length_append, HM.out, List.map_append]
          exact hown3
        case measure => simp [intOf]; omega
    · obtain rfl : k = n := by omega
      have hT : f.subs.take k = f.subs := by rw [← HN.out, List.take_length]
      rw [hT] at hown
      have hbl := BL.of_row hown
      have HBL := Lib.hid hbl
      have Fin := Lib.hid (b0.trans (hbw.mono b0.size))
      clear hown hbw hbl hT
      go_wp2
      go_ret
      exact ⟨_, rfl, HBL.out, Fin.out⟩
end Go.Proofs.YtjajihemcaihmaaDoor
