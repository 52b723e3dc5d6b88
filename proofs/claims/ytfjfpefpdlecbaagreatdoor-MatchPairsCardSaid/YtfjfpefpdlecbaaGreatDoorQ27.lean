/- Merged: FE07. -/
import Derived.Test.YtfjfpefpdlecbaaGreatDoorQ26
import Derived.Test.YtfjfpefpdlecbaaGreatDoorQ22
namespace Go.Proofs.YtfjfpefpdlecbaaGreatDoor

section
open Go.RowKit Go.PlainAid
/-- A function value that looks for codes. -/
def CA (codes : List UInt8) (v : Value) (W : World) : Prop :=
  ∃ b, v = .func (.func 57) #[] #[.pointer (some ⟨b, 0, none⟩)] ∧ b < W.heap.size ∧ W.cell? ⟨b, 0, none⟩ = some (.string (S codes))
theorem CA.after {c : List UInt8} {v : Value} {W W' : World} (h : CA c v W) (hb : Below W.heap.size W W') : CA c v W' := by
  obtain ⟨b, rfl, h1, h2⟩ := h
  exact ⟨b, rfl, Nat.lt_of_lt_of_le h1 hb.size, (hb.cell (p := ⟨b, 0, none⟩) h1).trans h2⟩

set_option maxHeartbeats 4000000 in
theorem allIn_any (codes : List UInt8) (s : Sub) (b : Nat) (w : World) (hb : b < w.heap.size) (hc : w.cell? ⟨b, 0, none⟩ = some (.string (S codes))) (r : Bool) (hr : inB s.1 codes = r) :
    Calls Tryz.prog 57 #[.agg #[.int .u8 (s.1.toNat : Int), .string (S s.2)], .pointer (some ⟨b, 0, none⟩)] w fun e w' => e = .returned (.bool r) ∧ Below w.heap.size w w' := by
  have b0 := (Below.refl w.heap.size w).alloc (Nat.le_refl _) (.cells #[.int .u8 (s.1.toNat : Int), .string (S s.2)] 70)
  have hc' := (b0.cell (p := ⟨b, 0, none⟩) hb).trans hc
  have hne : b ≠ w.heap.size := Nat.ne_of_lt hb
  by_cases h0 : codes = []
  · subst h0
    obtain rfl : r = true := by rw [← hr]; unfold inB; simp
    have hE : (S []).toList.isEmpty = true := by rw [ByteArray.toList_eq]; rfl
    have hE2 : (S []).toList = [] := by rw [ByteArray.toList_eq]; rfl
    clear hr hc
    generalize S [] = cs at *
    generalize ((s.1.toNat : Nat) : Int) = x at *
    generalize S s.2 = t at *
    go_enter Tryz.func57, Tryz.ntmps57
    go_wp2
    go_ret
    exact ⟨rfl, b0⟩
  · obtain ⟨hE, hE2⟩ := S_facts codes h0
    have cI := Lib.hid (fun W => cIndex codes s.1 W)
    have hrr : decide (0 ≤ Lib.indexByte codes s.1) = r := by
      rw [index_in, ← hr]
      unfold inB
      rw [decide_eq_false h0, Bool.or_false]
    clear hr hc h0
    generalize Lib.indexByte codes s.1 = ix at *
    generalize S codes = cs at *
    generalize ((s.1.toNat : Nat) : Int) = x at *
    generalize S s.2 = t at *
    go_enter Tryz.func57, Tryz.ntmps57
    go_wp2_with fail
    refine (cI.out _).mono ?_
    rintro e w1 ⟨rfl, rfl⟩
    go_wp2
    go_ret
    exact ⟨rfl, b0⟩

theorem nr_base15 {B B' : Nat} {v : Value} {L : List (List UInt8)} {w : World} (h : NR B' v L w) (hB : B ≤ B') : NR B v L w := by
  refine ⟨h.1, ?_⟩
  rcases h.2 with h0 | ⟨g, cap, cur, hv, hb, rest⟩
  · exact .inl h0
  · exact .inr ⟨g, cap, cur, hv, Nat.le_trans hB hb, rest⟩

set_option maxHeartbeats 8000000 in
set_option maxRecDepth 100000 in
theorem values_any (f : Fld) (u fv : Value) (w : World) (hu : QL u f.subs w) (codes : List UInt8) (hf : CA codes fv w) (hs : f.subs.length ≤ 100000) :
    Calls Tryz.prog 56 #[FV f u, fv] w fun e w' => ∃ v', e = .returned v' ∧ NR w.heap.size v' (allL f.subs codes) w' ∧ Below w.heap.size w w' := by
  obtain ⟨a, cap, rfl, hcap, hmax, _, hcell⟩ := hu
  obtain ⟨bc, rfl, hbc, hbcell⟩ := hf
  unfold maxLen at hmax
  unfold FV
  obtain ⟨n, hn⟩ : ∃ n, f.subs.length = n := ⟨_, rfl⟩
  have HCell := Lib.hid hcell
  rw [hn] at hcap hs ⊢
  have HN := Lib.hid hn
  clear hcell hn
  obtain ⟨W0, hW0⟩ : ∃ W0, w.alloc (.cells #[.string (S f.tag), .string (S f.ind), .slice a n cap, .int .i64 f.auth] 57) = W0 := ⟨_, rfl⟩
  have b0 : Below w.heap.size w W0 := by rw [← hW0]; exact (Below.refl w.heap.size w).alloc (Nat.le_refl _) _
  have k2 : W0.cell? ⟨w.heap.size, 2, none⟩ = some (.slice a n cap) := by rw [← hW0]; simp
  have hbc0 : bc < W0.heap.size := Nat.lt_of_lt_of_le hbc b0.size
  have hbcell0 := (b0.cell (p := ⟨bc, 0, none⟩) hbc).trans hbcell
  have cI := Lib.hid (fun (s : Sub) (W : World) (h : Below W0.heap.size W0 W) r hr => allIn_any codes s bc W (Nat.lt_of_lt_of_le hbc0 h.size) ((h.cell (p := ⟨bc, 0, none⟩) hbc0).trans hbcell0) r hr)
  clear hbcell hbcell0
  obtain ⟨i0, hi, hz0, hz1, hz2⟩ := info_string
  have HZ0 := Lib.hid hz0
  have HZ1 := Lib.hid hz1
  have HZ2 := Lib.hid hz2
  have HI := Lib.hid hi
  clear hi hz0 hz1 hz2
  have HW0 := Lib.hid hW0
  clear hW0
  go_enter Tryz.func56, Tryz.ntmps56
  go_wp2
  rw [HW0.out]
  go_loopw [5, 11] (fun v i wr => ∃ k : Nat, k ≤ n ∧ i = .int .i64 (k : Int) ∧ wr.ownsRow W0.heap.size 9 1 v (allL (f.subs.take k) codes).length ((allL (f.subs.take k) codes).map strB) ∧ Below W0.heap.size W0 wr) (fun _ i _ => n - (intOf i).toNat)
  case atStart => exact ⟨0, Nat.zero_le _, rfl, World.ownsRow_nil _ _ _ _, Below.refl _ _⟩
  case round =>
    obtain ⟨k, hk, rfl, hown, hbw⟩ := hrel
    by_cases hkn : k < n
    · obtain ⟨g, o, rfl, hg, c1, c2⟩ := HCell.out k (by rw [HN.out]; exact hkn)
      have hg0 : g < W0.heap.size := Nat.lt_of_lt_of_le hg b0.size
      have c1 : wr.cell? ⟨g, o + k * 2, none⟩ = some (.int .u8 ((f.subs.getD k sub0).1.toNat : Int)) := ((hbw.cell (p := ⟨g, o + k * 2, none⟩) hg0).trans (b0.cell (p := ⟨g, o + k * 2, none⟩) hg)).trans c1
      have c2 : wr.cell? ⟨g, o + k * 2 + 1, none⟩ = some (.string (S (f.subs.getD k sub0).2)) := ((hbw.cell (p := ⟨g, o + k * 2 + 1, none⟩) hg0).trans (b0.cell (p := ⟨g, o + k * 2 + 1, none⟩) hg)).trans c2
      have i1 : (0 : Int) ≤ (k : Int) := by omega
      have i2 : (k : Int) < (n : Int) := by omega
      have hsn := allL_snoc f.subs codes k (by rw [HN.out]; exact hkn)
      have hll : (allL (f.subs.take k) codes).length ≤ k := Nat.le_trans (allL_length _ _) (by rw [List.length_take]; omega)
      have hsz := hbw.size
      have cI2 := Lib.hid (fun W h r hr => cI.out (f.subs.getD k sub0) W h r hr)
      generalize allL (f.subs.take k) codes = M at hown hsn hll
      generalize f.subs.getD k sub0 = sb at c1 c2 hsn cI2
      have ha := hbw.alloc hsz (.cells #[.int .u8 (sb.1.toNat : Int), .string (S sb.2)] 70)
      have hown1 := hown.alloc (.cells #[.int .u8 (sb.1.toNat : Int), .string (S sb.2)] 70)
      obtain ⟨wa, hwa⟩ : ∃ wa, wr.alloc (.cells #[.int .u8 (sb.1.toNat : Int), .string (S sb.2)] 70) = wa := ⟨_, rfl⟩
      have hbx : wa.cell? ⟨wr.heap.size, 0, none⟩ = some (.int .u8 (sb.1.toNat : Int)) ∧ wa.cell? ⟨wr.heap.size, 1, none⟩ = some (.string (S sb.2)) ∧ wr.heap.size < wa.heap.size := by rw [← hwa]; simp
      rw [hwa] at ha hown1
      have HWA := Lib.hid hwa
      have HA := Lib.hid ha
      have HBX := Lib.hid hbx
      have HOwn1 := Lib.hid hown1
      clear hwa ha hbx hown hown1
      cases hin : inB sb.1 codes
      · have cC := cI2.out wa HA.out false hin
        rw [hin, if_neg (fun h => by cases h), List.append_nil] at hsn
        have HS := Lib.hid hsn
        clear hsn hin hbw
        generalize ((sb.1.toNat : Nat) : Int) = y at *
        generalize S sb.2 = x at *
        go_wp2_with fail
        rw [HWA.out]
        refine cC.mono ?_
        rintro e w5 ⟨rfl, hb5⟩
        have hb6 := HA.out.trans (hb5.mono HA.out.size)
        have hown5 := own_after HOwn1.out hb5
        go_wp2
        go_roundw
        case rel => exact ⟨k + 1, by omega, by go_num, by rw [HS.out]; exact hown5, hb6⟩
        case measure => simp [intOf]; omega
      · have cC := cI2.out wa HA.out true hin
        rw [hin, if_pos rfl] at hsn
        have HS := Lib.hid hsn
        obtain ⟨m, hm⟩ : ∃ m, M.length = m := ⟨_, rfl⟩
        obtain ⟨val, hval⟩ : ∃ val, sb.2 = val := ⟨_, rfl⟩
        rw [hval] at cC HS HBX HWA
        have HM := Lib.hid hm
        rw [hm] at hll
        clear hsn hin hbw hm
        rw [hval] at c2
        clear hval
        generalize ((sb.1.toNat : Nat) : Int) = y at *
        go_wp2_with fail
        rw [HWA.out]
        refine cC.mono ?_
        rintro e w5 ⟨rfl, hb5⟩
        have hb6 := HA.out.trans (hb5.mono HA.out.size)
        have hown5 := own_after HOwn1.out hb5
        rw [HM.out] at hown5
        have hown2 := hown5.alloc (.cells #[strB val] 9)
        have e1 := (hb5.cell (p := ⟨wr.heap.size, 1, none⟩) HBX.out.2.2).trans HBX.out.2.1
        have hsz6 := hb6.size
        clear hb5 hown5 c1 c2
        go_wp2_with (at_builtin; refine wpList_append_own _ rfl _ _ 36 rfl W0.heap.size 9 i0 (.string ⟨#[]⟩) 1 16 Tryz.underlying36 HI.out HZ0.out HZ1.out HZ2.out rfl (by decide) _ _ _ rfl hown2 ⟨w5.heap.size, 0, none⟩ 1 1 [strB val] rfl rfl (cells_one _ _ _) (by intro u hu; simp at hu; subst hu; rfl) (by unfold maxLen; omega) (by omega) (by simp; omega) ?_; intro v3 w3 hown3 hgrow3 hnil3)
        go_roundw
        case rel =>
          refine ⟨k + 1, by omega, by go_num, ?_, (hb6.alloc hsz6 _).grown hgrow3 (by simp; omega) (fun j hj => (hown2.lt j hj).1)⟩
          rw [HS.out, List.length_append, HM.out, List.map_append]
          exact hown3
        case measure => simp [intOf]; omega
    · obtain rfl : k = n := by omega
      have hT : f.subs.take k = f.subs := by rw [← HN.out, List.take_length]
      rw [hT] at hown
      have hbl := nr_base15 (show NR W0.heap.size _ (allL f.subs codes) _ from hown) b0.size
      have HBL := Lib.hid hbl
      have Fin := Lib.hid (b0.trans (hbw.mono b0.size))
      clear hown hbw hbl hT
      go_wp2
      go_ret
      exact ⟨_, rfl, HBL.out, Fin.out⟩

set_option maxHeartbeats 4000000 in
theorem fAll_any (f : Fld) (u : Value) (w : World) (hu : QL u f.subs w) (codes : List UInt8) (hs : f.subs.length ≤ 100000) :
    Calls Tryz.prog 37 #[FV f u, .string (S codes)] w fun e w' => ∃ v', e = .returned v' ∧ NR w.heap.size v' (allL f.subs codes) w' ∧ Below w.heap.size w w' := by
  have b1 := (Below.refl w.heap.size w).alloc (Nat.le_refl _) (.cells #[.string (S f.tag), .string (S f.ind), u, .int .i64 f.auth] 57)
  have b2 := b1.alloc b1.size (.cells #[.string (S codes)] 9)
  obtain ⟨a, cap, rfl, _, _⟩ := hu.length
  obtain ⟨W0, hW0⟩ : ∃ W0, (w.alloc (.cells #[.string (S f.tag), .string (S f.ind), .slice a f.subs.length cap, .int .i64 f.auth] 57)).alloc (.cells #[.string (S codes)] 9) = W0 := ⟨_, rfl⟩
  have k0 : W0.cell? ⟨w.heap.size, 0, none⟩ = some (.string (S f.tag)) := by rw [← hW0]; simp
  have k1 : W0.cell? ⟨w.heap.size, 1, none⟩ = some (.string (S f.ind)) := by rw [← hW0]; simp
  have k2 : W0.cell? ⟨w.heap.size, 2, none⟩ = some (.slice a f.subs.length cap) := by rw [← hW0]; simp
  have k3 : W0.cell? ⟨w.heap.size, 3, none⟩ = some (.int .i64 f.auth) := by rw [← hW0]; simp
  have hca : CA codes (.func (.func 57) #[] #[.pointer (some ⟨w.heap.size + 1, 0, none⟩)]) W0 := by
    rw [← hW0]
    exact ⟨w.heap.size + 1, rfl, by simp, by simp⟩
  rw [hW0] at b2
  have cV := values_any f _ _ W0 (hu.after b2) codes hca hs
  have HB2s := Lib.hid b2.size
  unfold FV at cV ⊢
  have HW0 := Lib.hid hW0
  clear hW0 hca b1 hu
  generalize f.subs.length = n at *
  go_enter Tryz.func37, Tryz.ntmps37
  go_wp2_with fail
  rw [HW0.out]
  refine cV.mono ?_
  rintro e w1 ⟨v', rfl, h1, h2⟩
  have b3 := b2.trans (h2.mono b2.size)
  go_wp2
  go_ret
  exact ⟨_, rfl, nr_base15 h1 HB2s.out, b3⟩
end

end Go.Proofs.YtfjfpefpdlecbaaGreatDoor
