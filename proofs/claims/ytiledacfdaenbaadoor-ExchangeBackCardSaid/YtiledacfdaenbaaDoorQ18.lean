/- Merged: PA08, GA10, BuildS. -/
import Derived.Test.YtiledacfdaenbaaDoorQ15
import Derived.Test.YtiledacfdaenbaaDoorQ17
import Derived.Test.YtiledacfdaenbaaDoorQ11
import Derived.Test.YtiledacfdaenbaaDoorQ13
import Derived.Lib.Builder
import Derived.Test.YtiledacfdaenbaaDoorShelf
import Derived.Lib.FrozenHead2
import Derived.Lib.OthersKept
import Derived.Test.YtiledacfdaenbaaDoorQ01
import Derived.Lib.AppendStr
import Derived.WalkKit
import Derived.BigCall
namespace Go.Proofs.YtiledacfdaenbaaDoor

section
open Go.RowKit Go.PlainAid
theorem lang_bad (l : List UInt8) (k : Nat) (hk : k < l.length) (h : lowB (l.getD k 0) = false) : langB l = false := by
  unfold langB
  by_cases h3 : l.length = 3
  · rw [h3] at hk
    match k, hk, h with
    | 0, _, h => rw [h]; simp
    | 1, _, h => rw [h]; simp
    | 2, _, h => rw [h]; simp
  · rw [decide_eq_false h3]; simp
theorem lang_all (l : List UInt8) (h : ∀ j, j < l.length → lowB (l.getD j 0) = true) : langB l = decide (l.length = 3) := by
  unfold langB
  by_cases h3 : l.length = 3
  · rw [h 0 (by omega), h 1 (by omega), h 2 (by omega)]; simp
  · rw [decide_eq_false h3]; simp
theorem low_nat (x : UInt8) : lowB x = (!(decide ((x.toNat : Int) < 97)) && !(decide ((122 : Int) < (x.toNat : Int)))) := by
  unfold lowB
  rw [← decide_not, ← decide_not]
  congr 1
  · rw [decide_eq_decide]; omega
  · rw [decide_eq_decide]; omega

set_option maxHeartbeats 8000000 in
theorem language_any (l : List UInt8) (b : Bool) (hz : l.length ≤ maxLen) (hb : langB l = b) (w : World) :
    Calls Tryd.prog 33 #[.string (S l)] w fun e w' => e = .returned (.bool b) ∧ w' = w := by
  unfold maxLen at hz
  obtain ⟨n, hn⟩ : ∃ n, l.length = n := ⟨_, rfl⟩
  have hsz : (S l).size = n := by rw [S_size, hn]
  have hbt := get_bt (S l)
  have HBS := Lib.hid (fun i => bt_S l i)
  have HBad := Lib.hid (fun k (hk : k < n) h => (lang_bad l k (by omega) h).symm.trans hb)
  have HAll : RowKit.Hid ((∀ j, j < n → lowB (l.getD j 0) = true) → decide (n = 3) = b) := by
    intro h
    rw [← hb, lang_all l (by rw [hn]; exact h), hn]
  rw [hn] at hz
  clear hn hb
  generalize S l = s at *
  go_enter Tryd.func33, Tryd.ntmps33
  go_wp2
  go_loopw [6] (fun i wr => ∃ k : Nat, k ≤ n ∧ i = .int .i64 (k : Int) ∧ RowKit.Hid (∀ j, j < k → lowB (l.getD j 0) = true) ∧ w = wr) (fun i _ => n - (intOf i).toNat)
  case atStart => exact ⟨0, Nat.zero_le _, rfl, (fun j hj => by omega), rfl⟩
  case round =>
    obtain ⟨k, hk, rfl, HJ, rfl⟩ := hrel
    by_cases hkn : k < n
    · have i1 : (0 : Int) ≤ (k : Int) := by omega
      have i2 : (k : Int) < (n : Int) := by omega
      have hbk := HBS.out k
      have hlow := low_nat (l.getD k 0)
      have HBk := Lib.hid (HBad.out k hkn)
      have HJ2 : RowKit.Hid (lowB (l.getD k 0) = true → ∀ j, j < k + 1 → lowB (l.getD j 0) = true) := by
        intro h0 j hj
        rcases Nat.lt_or_ge j k with h | h
        · exact HJ.out j h
        · rw [show j = k by omega]; exact h0
      generalize lowB (l.getD k 0) = lo at *
      generalize (l.getD k 0).toNat = m at *
      by_cases h1 : (m : Int) < 97
      · have t1 : decide ((m : Int) < 97) = true := decide_eq_true h1
        rw [t1] at hlow
        obtain rfl : false = b := HBk.out (by rw [hlow]; rfl)
        clear hlow HJ HJ2 h1
        go_wp2
        go_ret
        exact ⟨rfl, rfl⟩
      · have t1 : decide ((m : Int) < 97) = false := decide_eq_false h1
        rw [t1] at hlow
        by_cases h2 : (122 : Int) < (m : Int)
        · have t2 : decide ((122 : Int) < (m : Int)) = true := decide_eq_true h2
          rw [t2] at hlow
          obtain rfl : false = b := HBk.out (by rw [hlow]; rfl)
          clear hlow HJ HJ2 h1 h2
          go_wp2
          go_ret
          exact ⟨rfl, rfl⟩
        · have t2 : decide ((122 : Int) < (m : Int)) = false := decide_eq_false h2
          rw [t2] at hlow
          have HJ3 := Lib.hid (HJ2.out (by rw [hlow]; rfl))
          clear hlow HJ HJ2 h1 h2
          go_wp2
          go_roundw
          case rel => exact ⟨k + 1, by omega, by go_num, HJ3, trivial⟩
          case measure => simp [intOf]; omega
    · obtain rfl : k = n := by omega
      have hB := HAll.out HJ.out
      have t1 : decide ((k : Int) = 3) = b := by rw [← hB, decide_eq_decide]; omega
      have t2 : ((k : Int) == 3) = b := by rw [← t1]; exact Bool.eq_iff_iff.2 (by simp)
      clear HJ hB
      go_wp2
      go_ret
      exact ⟨rfl, rfl⟩

set_option maxHeartbeats 16000000 in
theorem pRight_any (r : Rec) (u : Value) (w : World) (hE : Env w) (hu : FL u r.fields w) (hlz : r.lang.length ≤ maxLen) (hz : ∀ i, i < r.fields.length → ∀ j, j < (r.fields.getD i fd0).subs.length → ((r.fields.getD i fd0).subs.getD j sub0).2.length ≤ 1000000) (er : Int) (hb : rightRI r = er) :
    Calls Tryd.prog 22 #[RV r u] w fun e w' => e = .returned (.int .i64 er) ∧ Below w.heap.size w w' := by
  have HU := Lib.hid hu
  obtain ⟨a, cap, rfl, hcap, hmax⟩ := hu.length
  unfold maxLen at hmax
  unfold RV
  unfold rightRI at hb
  have HHit := Lib.hid (firstFE_hit r.fields)
  have HMiss := Lib.hid (firstFE_miss r.fields)
  have cL := Lib.hid (fun b hb W => language_any r.lang b hlz hb W)
  have cR := Lib.hid (fun k x W hEW hx hzz e he => fRight_any (r.fields.getD k fd0) x W hEW hx hzz e he)
  unfold FV at cR
  generalize firstFE r.fields = fe at *
  obtain ⟨lb, hlb⟩ : ∃ lb, langB r.lang = lb := ⟨_, rfl⟩
  rw [hlb] at hb
  have cL := Lib.hid (fun W => cL.out lb hlb W)
  clear hlb
  obtain ⟨n, hn⟩ : ∃ n, r.fields.length = n := ⟨_, rfl⟩
  rw [hn] at hcap hb HU ⊢
  have HN := Lib.hid hn
  have HZ := Lib.hid hz
  obtain ⟨W0, hW0⟩ : ∃ W0, w.alloc (.cells #[.int .i64 r.id, .int .i64 r.ver, .int .i64 r.kind, .string (S r.lang), .slice a n cap] 24) = W0 := ⟨_, rfl⟩
  have b0 : Below w.heap.size w W0 := by rw [← hW0]; exact (Below.refl w.heap.size w).alloc (Nat.le_refl _) _
  have hlt : w.heap.size < W0.heap.size := by rw [← hW0]; simp
  have k0 : W0.cell? ⟨w.heap.size, 0, none⟩ = some (.int .i64 r.id) := by rw [← hW0]; simp
  have k1 : W0.cell? ⟨w.heap.size, 1, none⟩ = some (.int .i64 r.ver) := by rw [← hW0]; simp
  have k2 : W0.cell? ⟨w.heap.size, 2, none⟩ = some (.int .i64 r.kind) := by rw [← hW0]; simp
  have k3 : W0.cell? ⟨w.heap.size, 3, none⟩ = some (.string (S r.lang)) := by rw [← hW0]; simp
  have k4 : W0.cell? ⟨w.heap.size, 4, none⟩ = some (.slice a n cap) := by rw [← hW0]; simp
  have HW0 := Lib.hid hW0
  have HU0 := Lib.hid (HU.out.after b0)
  have HE0 := Lib.hid (hE.after b0)
  clear hn hW0 hu HU hz hE hlz
  generalize S r.lang = st at *
  generalize r.id = vi at *
  generalize r.ver = vv at *
  generalize r.kind = vk at *
  by_cases h0 : vi < 0 ∨ 9999 < vi
  · rw [if_pos h0] at hb
    subst hb
    rcases h0 with h0 | h0
    · have d0 : decide (vi < 0) = true := decide_eq_true h0
      clear h0
      go_enter Tryd.func22, Tryd.ntmps22
      go_wp2
      go_ret
      rw [HW0.out]
      exact ⟨rfl, b0⟩
    · have d0 : decide (vi < 0) = false := decide_eq_false (by omega)
      have d1 : decide (9999 < vi) = true := decide_eq_true h0
      clear h0
      go_enter Tryd.func22, Tryd.ntmps22
      go_wp2
      go_ret
      rw [HW0.out]
      exact ⟨rfl, b0⟩
  rw [if_neg h0] at hb
  have d0 : decide (vi < 0) = false := decide_eq_false (by omega)
  have d1 : decide (9999 < vi) = false := decide_eq_false (by omega)
  clear h0
  by_cases h1 : vv < 1 ∨ 3 < vv
  · rw [if_pos h1] at hb
    subst hb
    rcases h1 with h0 | h0
    · have d2 : decide (vv < 1) = true := decide_eq_true h0
      clear h0
      go_enter Tryd.func22, Tryd.ntmps22
      go_wp2
      go_ret
      rw [HW0.out]
      exact ⟨rfl, b0⟩
    · have d2 : decide (vv < 1) = false := decide_eq_false (by omega)
      have d3 : decide (3 < vv) = true := decide_eq_true h0
      clear h0
      go_enter Tryd.func22, Tryd.ntmps22
      go_wp2
      go_ret
      rw [HW0.out]
      exact ⟨rfl, b0⟩
  rw [if_neg h1] at hb
  have d2 : decide (vv < 1) = false := decide_eq_false (by omega)
  have d3 : decide (3 < vv) = false := decide_eq_false (by omega)
  clear h1
  by_cases h2 : vk < 1 ∨ 4 < vk
  · rw [if_pos h2] at hb
    subst hb
    rcases h2 with h0 | h0
    · have d4 : decide (vk < 1) = true := decide_eq_true h0
      clear h0
      go_enter Tryd.func22, Tryd.ntmps22
      go_wp2
      go_ret
      rw [HW0.out]
      exact ⟨rfl, b0⟩
    · have d4 : decide (vk < 1) = false := decide_eq_false (by omega)
      have d5 : decide (4 < vk) = true := decide_eq_true h0
      clear h0
      go_enter Tryd.func22, Tryd.ntmps22
      go_wp2
      go_ret
      rw [HW0.out]
      exact ⟨rfl, b0⟩
  rw [if_neg h2] at hb
  have d4 : decide (vk < 1) = false := decide_eq_false (by omega)
  have d5 : decide (4 < vk) = false := decide_eq_false (by omega)
  clear h2
  have HB := Lib.hid hb
  clear hb
  go_enter Tryd.func22, Tryd.ntmps22
  go_wp2_with fail
  rw [HW0.out]
  refine (cL.out W0).mono ?_
  rintro e w1 ⟨rfl, hw1⟩
  rw [hw1]
  clear hw1
  clear k0 k1 k2 k3 d0 d1 d2 d3 d4 d5 cL
  cases lb
  · have hB := HB.out
    rw [if_pos rfl] at hB
    subst hB
    go_wp2
    go_ret
    exact ⟨rfl, b0⟩
  have hB := HB.out
  rw [if_neg (fun h => by cases h)] at hB
  clear HB
  by_cases hlong : 64 < n
  · rw [if_pos hlong] at hB
    subst hB
    have d6 : decide ((64 : Int) < (n : Int)) = true := decide_eq_true (by omega)
    go_wp2
    go_ret
    exact ⟨rfl, b0⟩
  rw [if_neg hlong] at hB
  subst hB
  have d6 : decide ((64 : Int) < (n : Int)) = false := decide_eq_false (by omega)
  have hn64 : n ≤ 64 := by omega
  clear hlong
  go_wp2
  go_loopw [46] (fun i wr => ∃ k : Nat, k ≤ n ∧ i = .int .i64 (k : Int) ∧ RowKit.Hid (∀ j, j < k → rightI (r.fields.getD j fd0) = 0) ∧ Below W0.heap.size W0 wr) (fun i _ => n - (intOf i).toNat)
  case atStart => exact ⟨0, Nat.zero_le _, rfl, (fun j hj => by omega), Below.refl _ _⟩
  case round =>
    obtain ⟨k, hk, rfl, HJ, hbw⟩ := hrel
    by_cases hkn : k < n
    · obtain ⟨g, o, cap', x, he, hg, c0, c1, c2, c3, hq⟩ := (HU0.out.after hbw).at k (by rw [HN.out]; exact hkn)
      obtain ⟨ha, -, hcp⟩ := Value.slice.inj he
      subst ha hcp
      clear he
      obtain ⟨ax, nx, cx, hx⟩ : ∃ ax nx cx, x = .slice ax nx cx := by obtain ⟨ax, cx, rfl, _⟩ := hq; exact ⟨_, _, _, rfl⟩
      subst hx
      have i1 : (0 : Int) ≤ (k : Int) := by omega
      have i2 : (k : Int) < (n : Int) := by omega
      obtain ⟨ee, hee⟩ : ∃ ee, rightI (r.fields.getD k fd0) = ee := ⟨_, rfl⟩
      have ha := hbw.alloc hbw.size (.cells #[.string (S (r.fields.getD k fd0).tag), .string (S (r.fields.getD k fd0).ind), .slice ax nx cx, .int .i64 (r.fields.getD k fd0).auth] 49)
      obtain ⟨wa, hwa⟩ : ∃ wa, wr.alloc (.cells #[.string (S (r.fields.getD k fd0).tag), .string (S (r.fields.getD k fd0).ind), .slice ax nx cx, .int .i64 (r.fields.getD k fd0).auth] 49) = wa := ⟨_, rfl⟩
      rw [hwa] at ha
      have hqa := hq.after (show Below wr.heap.size wr wa from by rw [← hwa]; exact (Below.refl _ _).alloc (Nat.le_refl _) _)
      have y0 : wa.cell? ⟨wr.heap.size, 0, none⟩ = some (.string (S (r.fields.getD k fd0).tag)) := by rw [← hwa]; simp
      have y1 : wa.cell? ⟨wr.heap.size, 1, none⟩ = some (.string (S (r.fields.getD k fd0).ind)) := by rw [← hwa]; simp
      have y2 : wa.cell? ⟨wr.heap.size, 2, none⟩ = some (.slice ax nx cx) := by rw [← hwa]; simp
      have y3 : wa.cell? ⟨wr.heap.size, 3, none⟩ = some (.int .i64 (r.fields.getD k fd0).auth) := by rw [← hwa]; simp
      have HWA := Lib.hid hwa
      have HA := Lib.hid ha
      clear hwa ha
      have c := Lib.hid (cR.out k _ wa (HE0.out.after HA.out) hqa (fun j hj => HZ.out k (by rw [HN.out]; exact hkn) j hj) ee hee)
      have hHit := HHit.out k (by rw [HN.out]; exact hkn) HJ.out
      rw [hee] at hHit
      by_cases h0 : ee = 0
      · have HJ2 : RowKit.Hid (∀ j, j < k + 1 → rightI (r.fields.getD j fd0) = 0) := by
          intro j hj
          rcases Nat.lt_or_ge j k with h | h
          · exact HJ.out j h
          · rw [show j = k by omega, hee]; exact h0
        subst h0
        clear HJ hq hqa hHit
        generalize S (r.fields.getD k fd0).tag = t0 at *
        generalize S (r.fields.getD k fd0).ind = t1 at *
        generalize (r.fields.getD k fd0).auth = t3 at *
        go_wp2_with fail
        rw [HWA.out]
        refine c.out.mono ?_
        rintro e w5 ⟨rfl, d⟩
        have hb5 := Lib.hid (HA.out.trans (d.mono HA.out.size))
        go_wp2
        go_roundw
        case rel => exact ⟨k + 1, by omega, by go_num, HJ2, hb5.out⟩
        case measure => simp [intOf]; omega
      · obtain rfl : fe = ee := hHit h0
        have t5 : (fe != 0) = true := by simpa using h0
        have Fin := Lib.hid (b0.trans (HA.out.mono b0.size))
        clear HJ hq hqa hHit h0 hee
        generalize S (r.fields.getD k fd0).tag = t0 at *
        generalize S (r.fields.getD k fd0).ind = t1 at *
        generalize (r.fields.getD k fd0).auth = t3 at *
        go_wp2_with fail
        rw [HWA.out]
        refine c.out.mono ?_
        rintro e w5 ⟨rfl, d⟩
        have Fin2 := Lib.hid (Fin.out.trans (d.mono Fin.out.size))
        go_wp2
        go_ret
        exact ⟨rfl, Fin2.out⟩
    · obtain rfl : k = n := by omega
      obtain rfl : fe = 0 := HMiss.out (fun j hj => HJ.out j (by rw [HN.out] at hj; exact hj))
      have Fin := Lib.hid (b0.trans (hbw.mono b0.size))
      go_wp2
      go_ret
      exact ⟨rfl, Fin.out⟩
end

section
open Go.RowKit Go.PlainAid
/-- A reader at these bytes. -/
def RD (b : Nat) (l : List UInt8) (w : World) : Prop := w.heap[b]? = some (.cells #[.string (S l)] 72 (0, 0))
theorem RD.lt {b : Nat} {l : List UInt8} {w : World} (h : RD b l w) : b < w.heap.size := (Array.getElem?_eq_some_iff.1 h).1
theorem RD.cell {b : Nat} {l : List UInt8} {w : World} (h : RD b l w) : w.cell? ⟨b, 0, none⟩ = some (.string (S l)) ∧ w.frozen? ⟨b, 0, none⟩ = false :=
  ⟨by rw [Lib.cell_of_heap h]; rfl, Lib.frozen_of_heap h 0⟩
theorem RD.set {b : Nat} {l : List UInt8} {w : World} (h : RD b l w) (m : List UInt8) : RD b m (w.setCell ⟨b, 0, none⟩ (.string (S m))) := by
  unfold RD at *
  simp [World.setCell, Array.getElem?_modify, h]
theorem RD.same {b : Nat} {l : List UInt8} {w w' : World} (h : RD b l w) (hb : w'.heap[b]? = w.heap[b]?) : RD b l w' := hb.trans h
/-- What giveUp raises. -/
def upV : List PanicEntry := [{ v := .iface 27 (.int .i64 3), recovered := false }]

set_option maxHeartbeats 4000000 in
theorem giveUp_any (w : World) : Calls Tryd.prog 70 #[] w fun e w' => e = .panicked upV ∧ w' = w := by
  go_enter Tryd.func70, Tryd.ntmps70
  go_wp2
  exact ⟨rfl, rfl, rfl⟩

set_option maxHeartbeats 4000000 in
theorem next_bad (b : Nat) (l : List UInt8) (n : Nat) (w : World) (h : RD b l w) (hn : l.length < n) :
    Calls Tryd.prog 56 #[.pointer (some ⟨b, 0, none⟩), .int .i64 (n : Int)] w fun e w' => e = .panicked upV ∧ w' = w := by
  obtain ⟨h1, h2⟩ := h.cell
  have hs := S_size l
  obtain ⟨z, hz2⟩ : ∃ z, l.length = z := ⟨_, rfl⟩
  rw [hz2] at hs hn
  clear hz2 h
  generalize S l = s at *
  go_enter Tryd.func56, Tryd.ntmps56
  go_wp2_with fail
  refine (giveUp_any _).mono ?_
  rintro e w' ⟨rfl, hw⟩
  rw [hw]
  go_wp2
  exact ⟨rfl, rfl, rfl⟩

set_option maxHeartbeats 4000000 in
theorem next_ok (b : Nat) (l : List UInt8) (n : Nat) (w : World) (h : RD b l w) (hn : n ≤ l.length) :
    Calls Tryd.prog 56 #[.pointer (some ⟨b, 0, none⟩), .int .i64 (n : Int)] w fun e w' => e = .returned (.string (S (l.take n))) ∧ w' = w.setCell ⟨b, 0, none⟩ (.string (S (l.drop n))) := by
  obtain ⟨h1, h2⟩ := h.cell
  have hx : (S l).extract 0 n = S (l.take n) := by rw [S_extract, List.drop_zero]
  have hy : (S l).extract n (S l).size = S (l.drop n) := by rw [S_extract, S_size, List.take_length]
  have hs := S_size l
  obtain ⟨z, hz2⟩ : ∃ z, l.length = z := ⟨_, rfl⟩
  rw [hz2] at hs hn
  rw [hs] at hy
  have t1 : decide (z < n) = false := decide_eq_false (by omega)
  have i1 : (0 : Int) ≤ (n : Int) := by omega
  have i2 : (n : Int) ≤ (z : Int) := by omega
  rw [← hx, ← hy]
  clear hz2 hx hy h
  generalize S l = s at *
  go_enter Tryd.func56, Tryd.ntmps56
  go_wp2
  go_ret
  exact ⟨rfl, rfl⟩

theorem digB_int (x : UInt8) : digB x = (!(decide ((x.toNat : Int) < 48)) && !(decide ((57 : Int) < (x.toNat : Int)))) := by
  unfold digB
  rw [← decide_not, ← decide_not]
  congr 1
  · rw [decide_eq_decide]; omega
  · rw [decide_eq_decide]; omega
theorem valV_take (l : List UInt8) (k : Nat) (h : k < l.length) : valV (l.take (k + 1)) = 10 * valV (l.take k) + ((l.getD k 0).toNat - 48) := by
  rw [take_byte l k h, valV_snoc]
theorem valV_lt : ∀ (k : Nat) (l : List UInt8), l.all digB = true → k ≤ l.length → valV (l.take k) < 10 ^ k
  | 0, l, _, _ => by simp [valV]
  | k + 1, l, h, hk => by
    have := valV_lt k l h (by omega)
    have hd := (digB_iff _).1 ((all_iff l).1 h k (by omega))
    rw [valV_take l k (by omega), Nat.pow_succ]
    omega
theorem all_bad (l : List UInt8) (k : Nat) (hk : k < l.length) (h : digB (l.getD k 0) = false) : l.all digB = false := by
  cases e : l.all digB
  · rfl
  · rw [(all_iff l).1 e k hk] at h
    cases h
def decV (l : List UInt8) : Nat × Bool := if l.all digB = true then (valV l, true) else (0, false)

set_option maxHeartbeats 8000000 in
theorem decimal_any (l : List UInt8) (hz : l.length ≤ 18) (x : Nat) (b : Bool) (hb : decV l = (x, b)) (w : World) :
    Calls Tryd.prog 45 #[.string (S l)] w fun e w' => e = .returned (.tuple #[.int .i64 (x : Int), .bool b]) ∧ w' = w := by
  obtain ⟨n, hn⟩ : ∃ n, l.length = n := ⟨_, rfl⟩
  have hsz : (S l).size = n := by rw [S_size, hn]
  have hbt := get_bt (S l)
  have HBS := Lib.hid (fun i => bt_S l i)
  have HBad : RowKit.Hid (∀ k, k < n → digB (l.getD k 0) = false → (0, false) = (x, b)) := by
    intro k hk h
    rw [← hb, decV, all_bad l k (by omega) h]
    rfl
  have HAll : RowKit.Hid ((∀ j, j < n → digB (l.getD j 0) = true) → (valV l, true) = (x, b)) := by
    intro h
    rw [← hb, decV, (all_iff l).2 (by rw [hn]; exact h)]
    rfl
  have HV := Lib.hid (fun k (hk : k < n) => valV_take l k (by omega))
  have HP : RowKit.Hid (∀ k, k ≤ n → valV (l.take k) < 10 ^ 18 ∨ ∃ j, j < k ∧ digB (l.getD j 0) = false) := by
    intro k hk
    by_cases h : ∀ j, j < k → digB (l.getD j 0) = true
    · left
      have h2 : (l.take k).all digB = true := by
        rw [all_iff]
        intro i hi
        rw [List.length_take] at hi
        rw [List.getD_eq_getElem?_getD, List.getElem?_take_of_lt (by omega), ← List.getD_eq_getElem?_getD]
        exact h i (by omega)
      have := valV_lt k (l.take k) h2 (by rw [List.length_take]; omega)
      rw [List.take_take, Nat.min_self] at this
      exact Nat.lt_of_lt_of_le this (Nat.pow_le_pow_right (by decide) (by omega))
    · right
      obtain ⟨j, hj⟩ := Classical.not_forall.1 h
      obtain ⟨h1, h2⟩ := Classical.not_imp.1 hj
      exact ⟨j, h1, by simpa using h2⟩
  have HT : RowKit.Hid (l.take n = l) := by unfold RowKit.Hid; rw [← hn, List.take_length]
  have H0 : RowKit.Hid (valV (l.take 0) = 0) := by unfold RowKit.Hid; rw [List.take_zero]; rfl
  rw [hn] at hz
  clear hn hb
  generalize S l = s at *
  go_enter Tryd.func45, Tryd.ntmps45
  go_wp2
  go_loopw [4, 8] (fun v i wr => ∃ k : Nat, k ≤ n ∧ i = .int .i64 (k : Int) ∧ v = .int .i64 ((valV (l.take k) : Nat) : Int) ∧ RowKit.Hid (∀ j, j < k → digB (l.getD j 0) = true) ∧ w = wr) (fun _ i _ => n - (intOf i).toNat)
  case atStart => exact ⟨0, Nat.zero_le _, rfl, by rw [H0.out]; rfl, (fun j hj => by omega), rfl⟩
  case round =>
    obtain ⟨k, hk, rfl, rfl, HJ, rfl⟩ := hrel
    by_cases hkn : k < n
    · have i1 : (0 : Int) ≤ (k : Int) := by omega
      have i2 : (k : Int) < (n : Int) := by omega
      have hbk := HBS.out k
      have hlow := digB_int (l.getD k 0)
      have HBk := Lib.hid (HBad.out k hkn)
      have hv := HV.out k hkn
      have hp : valV (l.take k) < 10 ^ 18 := by
        rcases HP.out k hk with h | ⟨j, hj, h⟩
        · exact h
        · rw [HJ.out j hj] at h; cases h
      have hp2 : valV (l.take (k + 1)) < 10 ^ 18 ∨ digB (l.getD k 0) = false := by
        rcases HP.out (k + 1) (by omega) with h | ⟨j, hj, h⟩
        · exact .inl h
        · rcases Nat.lt_or_ge j k with h2 | h2
          · rw [HJ.out j h2] at h; cases h
          · rw [show k = j by omega]; exact .inr h
      have hm := (l.getD k 0).toNat_lt
      have HJ2 : RowKit.Hid (digB (l.getD k 0) = true → ∀ j, j < k + 1 → digB (l.getD j 0) = true) := by
        intro h0 j hj
        rcases Nat.lt_or_ge j k with h | h
        · exact HJ.out j h
        · rw [show j = k by omega]; exact h0
      obtain ⟨V2, hV2⟩ : ∃ V, valV (l.take (k + 1)) = V := ⟨_, rfl⟩
      rw [hV2] at hv hp2
      have HV2 := Lib.hid hV2
      clear hV2
      generalize valV (l.take k) = V at *
      generalize digB (l.getD k 0) = lo at *
      generalize (l.getD k 0).toNat = m at *
      by_cases h1 : m < 48
      · have t1 : decide ((m : Int) < 48) = true := decide_eq_true (by omega)
        rw [t1] at hlow
        have hx := HBk.out (by rw [hlow]; rfl)
        obtain ⟨hx1, hx2⟩ := Prod.mk.inj hx
        subst hx1 hx2
        clear hlow HJ HJ2 h1 hx hv hp hp2 hm
        go_wp2
        go_ret2
        exact ⟨rfl, rfl⟩
      · have t1 : decide ((m : Int) < 48) = false := decide_eq_false (by omega)
        rw [t1] at hlow
        by_cases h2 : 57 < m
        · have t2 : decide ((57 : Int) < (m : Int)) = true := decide_eq_true (by omega)
          rw [t2] at hlow
          have hx := HBk.out (by rw [hlow]; rfl)
          obtain ⟨hx1, hx2⟩ := Prod.mk.inj hx
          subst hx1 hx2
          clear hlow HJ HJ2 h1 hx hv hp hp2 hm h2
          go_wp2
          go_ret2
          exact ⟨rfl, rfl⟩
        · have t2 : decide ((57 : Int) < (m : Int)) = false := decide_eq_false (by omega)
          rw [t2] at hlow
          have hlo : lo = true := by rw [hlow]; rfl
          have HJ3 := Lib.hid (HJ2.out hlo)
          have hp3 : V2 < 10 ^ 18 := by
            rcases hp2 with h | h
            · exact h
            · rw [hlo] at h; cases h
          have hsum : 10 * (V : Int) + ((m : Int) - 48) = (V2 : Int) := by omega
          have HM : RowKit.Hid (48 ≤ m ∧ m ≤ 57) := ⟨by omega, by omega⟩
          clear hlow HJ HJ2 h1 h2 hp2 hlo HBk hv
          go_wp2
          go_roundw
          case rel =>
            have hm2 := HM.out
            have e : 10 * (V : Int) + ((m : Int) - 48) % 256 = (V2 : Int) := by omega
            exact ⟨k + 1, by omega, by go_num, by rw [HV2.out, e], HJ3, trivial⟩
          case measure => simp [intOf]; omega
    · obtain rfl : k = n := by omega
      have hx := HAll.out HJ.out
      obtain ⟨hx1, hx2⟩ := Prod.mk.inj hx
      subst hx1 hx2
      rw [HT.out]
      clear hx HJ
      go_wp2
      go_ret2
      exact ⟨rfl, rfl⟩

def numOf (l : List UInt8) (n : Nat) : Nat := valV (l.take n)
set_option maxHeartbeats 4000000 in
theorem number_ok (b : Nat) (l : List UInt8) (n : Nat) (w : World) (h : RD b l w) (h18 : n ≤ 18) (hn : numOk l n = true) :
    Calls Tryd.prog 58 #[.pointer (some ⟨b, 0, none⟩), .int .i64 (n : Int)] w fun e w' => e = .returned (.int .i64 (numOf l n : Nat)) ∧ w' = w.setCell ⟨b, 0, none⟩ (.string (S (l.drop n))) := by
  unfold numOk at hn
  rw [Bool.and_eq_true, decide_eq_true_eq] at hn
  have cN := Lib.hid (next_ok b l n w h hn.1)
  have cD := Lib.hid (fun W => decimal_any (l.take n) (by rw [List.length_take]; omega) (numOf l n) true (by unfold decV; rw [hn.2]; rfl) W)
  clear hn h
  go_enter Tryd.func58, Tryd.ntmps58
  go_wp2_with fail
  refine cN.out.mono ?_
  rintro e w1 ⟨rfl, hw1⟩
  rw [hw1]
  clear hw1 cN
  go_wp2_with fail
  refine (cD.out _).mono ?_
  rintro e w1 ⟨rfl, hw1⟩
  rw [hw1]
  clear hw1 cD
  go_wp2
  go_ret
  exact ⟨rfl, rfl⟩
set_option maxHeartbeats 4000000 in
theorem number_bad (b : Nat) (l : List UInt8) (n : Nat) (w : World) (h : RD b l w) (h18 : n ≤ 18) (hn : numOk l n = false) :
    Calls Tryd.prog 58 #[.pointer (some ⟨b, 0, none⟩), .int .i64 (n : Int)] w fun e w' => e = .panicked upV ∧ (w' = w ∨ w' = w.setCell ⟨b, 0, none⟩ (.string (S (l.drop n)))) := by
  unfold numOk at hn
  by_cases hl : n ≤ l.length
  · rw [decide_eq_true hl, Bool.true_and] at hn
    have cN := Lib.hid (next_ok b l n w h hl)
    have cD := Lib.hid (fun W => decimal_any (l.take n) (by rw [List.length_take]; omega) 0 false (by unfold decV; rw [hn]; rfl) W)
    clear hn h hl
    go_enter Tryd.func58, Tryd.ntmps58
    go_wp2_with fail
    refine cN.out.mono ?_
    rintro e w1 ⟨rfl, hw1⟩
    rw [hw1]
    clear hw1 cN
    go_wp2_with fail
    refine (cD.out _).mono ?_
    rintro e w1 ⟨rfl, hw1⟩
    rw [hw1]
    clear hw1 cD
    go_wp2_with fail
    refine (giveUp_any _).mono ?_
    rintro e w' ⟨rfl, hw⟩
    rw [hw]
    go_wp2
    exact ⟨rfl, rfl, .inr rfl⟩
  · have cN := Lib.hid (next_bad b l n w h (by omega))
    clear hn h hl
    go_enter Tryd.func58, Tryd.ntmps58
    go_wp2_with fail
    refine cN.out.mono ?_
    rintro e w1 ⟨rfl, hw1⟩
    rw [hw1]
    clear hw1 cN
    go_wp2
    exact ⟨rfl, rfl, .inl rfl⟩
end

section
open Go.RowKit
theorem sizeB : (Tryd.prog.info? 59).map (·.size) = some 2 := by kernel_rfl
theorem liesB : liesAt Tryd.prog Tryd.prog.depth 59 (2 / Tryd.prog.cellsOf 59) 0 59 1 = true := by kernel_rfl
/-- A builder of this program: it lies in block b; its bytes are bs. -/
abbrev IsB (B b : Nat) (bs : List Value) (w : World) : Prop := Lib.IsBuilderF 59 5 B b bs w
abbrev UsedB (B b : Nat) (bs : List Value) (w : World) : Prop := Lib.BuilderAtF 59 5 B b (.pointer (some ⟨b, 0, none⟩)) bs w
abbrev Kept (b : Nat) (w w' : World) : Prop := Lib.OthersKept 5 (some b) w w'

set_option maxRecDepth 100000 in
set_option maxHeartbeats 1000000 in
theorem check_used (b : Nat) (w : World) (h0 : w.cell? ⟨b, 0, none⟩ = some (.pointer (some ⟨b, 0, none⟩))) :
    Calls Tryd.prog 44 #[.pointer (some ⟨b, 0, none⟩)] w fun e w' => e = .returned (.tuple #[]) ∧ w = w' := by
  obtain ⟨j, hj, _⟩ := Option.map_eq_some_iff.1 sizeB
  go_enter Tryd.func44, Tryd.ntmps44
  go_wp2
  rw [Lib.run_neq_ptr_same w _ Tryd.underlying57 hj]
  go_wp2
  go_end0
  exact ⟨rfl, rfl⟩

set_option maxRecDepth 100000 in
set_option maxHeartbeats 1000000 in
theorem check_fresh (b : Nat) (w : World) (h0 : w.cell? ⟨b, 0, none⟩ = some (.pointer none)) (hsh : w.shape? b = some (59, 2)) (hfz : w.frozen? ⟨b, 0, none⟩ = false) :
    Calls Tryd.prog 44 #[.pointer (some ⟨b, 0, none⟩)] w fun e w' => e = .returned (.tuple #[]) ∧ w.setCell ⟨b, 0, none⟩ (.pointer (some ⟨b, 0, none⟩)) = w' := by
  obtain ⟨j, hj, hjs⟩ := Option.map_eq_some_iff.1 sizeB
  go_enter Tryd.func44, Tryd.ntmps44
  go_wp2
  rw [Lib.run_to_unsafe w ⟨b, 0, none⟩ Tryd.underlying57 Tryd.underlying89 hj (by rw [hjs]; decide) hsh (Nat.zero_lt_succ 1)]
  simp only [Result.andThen]
  rw [Oper.upon_value]
  go_wp2
  rw [run_callFunc_extern Tryd.func60 (by kernel_rfl) (by kernel_rfl) (by kernel_rfl) (e := Extern.AbiNoEscape.same) (by kernel_rfl)]
  rw [Lib.run_noEscape]
  simp only [Result.andThen]
  rw [Oper.upon_value]
  go_wp2
  rw [Lib.run_from_unsafe w ⟨b, 0, none⟩ Tryd.underlying89 Tryd.underlying57 hj hsh liesB]
  simp only [Result.andThen]
  rw [Oper.upon_value]
  go_wp2
  go_end0
  exact ⟨rfl, rfl⟩

theorem check_any (B b : Nat) (bs : List Value) (w : World) (h : IsB B b bs w) :
    Calls Tryd.prog 44 #[.pointer (some ⟨b, 0, none⟩)] w fun e w' => e = .returned (.tuple #[]) ∧ UsedB B b bs w' ∧ Below B w w' ∧ Kept b w w' := by
  rcases h with h | h
  · refine (check_fresh b w h.cell0 h.shape h.frozen0).mono ?_
    rintro e w' ⟨rfl, rfl⟩
    exact ⟨rfl, h.used _, (Below.refl B w).setCell (p := ⟨b, 0, none⟩) h.1 _, (Lib.OthersKept.refl _ _ w).setCell ⟨b, 0, none⟩ rfl _⟩
  · refine (check_used b w h.cell0).mono ?_
    rintro e w' ⟨rfl, rfl⟩
    exact ⟨rfl, h, Below.refl B _, Lib.OthersKept.refl _ _ _⟩

set_option maxRecDepth 100000 in
set_option maxHeartbeats 2000000 in
theorem writeByte_any (B b : Nat) (bs : List Value) (c : Int) (w : World) (h : IsB B b bs w) (hlen : bs.length + 1 ≤ 140737488355328) (hBw : B ≤ w.heap.size) :
    Calls Tryd.prog 49 #[.pointer (some ⟨b, 0, none⟩), .int .u8 c] w fun e w' => e = .returned .nilIface ∧ UsedB B b (bs ++ [.int .u8 c]) w' ∧ Below B w w' ∧ Kept b w w' := by
  obtain ⟨i0, hi, hz0, hz1, hz2⟩ := info_parts infoByte
  go_enter Tryd.func49, Tryd.ntmps49
  go_wp2_with (go_at_call 44; refine (check_any B b bs _ h).mono ?_)
  rintro e w1 ⟨rfl, h1, hb1, hk1⟩
  obtain ⟨hB, v, hbk, hown, hne⟩ := h1
  have c0 : w1.cell? ⟨b, 0, none⟩ = some (.pointer (some ⟨b, 0, none⟩)) := by rw [Lib.cell_of_heap hbk]; rfl
  have c1 : w1.cell? ⟨b, 1, none⟩ = some v := by rw [Lib.cell_of_heap hbk]; rfl
  go_wp2_with (at_builtin; refine wpList_append_ownF _ rfl _ _ 53 rfl B 5 i0 (.int .u8 0) 1 1 Tryd.underlying53 hi hz0 hz1 hz2 rfl (by decide) _ _ _ rfl (hown.alloc _) ⟨w1.heap.size, 0, none⟩ 1 1 [.int .u8 c] rfl rfl ?c1 ?c2 ?c3 ?c4 ?c5 ?_)
  case c1 =>
    intro j u hj
    match j, hj with
    | 0, hj => simp at hj; subst hj; simp [Addr.add]
  case c2 => intro u hu; simp at hu; subst hu; rfl
  case c3 => unfold maxLen; omega
  case c4 => omega
  case c5 => have := hb1.size; simp; omega
  intro v' w2 hown' hgrow _
  have hlt : b < w1.heap.size := (Array.getElem?_eq_some_iff.1 hbk).1
  have hb2 : w2.heap[b]? = some (.cells #[.pointer (some ⟨b, 0, none⟩), v] 59 (0, 0)) := by
    rw [hgrow.block b (by simp; omega) (fun e => hne e.symm), Lib.alloc_old w1 _ b hlt]
    exact hbk
  have d0 : w2.cell? ⟨b, 0, none⟩ = some (.pointer (some ⟨b, 0, none⟩)) := by rw [Lib.cell_of_heap hb2]; rfl
  have d1 : w2.cell? ⟨b, 1, none⟩ = some v := by rw [Lib.cell_of_heap hb2]; rfl
  have f1 : w2.frozen? ⟨b, 1, none⟩ = false := Lib.frozen_of_heap hb2 1
  obtain ⟨g, cap, rfl⟩ : ∃ g cap, v' = .slice (some ⟨g, 0, none⟩) (bs.length + 1) cap := by
    rcases hown'.2 with ⟨_, h0⟩ | ⟨g, cap, cur, fz, hv, _⟩
    · omega
    · exact ⟨g, cap, hv⟩
  go_wp2
  go_ret
  refine ⟨rfl, ?_, ?_, ((hk1.alloc _).grown hgrow (Lib.ownsRowF_kind (hown.alloc _))).setCell ⟨b, 1, none⟩ rfl _⟩
  · exact Lib.BuilderAtF.put (T := 59) (e := 5) hB hb2 (bs' := bs ++ [.int .u8 c]) (by simpa using hown') (by decide)
  · exact ((hb1.alloc (by have := hb1.size; omega) _).grown hgrow (by have := hb1.size; simp; omega) (fun k hk => (hown.lt k hk).1)).setCell (p := ⟨b, 1, none⟩) hB _

set_option maxRecDepth 100000 in
set_option maxHeartbeats 2000000 in
theorem writeString_any (B b : Nat) (bs : List Value) (s : ByteArray) (w : World) (h : IsB B b bs w) (hlen : bs.length + s.size ≤ 140737488355328) (hBw : B ≤ w.heap.size) :
    Calls Tryd.prog 29 #[.pointer (some ⟨b, 0, none⟩), .string s] w fun e w' => e = .returned (.tuple #[.int .i64 s.size, .nilIface]) ∧ UsedB B b (bs ++ Lib.strCells s) w' ∧ Below B w w' ∧ Kept b w w' := by
  obtain ⟨i0, hi, hz0, hz1, hz2⟩ := info_parts infoByte
  go_enter Tryd.func29, Tryd.ntmps29
  go_wp2_with (go_at_call 44; refine (check_any B b bs _ h).mono ?_)
  rintro e w1 ⟨rfl, h1, hb1, hk1⟩
  obtain ⟨hB, v, hbk, hown, hne⟩ := h1
  have c0 : w1.cell? ⟨b, 0, none⟩ = some (.pointer (some ⟨b, 0, none⟩)) := by rw [Lib.cell_of_heap hbk]; rfl
  have c1 : w1.cell? ⟨b, 1, none⟩ = some v := by rw [Lib.cell_of_heap hbk]; rfl
  go_wp2_with (at_builtin; refine Lib.wpList_append_own_stringF _ rfl _ _ 53 9 rfl B 5 i0 Tryd.underlying53 Tryd.underlying9 hi hz0 hz1 hz2 _ _ _ rfl hown s rfl ?c3 ?c4 ?c5 ?_)
  case c3 => unfold maxLen; omega
  case c4 => omega
  case c5 => have := hb1.size; omega
  intro v' w2 hown' hgrow _
  have hlt : b < w1.heap.size := (Array.getElem?_eq_some_iff.1 hbk).1
  have hb2 : w2.heap[b]? = some (.cells #[.pointer (some ⟨b, 0, none⟩), v] 59 (0, 0)) := by
    rw [hgrow.block b hlt (fun e => hne e.symm)]
    exact hbk
  have d0 : w2.cell? ⟨b, 0, none⟩ = some (.pointer (some ⟨b, 0, none⟩)) := by rw [Lib.cell_of_heap hb2]; rfl
  have d1 : w2.cell? ⟨b, 1, none⟩ = some v := by rw [Lib.cell_of_heap hb2]; rfl
  have f1 : w2.frozen? ⟨b, 1, none⟩ = false := Lib.frozen_of_heap hb2 1
  obtain ⟨ao, n', cap, rfl⟩ : ∃ ao n' cap, v' = .slice ao n' cap := by
    rcases hown'.2 with ⟨hv, _⟩ | ⟨g, cap, cur, fz, hv, _⟩
    · exact ⟨_, _, _, hv⟩
    · exact ⟨_, _, _, hv⟩
  go_wp2
  go_ret2
  refine ⟨rfl, ?_, ?_, (hk1.grown hgrow (Lib.ownsRowF_kind hown)).setCell ⟨b, 1, none⟩ rfl _⟩
  · exact Lib.BuilderAtF.put (T := 59) (e := 5) hB hb2 (bs' := bs ++ Lib.strCells s) (by simpa [Lib.strCells_length] using hown') (by decide)
  · exact (hb1.grown hgrow (by have := hb1.size; omega) (fun k hk => (hown.lt k hk).1)).setCell (p := ⟨b, 1, none⟩) hB _
end

end Go.Proofs.YtiledacfdaenbaaDoor
