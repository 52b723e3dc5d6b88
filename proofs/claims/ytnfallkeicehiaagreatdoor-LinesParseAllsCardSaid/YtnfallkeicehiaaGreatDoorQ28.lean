/- Merged: PA08, Rh11. -/
import Derived.Test.YtnfallkeicehiaaGreatDoorQ27
import Derived.Test.YtnfallkeicehiaaGreatDoorQ14
import Derived.Test.YtnfallkeicehiaaGreatDoorQ25
import Derived.Test.YtnfallkeicehiaaGreatDoorQ19
import Derived.Deep.RegionLaw
import Derived.RegionTactic
namespace Go.Proofs.YtnfallkeicehiaaGreatDoor

section
open Go.RowKit Go.PlainAid
theorem lang_bad (l : List UInt8) (k : Nat) (hk : k < l.length) (h : lowB (l.getD k 0) = false) : langB l = false := by
  unfold langB
  by_cases h3 : l.length = 3
  · rw [h3] at hk
    match k, hk, h with
    | 0, _, h => rw [h]; simp
    | 1, _, h => rw [h]; simp
    | 2, _, h => rw [h]; simp
  · rw [decide_eq_false h3]; simp
theorem lang_all (l : List UInt8) (h : ∀ j, j < l.length → lowB (l.getD j 0) = true) : langB l = decide (l.length = 3) := by
  unfold langB
  by_cases h3 : l.length = 3
  · rw [h 0 (by omega), h 1 (by omega), h 2 (by omega)]; simp
  · rw [decide_eq_false h3]; simp
theorem low_nat (x : UInt8) : lowB x = (!(decide ((x.toNat : Int) < 97)) && !(decide ((122 : Int) < (x.toNat : Int)))) := by
  unfold lowB
  rw [← decide_not, ← decide_not]
  congr 1
  · rw [decide_eq_decide]; omega
  · rw [decide_eq_decide]; omega

set_option maxHeartbeats 8000000 in
theorem language_any (l : List UInt8) (b : Bool) (hz : l.length ≤ maxLen) (hb : langB l = b) (w : World) :
    Calls Tryz.prog 34 #[.string (S l)] w fun e w' => e = .returned (.bool b) ∧ w' = w := by
  unfold maxLen at hz
  obtain ⟨n, hn⟩ : ∃ n, l.length = n := ⟨_, rfl⟩
  have hsz : (S l).size = n := by rw [S_size, hn]
  have hbt := get_bt (S l)
  have HBS := Lib.hid (fun i => bt_S l i)
  have HBad := Lib.hid (fun k (hk : k < n) h => (lang_bad l k (by omega) h).symm.trans hb)
  have HAll : RowKit.Hid ((∀ j, j < n → lowB (l.getD j 0) = true) → decide (n = 3) = b) := by
    intro h
    rw [← hb, lang_all l (by rw [hn]; exact h), hn]
  rw [hn] at hz
  clear hn hb
  generalize S l = s at *
  go_enter Tryz.func34, Tryz.ntmps34
  go_wp2
  go_loopw [6] (fun i wr => ∃ k : Nat, k ≤ n ∧ i = .int .i64 (k : Int) ∧ RowKit.Hid (∀ j, j < k → lowB (l.getD j 0) = true) ∧ w = wr) (fun i _ => n - (intOf i).toNat)
  case atStart => exact ⟨0, Nat.zero_le _, rfl, (fun j hj => by omega), rfl⟩
  case round =>
    obtain ⟨k, hk, rfl, HJ, rfl⟩ := hrel
    by_cases hkn : k < n
    · have i1 : (0 : Int) ≤ (k : Int) := by omega
      have i2 : (k : Int) < (n : Int) := by omega
      have hbk := HBS.out k
      have hlow := low_nat (l.getD k 0)
      have HBk := Lib.hid (HBad.out k hkn)
      have HJ2 : RowKit.Hid (lowB (l.getD k 0) = true → ∀ j, j < k + 1 → lowB (l.getD j 0) = true) := by
        intro h0 j hj
        rcases Nat.lt_or_ge j k with h | h
        · exact HJ.out j h
        · rw [show j = k by omega]; exact h0
      generalize lowB (l.getD k 0) = lo at *
      generalize (l.getD k 0).toNat = m at *
      by_cases h1 : (m : Int) < 97
      · have t1 : decide ((m : Int) < 97) = true := decide_eq_true h1
        rw [t1] at hlow
        obtain rfl : false = b := HBk.out (by rw [hlow]; rfl)
        clear hlow HJ HJ2 h1
        go_wp2
        go_ret
        exact ⟨rfl, rfl⟩
      · have t1 : decide ((m : Int) < 97) = false := decide_eq_false h1
        rw [t1] at hlow
        by_cases h2 : (122 : Int) < (m : Int)
        · have t2 : decide ((122 : Int) < (m : Int)) = true := decide_eq_true h2
          rw [t2] at hlow
          obtain rfl : false = b := HBk.out (by rw [hlow]; rfl)
          clear hlow HJ HJ2 h1 h2
          go_wp2
          go_ret
          exact ⟨rfl, rfl⟩
        · have t2 : decide ((122 : Int) < (m : Int)) = false := decide_eq_false h2
          rw [t2] at hlow
          have HJ3 := Lib.hid (HJ2.out (by rw [hlow]; rfl))
          clear hlow HJ HJ2 h1 h2
          go_wp2
          go_roundw
          case rel => exact ⟨k + 1, by omega, by go_num, HJ3, trivial⟩
          case measure => simp [intOf]; omega
    · obtain rfl : k = n := by omega
      have hB := HAll.out HJ.out
      have t1 : decide ((k : Int) = 3) = b := by rw [← hB, decide_eq_decide]; omega
      have t2 : ((k : Int) == 3) = b := by rw [← t1]; exact Bool.eq_iff_iff.2 (by simp)
      clear HJ hB
      go_wp2
      go_ret
      exact ⟨rfl, rfl⟩

set_option maxHeartbeats 16000000 in
theorem pRight_any (r : Rec) (u : Value) (w : World) (hE : Env w) (hu : FL u r.fields w) (hlz : r.lang.length ≤ maxLen) (hz : ∀ i, i < r.fields.length → ∀ j, j < (r.fields.getD i fd0).subs.length → ((r.fields.getD i fd0).subs.getD j sub0).2.length ≤ 1000000) (er : Int) (hb : rightRI r = er) :
    Calls Tryz.prog 21 #[RV r u] w fun e w' => e = .returned (.int .i64 er) ∧ Below w.heap.size w w' := by
  have HU := Lib.hid hu
  obtain ⟨a, cap, rfl, hcap, hmax⟩ := hu.length
  unfold maxLen at hmax
  unfold RV
  unfold rightRI at hb
  have HHit := Lib.hid (firstFE_hit r.fields)
  have HMiss := Lib.hid (firstFE_miss r.fields)
  have cL := Lib.hid (fun b hb W => language_any r.lang b hlz hb W)
  have cR := Lib.hid (fun k x W hEW hx hzz e he => fRight_any (r.fields.getD k fd0) x W hEW hx hzz e he)
  unfold FV at cR
  generalize firstFE r.fields = fe at *
  obtain ⟨lb, hlb⟩ : ∃ lb, langB r.lang = lb := ⟨_, rfl⟩
  rw [hlb] at hb
  have cL := Lib.hid (fun W => cL.out lb hlb W)
  clear hlb
  obtain ⟨n, hn⟩ : ∃ n, r.fields.length = n := ⟨_, rfl⟩
  rw [hn] at hcap hb HU ⊢
  have HN := Lib.hid hn
  have HZ := Lib.hid hz
  obtain ⟨W0, hW0⟩ : ∃ W0, w.alloc (.cells #[.int .i64 r.id, .int .i64 r.ver, .int .i64 r.kind, .string (S r.lang), .slice a n cap] 24) = W0 := ⟨_, rfl⟩
  have b0 : Below w.heap.size w W0 := by rw [← hW0]; exact (Below.refl w.heap.size w).alloc (Nat.le_refl _) _
  have hlt : w.heap.size < W0.heap.size := by rw [← hW0]; simp
  have k0 : W0.cell? ⟨w.heap.size, 0, none⟩ = some (.int .i64 r.id) := by rw [← hW0]; simp
  have k1 : W0.cell? ⟨w.heap.size, 1, none⟩ = some (.int .i64 r.ver) := by rw [← hW0]; simp
  have k2 : W0.cell? ⟨w.heap.size, 2, none⟩ = some (.int .i64 r.kind) := by rw [← hW0]; simp
  have k3 : W0.cell? ⟨w.heap.size, 3, none⟩ = some (.string (S r.lang)) := by rw [← hW0]; simp
  have k4 : W0.cell? ⟨w.heap.size, 4, none⟩ = some (.slice a n cap) := by rw [← hW0]; simp
  have HW0 := Lib.hid hW0
  have HU0 := Lib.hid (HU.out.after b0)
  have HE0 := Lib.hid (hE.after b0)
  clear hn hW0 hu HU hz hE hlz
  generalize S r.lang = st at *
  generalize r.id = vi at *
  generalize r.ver = vv at *
  generalize r.kind = vk at *
  by_cases h0 : vi < 0 ∨ 9999 < vi
  · rw [if_pos h0] at hb
    subst hb
    rcases h0 with h0 | h0
    · have d0 : decide (vi < 0) = true := decide_eq_true h0
      clear h0
      go_enter Tryz.func21, Tryz.ntmps21
      go_wp2
      go_ret
      rw [HW0.out]
      exact ⟨rfl, b0⟩
    · have d0 : decide (vi < 0) = false := decide_eq_false (by omega)
      have d1 : decide (9999 < vi) = true := decide_eq_true h0
      clear h0
      go_enter Tryz.func21, Tryz.ntmps21
      go_wp2
      go_ret
      rw [HW0.out]
      exact ⟨rfl, b0⟩
  rw [if_neg h0] at hb
  have d0 : decide (vi < 0) = false := decide_eq_false (by omega)
  have d1 : decide (9999 < vi) = false := decide_eq_false (by omega)
  clear h0
  by_cases h1 : vv < 1 ∨ 3 < vv
  · rw [if_pos h1] at hb
    subst hb
    rcases h1 with h0 | h0
    · have d2 : decide (vv < 1) = true := decide_eq_true h0
      clear h0
      go_enter Tryz.func21, Tryz.ntmps21
      go_wp2
      go_ret
      rw [HW0.out]
      exact ⟨rfl, b0⟩
    · have d2 : decide (vv < 1) = false := decide_eq_false (by omega)
      have d3 : decide (3 < vv) = true := decide_eq_true h0
      clear h0
      go_enter Tryz.func21, Tryz.ntmps21
      go_wp2
      go_ret
      rw [HW0.out]
      exact ⟨rfl, b0⟩
  rw [if_neg h1] at hb
  have d2 : decide (vv < 1) = false := decide_eq_false (by omega)
  have d3 : decide (3 < vv) = false := decide_eq_false (by omega)
  clear h1
  by_cases h2 : vk < 1 ∨ 4 < vk
  · rw [if_pos h2] at hb
    subst hb
    rcases h2 with h0 | h0
    · have d4 : decide (vk < 1) = true := decide_eq_true h0
      clear h0
      go_enter Tryz.func21, Tryz.ntmps21
      go_wp2
      go_ret
      rw [HW0.out]
      exact ⟨rfl, b0⟩
    · have d4 : decide (vk < 1) = false := decide_eq_false (by omega)
      have d5 : decide (4 < vk) = true := decide_eq_true h0
      clear h0
      go_enter Tryz.func21, Tryz.ntmps21
      go_wp2
      go_ret
      rw [HW0.out]
      exact ⟨rfl, b0⟩
  rw [if_neg h2] at hb
  have d4 : decide (vk < 1) = false := decide_eq_false (by omega)
  have d5 : decide (4 < vk) = false := decide_eq_false (by omega)
  clear h2
  have HB := Lib.hid hb
  clear hb
  go_enter Tryz.func21, Tryz.ntmps21
  go_wp2_with fail
  rw [HW0.out]
  refine (cL.out W0).mono ?_
  rintro e w1 ⟨rfl, hw1⟩
  rw [hw1]
  clear hw1
  clear k0 k1 k2 k3 d0 d1 d2 d3 d4 d5 cL
  cases lb
  · have hB := HB.out
    rw [if_pos rfl] at hB
    subst hB
    go_wp2
    go_ret
    exact ⟨rfl, b0⟩
  have hB := HB.out
  rw [if_neg (fun h => by cases h)] at hB
  clear HB
  by_cases hlong : 64 < n
  · rw [if_pos hlong] at hB
    subst hB
    have d6 : decide ((64 : Int) < (n : Int)) = true := decide_eq_true (by omega)
    go_wp2
    go_ret
    exact ⟨rfl, b0⟩
  rw [if_neg hlong] at hB
  subst hB
  have d6 : decide ((64 : Int) < (n : Int)) = false := decide_eq_false (by omega)
  have hn64 : n ≤ 64 := by omega
  clear hlong
  go_wp2
  go_loopw [46] (fun i wr => ∃ k : Nat, k ≤ n ∧ i = .int .i64 (k : Int) ∧ RowKit.Hid (∀ j, j < k → rightI (r.fields.getD j fd0) = 0) ∧ Below W0.heap.size W0 wr) (fun i _ => n - (intOf i).toNat)
  case atStart => exact ⟨0, Nat.zero_le _, rfl, (fun j hj => by omega), Below.refl _ _⟩
  case round =>
    obtain ⟨k, hk, rfl, HJ, hbw⟩ := hrel
    by_cases hkn : k < n
    · obtain ⟨g, o, cap', x, he, hg, c0, c1, c2, c3, hq⟩ := (HU0.out.after hbw).at k (by rw [HN.out]; exact hkn)
      obtain ⟨ha, -, hcp⟩ := Value.slice.inj he
      subst ha hcp
      clear he
      obtain ⟨ax, nx, cx, hx⟩ : ∃ ax nx cx, x = .slice ax nx cx := by obtain ⟨ax, cx, rfl, _⟩ := hq; exact ⟨_, _, _, rfl⟩
      subst hx
      have i1 : (0 : Int) ≤ (k : Int) := by omega
      have i2 : (k : Int) < (n : Int) := by omega
      obtain ⟨ee, hee⟩ : ∃ ee, rightI (r.fields.getD k fd0) = ee := ⟨_, rfl⟩
      have ha := hbw.alloc hbw.size (.cells #[.string (S (r.fields.getD k fd0).tag), .string (S (r.fields.getD k fd0).ind), .slice ax nx cx, .int .i64 (r.fields.getD k fd0).auth] 44)
      obtain ⟨wa, hwa⟩ : ∃ wa, wr.alloc (.cells #[.string (S (r.fields.getD k fd0).tag), .string (S (r.fields.getD k fd0).ind), .slice ax nx cx, .int .i64 (r.fields.getD k fd0).auth] 44) = wa := ⟨_, rfl⟩
      rw [hwa] at ha
      have hqa := hq.after (show Below wr.heap.size wr wa from by rw [← hwa]; exact (Below.refl _ _).alloc (Nat.le_refl _) _)
      have y0 : wa.cell? ⟨wr.heap.size, 0, none⟩ = some (.string (S (r.fields.getD k fd0).tag)) := by rw [← hwa]; simp
      have y1 : wa.cell? ⟨wr.heap.size, 1, none⟩ = some (.string (S (r.fields.getD k fd0).ind)) := by rw [← hwa]; simp
      have y2 : wa.cell? ⟨wr.heap.size, 2, none⟩ = some (.slice ax nx cx) := by rw [← hwa]; simp
      have y3 : wa.cell? ⟨wr.heap.size, 3, none⟩ = some (.int .i64 (r.fields.getD k fd0).auth) := by rw [← hwa]; simp
      have HWA := Lib.hid hwa
      have HA := Lib.hid ha
      clear hwa ha
      have c := Lib.hid (cR.out k _ wa (HE0.out.after HA.out) hqa (fun j hj => HZ.out k (by rw [HN.out]; exact hkn) j hj) ee hee)
      have hHit := HHit.out k (by rw [HN.out]; exact hkn) HJ.out
      rw [hee] at hHit
      by_cases h0 : ee = 0
      · have HJ2 : RowKit.Hid (∀ j, j < k + 1 → rightI (r.fields.getD j fd0) = 0) := by
          intro j hj
          rcases Nat.lt_or_ge j k with h | h
          · exact HJ.out j h
          · rw [show j = k by omega, hee]; exact h0
        subst h0
        clear HJ hq hqa hHit
        generalize S (r.fields.getD k fd0).tag = t0 at *
        generalize S (r.fields.getD k fd0).ind = t1 at *
        generalize (r.fields.getD k fd0).auth = t3 at *
        go_wp2_with fail
        rw [HWA.out]
        refine c.out.mono ?_
        rintro e w5 ⟨rfl, d⟩
        have hb5 := Lib.hid (HA.out.trans (d.mono HA.out.size))
        go_wp2
        go_roundw
        case rel => exact ⟨k + 1, by omega, by go_num, HJ2, hb5.out⟩
        case measure => simp [intOf]; omega
      · obtain rfl : fe = ee := hHit h0
        have t5 : (fe != 0) = true := by simpa using h0
        have Fin := Lib.hid (b0.trans (HA.out.mono b0.size))
        clear HJ hq hqa hHit h0 hee
        generalize S (r.fields.getD k fd0).tag = t0 at *
        generalize S (r.fields.getD k fd0).ind = t1 at *
        generalize (r.fields.getD k fd0).auth = t3 at *
        go_wp2_with fail
        rw [HWA.out]
        refine c.out.mono ?_
        rintro e w5 ⟨rfl, d⟩
        have Fin2 := Lib.hid (Fin.out.trans (d.mono Fin.out.size))
        go_wp2
        go_ret
        exact ⟨rfl, Fin2.out⟩
    · obtain rfl : k = n := by omega
      obtain rfl : fe = 0 := HMiss.out (fun j hj => HJ.out j (by rw [HN.out] at hj; exact hj))
      have Fin := Lib.hid (b0.trans (hbw.mono b0.size))
      go_wp2
      go_ret
      exact ⟨rfl, Fin.out⟩
end

section
open Go.RowKit Go.PlainAid
theorem kindsL_at (k : Int) (h1 : 1 ≤ k) (h4 : k ≤ 4) : kindsL.getD (k - 1).toNat [] = kindW k := by
  obtain rfl | rfl | rfl | rfl : k = 1 ∨ k = 2 ∨ k = 3 ∨ k = 4 := by omega
  all_goals decide
set_option maxHeartbeats 16000000 in
set_option maxRecDepth 100000 in
theorem header_any (r : Rec) (ua : Option Addr) (un uc : Nat) (h : rightRI r = 0) (w : World) (hE0 : Env w) :
    Calls Tryz.prog 23 #[RV r (.slice ua un uc)] w fun e w' => e = .returned (.string (S (hdrR r))) ∧ Below w.heap.size w w' := by
  obtain ⟨Q, hQ⟩ : ∃ Q, (fun (e : Ending) (w' : World) => e = .returned (.string (S (hdrR r))) ∧ Below w.heap.size w w') = Q := ⟨_, rfl⟩
  rw [hQ]
  have HQ : RowKit.Hid (∀ e w', (e = .returned (.string (S (hdrR r))) ∧ Below w.heap.size w w') → Q e w') := by rw [← hQ]; exact fun _ _ h => h
  clear hQ
  obtain ⟨h1, h2, h3, h4, h5, h6, h7, -, -⟩ := right_rec r h
  have hl3 := lang_len _ h7
  have c1 := fun W hE => cItoa r.id.toNat (by omega) W hE
  have c2 := fun W hE => cItoa r.ver.toNat (by omega) W hE
  rw [show ((r.id.toNat : Nat) : Int) = r.id by omega] at c1
  rw [show ((r.ver.toNat : Nat) : Int) = r.ver by omega] at c2
  replace c1 := Lib.hid c1
  replace c2 := Lib.hid c2
  have z1 : (S (Lib.decDigits r.id.toNat)).size ≤ 10 := by rw [S_size]; exact dec_len 9 _ (by omega)
  have z2 : (S (Lib.decDigits r.ver.toNat)).size ≤ 10 := by rw [S_size]; exact dec_len 9 _ (by omega)
  have z3 : (S (kindW r.kind)).size ≤ 7 := by
    rw [S_size]
    unfold kindW
    split
    · decide
    · split
      · decide
      · split <;> decide
  have z4 : (S r.lang).size ≤ 3 := by rw [S_size, hl3]; exact Nat.le_refl _
  have HS : RowKit.Hid ((⟨#[61]⟩ : ByteArray) ++ S (Lib.decDigits r.id.toNat) ++ ⟨#[32]⟩ ++ S (Lib.decDigits r.ver.toNat) ++ ⟨#[32]⟩ ++ S (kindW r.kind) ++ ⟨#[32]⟩ ++ S r.lang = S (hdrR r)) := by
    unfold RowKit.Hid
    rw [show (⟨#[61]⟩ : ByteArray) = S [61] from rfl, show (⟨#[32]⟩ : ByteArray) = S [32] from rfl]
    simp only [S_append]
    unfold hdrR hdrX midX
    simp
  unfold RV
  obtain ⟨W0, hW0⟩ : ∃ W0, w.alloc (.cells #[.int .i64 r.id, .int .i64 r.ver, .int .i64 r.kind, .string (S r.lang), .slice ua un uc] 24) = W0 := ⟨_, rfl⟩
  have b0 : Below w.heap.size w W0 := by rw [← hW0]; exact (Below.refl w.heap.size w).alloc (Nat.le_refl _) _
  have hR0 : W0.heap[w.heap.size]? = some (.cells #[.int .i64 r.id, .int .i64 r.ver, .int .i64 r.kind, .string (S r.lang), .slice ua un uc] 24 (0, 0)) := by rw [← hW0]; exact heap_alloc_new w _
  have hlt0 : w.heap.size < W0.heap.size := by rw [← hW0]; simp
  have HC := Lib.hid (fun (W : World) (h : Below W0.heap.size W0 W) => rcells ((h.block w.heap.size hlt0).trans hR0))
  have HE := Lib.hid (fun (W : World) (h : Below W0.heap.size W0 W) => (hE0.after b0).after h)
  obtain ⟨kk, hkk⟩ : ∃ kk : Nat, r.kind - 1 = (kk : Int) := ⟨(r.kind - 1).toNat, by omega⟩
  have hkk4 : kk < 4 := by omega
  have HK : RowKit.Hid (∀ W, Below W0.heap.size W0 W → W.cell? ⟨0, kk, none⟩ = some (.string (S (kindW r.kind)))) := by
    intro W hW
    have := ((hE0.after b0).after hW).kin.2 kk hkk4
    rw [show kk = (r.kind - 1).toNat by omega, kindsL_at _ h5 h6] at this
    rw [show kk = (r.kind - 1).toNat by omega]
    exact this
  have HW0 := Lib.hid hW0
  have B0 := Lib.hid b0
  have j0 : (0 : Int) ≤ (kk : Int) := by omega
  have j4 : (kk : Int) < 4 := by omega
  generalize S (Lib.decDigits r.id.toNat) = sa at *
  generalize S (Lib.decDigits r.ver.toNat) = sb at *
  generalize S (kindW r.kind) = sc at *
  generalize S r.lang = sd at *
  generalize S (hdrR r) = res at *
  clear h1 h2 h3 h7 hl3 hW0 b0 hR0 hlt0 hE0 h
  have hwr : IntKind.i64.wrap (kk : Int) = (kk : Int) := by
    obtain rfl | rfl | rfl | rfl : kk = 0 ∨ kk = 1 ∨ kk = 2 ∨ kk = 3 := by omega
    all_goals decide
  have J1 : ¬ 9223372036854775807 < 1 + sa.size := by omega
  have J2 : ¬ 9223372036854775807 < 1 + sa.size + 1 := by omega
  have J3 : ¬ 9223372036854775807 < 1 + sa.size + 1 + sb.size := by omega
  have J4 : ¬ 9223372036854775807 < 1 + sa.size + 1 + sb.size + 1 := by omega
  have J5 : ¬ 9223372036854775807 < 1 + sa.size + 1 + sb.size + 1 + sc.size := by omega
  have J6 : ¬ 9223372036854775807 < 1 + sa.size + 1 + sb.size + 1 + sc.size + 1 := by omega
  have J7 : ¬ 9223372036854775807 < 1 + sa.size + 1 + sb.size + 1 + sc.size + 1 + sd.size := by omega
  go_enter Tryz.func23, Tryz.ntmps23
  go_upto_region 1 with fail
  rw [HW0.out]
  apply wp_region_inv (V := [.eq (.pointer (some ⟨w.heap.size, 0, none⟩)), .eq (.int .i64 r.id), .eq (.string sa), .eq (.string ((⟨#[61]⟩ : ByteArray) ++ sa)), .eq (.string ((⟨#[61]⟩ : ByteArray) ++ sa ++ ⟨#[32]⟩)), .eq (.pointer (some ⟨w.heap.size, 1, none⟩)), .eq (.int .i64 r.ver), .eq (.string sb), .eq (.string ((⟨#[61]⟩ : ByteArray) ++ sa ++ ⟨#[32]⟩ ++ sb)), .eq (.string ((⟨#[61]⟩ : ByteArray) ++ sa ++ ⟨#[32]⟩ ++ sb ++ ⟨#[32]⟩)), .eq (.pointer (some ⟨w.heap.size, 2, none⟩)), .eq (.int .i64 r.kind), .eq (.int .i64 (kk : Int)), .eq (.pointer (some ⟨0, kk, none⟩)), .eq (.string sc), .eq (.string ((⟨#[61]⟩ : ByteArray) ++ sa ++ ⟨#[32]⟩ ++ sb ++ ⟨#[32]⟩ ++ sc)), .eq (.string ((⟨#[61]⟩ : ByteArray) ++ sa ++ ⟨#[32]⟩ ++ sb ++ ⟨#[32]⟩ ++ sc ++ ⟨#[32]⟩)), .eq (.pointer (some ⟨w.heap.size, 3, none⟩)), .eq (.string sd), .eq (.string ((⟨#[61]⟩ : ByteArray) ++ sa ++ ⟨#[32]⟩ ++ sb ++ ⟨#[32]⟩ ++ sc ++ ⟨#[32]⟩ ++ sd)), .eq (.string ((⟨#[61]⟩ : ByteArray) ++ sa ++ ⟨#[32]⟩ ++ sb ++ ⟨#[32]⟩ ++ sc ++ ⟨#[32]⟩ ++ sd))])
  case hm => kernel_rfl
  case hd => kernel_rfl
  case hb => kernel_rfl
  case hA =>
    intro vs
    simp only [puts, Act.put, List.setIfInBounds_toArray, List.set_cons_zero, List.set_cons_succ]
    exact rfl
  case hob =>
    refine Obs.cons _ _ _ _ _ _ ?o0 (Obs.cons _ _ _ _ _ _ ?o1 (Obs.cons _ _ _ _ _ _ ?o2 (Obs.cons _ _ _ _ _ _ ?o3 (Obs.cons _ _ _ _ _ _ ?o4 (Obs.cons _ _ _ _ _ _ ?o5 (Obs.cons _ _ _ _ _ _ ?o6 (Obs.cons _ _ _ _ _ _ ?o7 (Obs.cons _ _ _ _ _ _ ?o8 (Obs.cons _ _ _ _ _ _ ?o9 (Obs.cons _ _ _ _ _ _ ?o10 (Obs.cons _ _ _ _ _ _ ?o11 (Obs.cons _ _ _ _ _ _ ?o12 (Obs.cons _ _ _ _ _ _ ?o13 (Obs.cons _ _ _ _ _ _ ?o14 (Obs.cons _ _ _ _ _ _ ?o15 (Obs.cons _ _ _ _ _ _ ?o16 (Obs.cons _ _ _ _ _ _ ?o17 (Obs.cons _ _ _ _ _ _ ?o18 (Obs.cons _ _ _ _ _ _ ?o19 (Obs.cons _ _ _ _ _ _ ?o20 (Obs.nil _ _ _ _ _ _)))))))))))))))))))))
    case o0 =>
      intro vs W hw hd K hK
      go_simp
      exact hK.out _ _ rfl (Below.refl _ _)
    case o1 =>
      intro vs W hw hd K hK
      have h0 : vs 0 = .pointer (some ⟨w.heap.size, 0, none⟩) := hd 0 (by kernel_rfl)
      obtain ⟨⟨g0, g1, g2, g3, g4⟩, -⟩ := HC.out W hw
      simp only [Nat.reduceAdd, h0] at hK ⊢
      go_simp
      exact hK.out _ _ rfl (Below.refl _ _)
    case o2 =>
      intro vs W hw hd K hK
      have h1 : vs 1 = .int .i64 r.id := hd 1 (by kernel_rfl)
      simp only [Nat.reduceAdd, h1] at hK ⊢
      go_simp
      refine (c1.out W (HE.out W hw)).mono ?_
      rintro e W' ⟨rfl, hb'⟩
      exact hK.out _ _ rfl hb'
    case o3 =>
      intro vs W hw hd K hK
      have h2 : vs 2 = .string sa := hd 2 (by kernel_rfl)
      simp only [Nat.reduceAdd, h2] at hK ⊢
      go_simp
      exact hK.out _ _ rfl (Below.refl _ _)
    case o4 =>
      intro vs W hw hd K hK
      have h3 : vs 3 = .string ((⟨#[61]⟩ : ByteArray) ++ sa) := hd 3 (by kernel_rfl)
      simp only [Nat.reduceAdd, h3] at hK ⊢
      go_simp
      exact hK.out _ _ rfl (Below.refl _ _)
    case o5 =>
      intro vs W hw hd K hK
      go_simp
      exact hK.out _ _ rfl (Below.refl _ _)
    case o6 =>
      intro vs W hw hd K hK
      have h5 : vs 5 = .pointer (some ⟨w.heap.size, 1, none⟩) := hd 5 (by kernel_rfl)
      obtain ⟨⟨g0, g1, g2, g3, g4⟩, -⟩ := HC.out W hw
      simp only [Nat.reduceAdd, h5] at hK ⊢
      go_simp
      exact hK.out _ _ rfl (Below.refl _ _)
    case o7 =>
      intro vs W hw hd K hK
      have h6 : vs 6 = .int .i64 r.ver := hd 6 (by kernel_rfl)
      simp only [Nat.reduceAdd, h6] at hK ⊢
      go_simp
      refine (c2.out W (HE.out W hw)).mono ?_
      rintro e W' ⟨rfl, hb'⟩
      exact hK.out _ _ rfl hb'
    case o8 =>
      intro vs W hw hd K hK
      have h4 : vs 4 = .string ((⟨#[61]⟩ : ByteArray) ++ sa ++ ⟨#[32]⟩) := hd 4 (by kernel_rfl)
      have h7 : vs 7 = .string sb := hd 7 (by kernel_rfl)
      simp only [Nat.reduceAdd, h4, h7] at hK ⊢
      go_simp
      exact hK.out _ _ rfl (Below.refl _ _)
    case o9 =>
      intro vs W hw hd K hK
      have h8 : vs 8 = .string ((⟨#[61]⟩ : ByteArray) ++ sa ++ ⟨#[32]⟩ ++ sb) := hd 8 (by kernel_rfl)
      simp only [Nat.reduceAdd, h8] at hK ⊢
      go_simp
      exact hK.out _ _ rfl (Below.refl _ _)
    case o10 =>
      intro vs W hw hd K hK
      go_simp
      exact hK.out _ _ rfl (Below.refl _ _)
    case o11 =>
      intro vs W hw hd K hK
      have h10 : vs 10 = .pointer (some ⟨w.heap.size, 2, none⟩) := hd 10 (by kernel_rfl)
      obtain ⟨⟨g0, g1, g2, g3, g4⟩, -⟩ := HC.out W hw
      simp only [Nat.reduceAdd, h10] at hK ⊢
      go_simp
      exact hK.out _ _ rfl (Below.refl _ _)
    case o12 =>
      intro vs W hw hd K hK
      have h11 : vs 11 = .int .i64 r.kind := hd 11 (by kernel_rfl)
      simp only [Nat.reduceAdd, h11] at hK ⊢
      go_simp
      exact hK.out _ _ rfl (Below.refl _ _)
    case o13 =>
      intro vs W hw hd K hK
      have h12 : vs 12 = .int .i64 (kk : Int) := hd 12 (by kernel_rfl)
      simp only [Nat.reduceAdd, h12] at hK ⊢
      go_simp
      exact hK.out _ _ rfl (Below.refl _ _)
    case o14 =>
      intro vs W hw hd K hK
      have h13 : vs 13 = .pointer (some ⟨0, kk, none⟩) := hd 13 (by kernel_rfl)
      have gk := HK.out W hw
      simp only [Nat.reduceAdd, h13] at hK ⊢
      go_simp
      exact hK.out _ _ rfl (Below.refl _ _)
    case o15 =>
      intro vs W hw hd K hK
      have h9 : vs 9 = .string ((⟨#[61]⟩ : ByteArray) ++ sa ++ ⟨#[32]⟩ ++ sb ++ ⟨#[32]⟩) := hd 9 (by kernel_rfl)
      have h14 : vs 14 = .string sc := hd 14 (by kernel_rfl)
      simp only [Nat.reduceAdd, h9, h14] at hK ⊢
      go_simp
      exact hK.out _ _ rfl (Below.refl _ _)
    case o16 =>
      intro vs W hw hd K hK
      have h15 : vs 15 = .string ((⟨#[61]⟩ : ByteArray) ++ sa ++ ⟨#[32]⟩ ++ sb ++ ⟨#[32]⟩ ++ sc) := hd 15 (by kernel_rfl)
      simp only [Nat.reduceAdd, h15] at hK ⊢
      go_simp
      exact hK.out _ _ rfl (Below.refl _ _)
    case o17 =>
      intro vs W hw hd K hK
      go_simp
      exact hK.out _ _ rfl (Below.refl _ _)
    case o18 =>
      intro vs W hw hd K hK
      have h17 : vs 17 = .pointer (some ⟨w.heap.size, 3, none⟩) := hd 17 (by kernel_rfl)
      obtain ⟨⟨g0, g1, g2, g3, g4⟩, -⟩ := HC.out W hw
      simp only [Nat.reduceAdd, h17] at hK ⊢
      go_simp
      exact hK.out _ _ rfl (Below.refl _ _)
    case o19 =>
      intro vs W hw hd K hK
      have h16 : vs 16 = .string ((⟨#[61]⟩ : ByteArray) ++ sa ++ ⟨#[32]⟩ ++ sb ++ ⟨#[32]⟩ ++ sc ++ ⟨#[32]⟩) := hd 16 (by kernel_rfl)
      have h18 : vs 18 = .string sd := hd 18 (by kernel_rfl)
      simp only [Nat.reduceAdd, h16, h18] at hK ⊢
      go_simp
      exact hK.out _ _ rfl (Below.refl _ _)
    case o20 =>
      intro vs W hw hd K hK
      have h19 : vs 19 = .string ((⟨#[61]⟩ : ByteArray) ++ sa ++ ⟨#[32]⟩ ++ sb ++ ⟨#[32]⟩ ++ sc ++ ⟨#[32]⟩ ++ sd) := hd 19 (by kernel_rfl)
      simp only [Nat.reduceAdd, h19] at hK ⊢
      go_simp
      exact hK.out _ _ rfl (Below.refl _ _)
  case hfin =>
    intro vs W hw hd
    have h20 : vs 20 = .string ((⟨#[61]⟩ : ByteArray) ++ sa ++ ⟨#[32]⟩ ++ sb ++ ⟨#[32]⟩ ++ sc ++ ⟨#[32]⟩ ++ sd) := hd 20 (by decide)
    have BF := Lib.hid (B0.out.trans (hw.mono B0.out.size))
    simp only [Nat.reduceAdd, h20]
    rw [HS.out]
    first
      | (go_wp2; exact HQ.out _ _ ⟨rfl, BF.out⟩)
      | (go_wp2; go_ret; exact HQ.out _ _ ⟨rfl, BF.out⟩)
end

end Go.Proofs.YtnfallkeicehiaaGreatDoor
