/- Merged: PA08, KC16, KF16. -/
import Derived.Test.YtceneblmllpdnaaDoorQ19
import Derived.Test.YtceneblmllpdnaaDoorQ12
import Derived.Test.YtceneblmllpdnaaDoorQ08
import Derived.Test.YtceneblmllpdnaaDoorQ14
import Derived.Deep.CutBlock
import Derived.Deep.DeepCutAuto
import Derived.Test.YtceneblmllpdnaaDoorQ11
import Derived.Lib.SliceRun
import Derived.Laws.IdiomCopy
namespace Go.Proofs.YtceneblmllpdnaaDoor

section
open Go.RowKit Go.PlainAid
theorem lang_bad (l : List UInt8) (k : Nat) (hk : k < l.length) (h : lowB (l.getD k 0) = false) : langB l = false := by
  unfold langB
  by_cases h3 : l.length = 3
  · rw [h3] at hk
    match k, hk, h with
    | 0, _, h => rw [h]; simp
    | 1, _, h => rw [h]; simp
    | 2, _, h => rw [h]; simp
  · rw [decide_eq_false h3]; simp
theorem lang_all (l : List UInt8) (h : ∀ j, j < l.length → lowB (l.getD j 0) = true) : langB l = decide (l.length = 3) := by
  unfold langB
  by_cases h3 : l.length = 3
  · rw [h 0 (by omega), h 1 (by omega), h 2 (by omega)]; simp
  · rw [decide_eq_false h3]; simp
theorem low_nat (x : UInt8) : lowB x = (!(decide ((x.toNat : Int) < 97)) && !(decide ((122 : Int) < (x.toNat : Int)))) := by
  unfold lowB
  rw [← decide_not, ← decide_not]
  congr 1
  · rw [decide_eq_decide]; omega
  · rw [decide_eq_decide]; omega

set_option maxHeartbeats 8000000 in
theorem language_any (l : List UInt8) (b : Bool) (hz : l.length ≤ maxLen) (hb : langB l = b) (w : World) :
    Calls Tryd.prog 51 #[.string (S l)] w fun e w' => e = .returned (.bool b) ∧ w' = w := by
  unfold maxLen at hz
  obtain ⟨n, hn⟩ : ∃ n, l.length = n := ⟨_, rfl⟩
  have hsz : (S l).size = n := by rw [S_size, hn]
  have hbt := get_bt (S l)
  have HBS := Lib.hid (fun i => bt_S l i)
  have HBad := Lib.hid (fun k (hk : k < n) h => (lang_bad l k (by omega) h).symm.trans hb)
  have HAll : RowKit.Hid ((∀ j, j < n → lowB (l.getD j 0) = true) → decide (n = 3) = b) := by
    intro h
    rw [← hb, lang_all l (by rw [hn]; exact h), hn]
  rw [hn] at hz
  clear hn hb
  generalize S l = s at *
  go_enter Tryd.func51, Tryd.ntmps51
  go_wp2
  go_loopw [6] (fun i wr => ∃ k : Nat, k ≤ n ∧ i = .int .i64 (k : Int) ∧ RowKit.Hid (∀ j, j < k → lowB (l.getD j 0) = true) ∧ w = wr) (fun i _ => n - (intOf i).toNat)
  case atStart => exact ⟨0, Nat.zero_le _, rfl, (fun j hj => by omega), rfl⟩
  case round =>
    obtain ⟨k, hk, rfl, HJ, rfl⟩ := hrel
    by_cases hkn : k < n
    · have i1 : (0 : Int) ≤ (k : Int) := by omega
      have i2 : (k : Int) < (n : Int) := by omega
      have hbk := HBS.out k
      have hlow := low_nat (l.getD k 0)
      have HBk := Lib.hid (HBad.out k hkn)
      have HJ2 : RowKit.Hid (lowB (l.getD k 0) = true → ∀ j, j < k + 1 → lowB (l.getD j 0) = true) := by
        intro h0 j hj
        rcases Nat.lt_or_ge j k with h | h
        · exact HJ.out j h
        · rw [show j = k by omega]; exact h0
      generalize lowB (l.getD k 0) = lo at *
      generalize (l.getD k 0).toNat = m at *
      by_cases h1 : (m : Int) < 97
      · have t1 : decide ((m : Int) < 97) = true := decide_eq_true h1
        rw [t1] at hlow
        obtain rfl : false = b := HBk.out (by rw [hlow]; rfl)
        clear hlow HJ HJ2 h1
        go_wp2
        go_ret
        exact ⟨rfl, rfl⟩
      · have t1 : decide ((m : Int) < 97) = false := decide_eq_false h1
        rw [t1] at hlow
        by_cases h2 : (122 : Int) < (m : Int)
        · have t2 : decide ((122 : Int) < (m : Int)) = true := decide_eq_true h2
          rw [t2] at hlow
          obtain rfl : false = b := HBk.out (by rw [hlow]; rfl)
          clear hlow HJ HJ2 h1 h2
          go_wp2
          go_ret
          exact ⟨rfl, rfl⟩
        · have t2 : decide ((122 : Int) < (m : Int)) = false := decide_eq_false h2
          rw [t2] at hlow
          have HJ3 := Lib.hid (HJ2.out (by rw [hlow]; rfl))
          clear hlow HJ HJ2 h1 h2
          go_wp2
          go_roundw
          case rel => exact ⟨k + 1, by omega, by go_num, HJ3, trivial⟩
          case measure => simp [intOf]; omega
    · obtain rfl : k = n := by omega
      have hB := HAll.out HJ.out
      have t1 : decide ((k : Int) = 3) = b := by rw [← hB, decide_eq_decide]; omega
      have t2 : ((k : Int) == 3) = b := by rw [← t1]; exact Bool.eq_iff_iff.2 (by simp)
      clear HJ hB
      go_wp2
      go_ret
      exact ⟨rfl, rfl⟩

set_option maxHeartbeats 16000000 in
theorem pRight_any (r : Rec) (u : Value) (w : World) (hE : Env w) (hu : FL u r.fields w) (hlz : r.lang.length ≤ maxLen) (hz : ∀ i, i < r.fields.length → ∀ j, j < (r.fields.getD i fd0).subs.length → ((r.fields.getD i fd0).subs.getD j sub0).2.length ≤ 1000000) (er : Int) (hb : rightRI r = er) :
    Calls Tryd.prog 38 #[RV r u] w fun e w' => e = .returned (.int .i64 er) ∧ Below w.heap.size w w' := by
  have HU := Lib.hid hu
  obtain ⟨a, cap, rfl, hcap, hmax⟩ := hu.length
  unfold maxLen at hmax
  unfold RV
  unfold rightRI at hb
  have HHit := Lib.hid (firstFE_hit r.fields)
  have HMiss := Lib.hid (firstFE_miss r.fields)
  have cL := Lib.hid (fun b hb W => language_any r.lang b hlz hb W)
  have cR := Lib.hid (fun k x W hEW hx hzz e he => fRight_any (r.fields.getD k fd0) x W hEW hx hzz e he)
  unfold FV at cR
  generalize firstFE r.fields = fe at *
  obtain ⟨lb, hlb⟩ : ∃ lb, langB r.lang = lb := ⟨_, rfl⟩
  rw [hlb] at hb
  have cL := Lib.hid (fun W => cL.out lb hlb W)
  clear hlb
  obtain ⟨n, hn⟩ : ∃ n, r.fields.length = n := ⟨_, rfl⟩
  rw [hn] at hcap hb HU ⊢
  have HN := Lib.hid hn
  have HZ := Lib.hid hz
  obtain ⟨W0, hW0⟩ : ∃ W0, w.alloc (.cells #[.int .i64 r.id, .int .i64 r.ver, .int .i64 r.kind, .string (S r.lang), .slice a n cap] 31) = W0 := ⟨_, rfl⟩
  have b0 : Below w.heap.size w W0 := by rw [← hW0]; exact (Below.refl w.heap.size w).alloc (Nat.le_refl _) _
  have hlt : w.heap.size < W0.heap.size := by rw [← hW0]; simp
  have k0 : W0.cell? ⟨w.heap.size, 0, none⟩ = some (.int .i64 r.id) := by rw [← hW0]; simp
  have k1 : W0.cell? ⟨w.heap.size, 1, none⟩ = some (.int .i64 r.ver) := by rw [← hW0]; simp
  have k2 : W0.cell? ⟨w.heap.size, 2, none⟩ = some (.int .i64 r.kind) := by rw [← hW0]; simp
  have k3 : W0.cell? ⟨w.heap.size, 3, none⟩ = some (.string (S r.lang)) := by rw [← hW0]; simp
  have k4 : W0.cell? ⟨w.heap.size, 4, none⟩ = some (.slice a n cap) := by rw [← hW0]; simp
  have HW0 := Lib.hid hW0
  have HU0 := Lib.hid (HU.out.after b0)
  have HE0 := Lib.hid (hE.after b0)
  clear hn hW0 hu HU hz hE hlz
  generalize S r.lang = st at *
  generalize r.id = vi at *
  generalize r.ver = vv at *
  generalize r.kind = vk at *
  by_cases h0 : vi < 0 ∨ 9999 < vi
  · rw [if_pos h0] at hb
    subst hb
    rcases h0 with h0 | h0
    · have d0 : decide (vi < 0) = true := decide_eq_true h0
      clear h0
      go_enter Tryd.func38, Tryd.ntmps38
      go_wp2
      go_ret
      rw [HW0.out]
      exact ⟨rfl, b0⟩
    · have d0 : decide (vi < 0) = false := decide_eq_false (by omega)
      have d1 : decide (9999 < vi) = true := decide_eq_true h0
      clear h0
      go_enter Tryd.func38, Tryd.ntmps38
      go_wp2
      go_ret
      rw [HW0.out]
      exact ⟨rfl, b0⟩
  rw [if_neg h0] at hb
  have d0 : decide (vi < 0) = false := decide_eq_false (by omega)
  have d1 : decide (9999 < vi) = false := decide_eq_false (by omega)
  clear h0
  by_cases h1 : vv < 1 ∨ 3 < vv
  · rw [if_pos h1] at hb
    subst hb
    rcases h1 with h0 | h0
    · have d2 : decide (vv < 1) = true := decide_eq_true h0
      clear h0
      go_enter Tryd.func38, Tryd.ntmps38
      go_wp2
      go_ret
      rw [HW0.out]
      exact ⟨rfl, b0⟩
    · have d2 : decide (vv < 1) = false := decide_eq_false (by omega)
      have d3 : decide (3 < vv) = true := decide_eq_true h0
      clear h0
      go_enter Tryd.func38, Tryd.ntmps38
      go_wp2
      go_ret
      rw [HW0.out]
      exact ⟨rfl, b0⟩
  rw [if_neg h1] at hb
  have d2 : decide (vv < 1) = false := decide_eq_false (by omega)
  have d3 : decide (3 < vv) = false := decide_eq_false (by omega)
  clear h1
  by_cases h2 : vk < 1 ∨ 4 < vk
  · rw [if_pos h2] at hb
    subst hb
    rcases h2 with h0 | h0
    · have d4 : decide (vk < 1) = true := decide_eq_true h0
      clear h0
      go_enter Tryd.func38, Tryd.ntmps38
      go_wp2
      go_ret
      rw [HW0.out]
      exact ⟨rfl, b0⟩
    · have d4 : decide (vk < 1) = false := decide_eq_false (by omega)
      have d5 : decide (4 < vk) = true := decide_eq_true h0
      clear h0
      go_enter Tryd.func38, Tryd.ntmps38
      go_wp2
      go_ret
      rw [HW0.out]
      exact ⟨rfl, b0⟩
  rw [if_neg h2] at hb
  have d4 : decide (vk < 1) = false := decide_eq_false (by omega)
  have d5 : decide (4 < vk) = false := decide_eq_false (by omega)
  clear h2
  have HB := Lib.hid hb
  clear hb
  go_enter Tryd.func38, Tryd.ntmps38
  go_wp2_with fail
  rw [HW0.out]
  refine (cL.out W0).mono ?_
  rintro e w1 ⟨rfl, hw1⟩
  rw [hw1]
  clear hw1
  clear k0 k1 k2 k3 d0 d1 d2 d3 d4 d5 cL
  cases lb
  · have hB := HB.out
    rw [if_pos rfl] at hB
    subst hB
    go_wp2
    go_ret
    exact ⟨rfl, b0⟩
  have hB := HB.out
  rw [if_neg (fun h => by cases h)] at hB
  clear HB
  by_cases hlong : 64 < n
  · rw [if_pos hlong] at hB
    subst hB
    have d6 : decide ((64 : Int) < (n : Int)) = true := decide_eq_true (by omega)
    go_wp2
    go_ret
    exact ⟨rfl, b0⟩
  rw [if_neg hlong] at hB
  subst hB
  have d6 : decide ((64 : Int) < (n : Int)) = false := decide_eq_false (by omega)
  have hn64 : n ≤ 64 := by omega
  clear hlong
  go_wp2
  go_loopw [46] (fun i wr => ∃ k : Nat, k ≤ n ∧ i = .int .i64 (k : Int) ∧ RowKit.Hid (∀ j, j < k → rightI (r.fields.getD j fd0) = 0) ∧ Below W0.heap.size W0 wr) (fun i _ => n - (intOf i).toNat)
  case atStart => exact ⟨0, Nat.zero_le _, rfl, (fun j hj => by omega), Below.refl _ _⟩
  case round =>
    obtain ⟨k, hk, rfl, HJ, hbw⟩ := hrel
    by_cases hkn : k < n
    · obtain ⟨g, o, cap', x, he, hg, c0, c1, c2, c3, hq⟩ := (HU0.out.after hbw).at k (by rw [HN.out]; exact hkn)
      obtain ⟨ha, -, hcp⟩ := Value.slice.inj he
      subst ha hcp
      clear he
      obtain ⟨ax, nx, cx, hx⟩ : ∃ ax nx cx, x = .slice ax nx cx := by obtain ⟨ax, cx, rfl, _⟩ := hq; exact ⟨_, _, _, rfl⟩
      subst hx
      have i1 : (0 : Int) ≤ (k : Int) := by omega
      have i2 : (k : Int) < (n : Int) := by omega
      obtain ⟨ee, hee⟩ : ∃ ee, rightI (r.fields.getD k fd0) = ee := ⟨_, rfl⟩
      have ha := hbw.alloc hbw.size (.cells #[.string (S (r.fields.getD k fd0).tag), .string (S (r.fields.getD k fd0).ind), .slice ax nx cx, .int .i64 (r.fields.getD k fd0).auth] 45)
      obtain ⟨wa, hwa⟩ : ∃ wa, wr.alloc (.cells #[.string (S (r.fields.getD k fd0).tag), .string (S (r.fields.getD k fd0).ind), .slice ax nx cx, .int .i64 (r.fields.getD k fd0).auth] 45) = wa := ⟨_, rfl⟩
      rw [hwa] at ha
      have hqa := hq.after (show Below wr.heap.size wr wa from by rw [← hwa]; exact (Below.refl _ _).alloc (Nat.le_refl _) _)
      have y0 : wa.cell? ⟨wr.heap.size, 0, none⟩ = some (.string (S (r.fields.getD k fd0).tag)) := by rw [← hwa]; simp
      have y1 : wa.cell? ⟨wr.heap.size, 1, none⟩ = some (.string (S (r.fields.getD k fd0).ind)) := by rw [← hwa]; simp
      have y2 : wa.cell? ⟨wr.heap.size, 2, none⟩ = some (.slice ax nx cx) := by rw [← hwa]; simp
      have y3 : wa.cell? ⟨wr.heap.size, 3, none⟩ = some (.int .i64 (r.fields.getD k fd0).auth) := by rw [← hwa]; simp
      have HWA := Lib.hid hwa
      have HA := Lib.hid ha
      clear hwa ha
      have c := Lib.hid (cR.out k _ wa (HE0.out.after HA.out) hqa (fun j hj => HZ.out k (by rw [HN.out]; exact hkn) j hj) ee hee)
      have hHit := HHit.out k (by rw [HN.out]; exact hkn) HJ.out
      rw [hee] at hHit
      by_cases h0 : ee = 0
      · have HJ2 : RowKit.Hid (∀ j, j < k + 1 → rightI (r.fields.getD j fd0) = 0) := by
          intro j hj
          rcases Nat.lt_or_ge j k with h | h
          · exact HJ.out j h
          · rw [show j = k by omega, hee]; exact h0
        subst h0
        clear HJ hq hqa hHit
        generalize S (r.fields.getD k fd0).tag = t0 at *
        generalize S (r.fields.getD k fd0).ind = t1 at *
        generalize (r.fields.getD k fd0).auth = t3 at *
        go_wp2_with fail
        rw [HWA.out]
        refine c.out.mono ?_
        rintro e w5 ⟨rfl, d⟩
        have hb5 := Lib.hid (HA.out.trans (d.mono HA.out.size))
        go_wp2
        go_roundw
        case rel => exact ⟨k + 1, by omega, by go_num, HJ2, hb5.out⟩
        case measure => simp [intOf]; omega
      · obtain rfl : fe = ee := hHit h0
        have t5 : (fe != 0) = true := by simpa using h0
        have Fin := Lib.hid (b0.trans (HA.out.mono b0.size))
        clear HJ hq hqa hHit h0 hee
        generalize S (r.fields.getD k fd0).tag = t0 at *
        generalize S (r.fields.getD k fd0).ind = t1 at *
        generalize (r.fields.getD k fd0).auth = t3 at *
        go_wp2_with fail
        rw [HWA.out]
        refine c.out.mono ?_
        rintro e w5 ⟨rfl, d⟩
        have Fin2 := Lib.hid (Fin.out.trans (d.mono Fin.out.size))
        go_wp2
        go_ret
        exact ⟨rfl, Fin2.out⟩
    · obtain rfl : k = n := by omega
      obtain rfl : fe = 0 := HMiss.out (fun j hj => HJ.out j (by rw [HN.out] at hj; exact hj))
      have Fin := Lib.hid (b0.trans (hbw.mono b0.size))
      go_wp2
      go_ret
      exact ⟨rfl, Fin.out⟩
end

section
open Go.RowKit Go.PlainAid
/-- The error of a merge but for the number of fields. -/
def preM (a b : Rec) : Int :=
  if rightRI a ≠ 0 then rightRI a else if rightRI b ≠ 0 then rightRI b else if a.id = 0 ∨ b.id = 0 then 2 else if a.id = b.id then 1 else if a.ver ≠ b.ver then 20 else 0
theorem errM_pre (a b : Rec) (l : List Kp) : errM a b l = if preM a b ≠ 0 then preM a b else if 64 < (mergeF a.fields b.fields l).1.length then 13 else 0 := by
  unfold errM preM
  split
  · rfl
  · split
    · rfl
    · split
      · rfl
      · split
        · rfl
        · split
          · rfl
          · rfl
/-- A record whose texts and lists are not too long for its checks. -/
structure BndR (r : Rec) : Prop where
  lang : r.lang.length ≤ 1000000
  fields : r.fields.length ≤ 10000
  subs : ∀ f ∈ r.fields, f.subs.length ≤ 10000
  vals : ∀ f ∈ r.fields, ∀ s ∈ f.subs, s.2.length ≤ 1000000
theorem BndR.hz {r : Rec} (h : BndR r) : ∀ i, i < r.fields.length → ∀ j, j < (r.fields.getD i fd0).subs.length → ((r.fields.getD i fd0).subs.getD j sub0).2.length ≤ 1000000 := by
  intro i hi j hj
  have hm : r.fields.getD i fd0 ∈ r.fields := by
    rw [List.getD_eq_getElem?_getD, List.getElem?_eq_getElem hi]
    exact List.getElem_mem hi
  generalize r.fields.getD i fd0 = f at *
  refine h.vals f hm _ ?_
  rw [List.getD_eq_getElem?_getD, List.getElem?_eq_getElem hj]
  exact List.getElem_mem hj
theorem mRight_any (r : Rec) (u : Value) (w : World) (hE : Env w) (hu : FL u r.fields w) (hb : BndR r) (er : Int) (he : rightRI r = er) :
    Calls Tryd.prog 38 #[RV r u] w fun e w' => e = .returned (.int .i64 er) ∧ Below w.heap.size w w' :=
  pRight_any r u w hE hu (by have := hb.lang; unfold maxLen; omega) hb.hz er he

set_option maxHeartbeats 16000000 in
set_option maxRecDepth 100000 in
theorem pMergeable_any (a b : Rec) (u v : Value) (w : World) (hE : Env w) (hu : FL u a.fields w) (hv : FL v b.fields w) (ha : BndR a) (hb : BndR b) (e : Int) (he : preM a b = e) :
    Calls Tryd.prog 26 #[RV a u, RV b v] w fun en w' => en = .returned (.int .i64 e) ∧ Below w.heap.size w w' := by
  obtain ⟨W0, hW0⟩ : ∃ W0, (w.alloc (.cells #[.int .i64 a.id, .int .i64 a.ver, .int .i64 a.kind, .string (S a.lang), u] 31)).alloc (.cells #[.int .i64 b.id, .int .i64 b.ver, .int .i64 b.kind, .string (S b.lang), v] 31) = W0 := ⟨_, rfl⟩
  have b0 : Below w.heap.size w W0 := by rw [← hW0]; exact ((Below.refl w.heap.size w).alloc (Nat.le_refl _) _).alloc (by simp) _
  have hsz0 : W0.heap.size = w.heap.size + 2 := by rw [← hW0]; simp
  have hX : W0.heap[w.heap.size]? = some (.cells #[.int .i64 a.id, .int .i64 a.ver, .int .i64 a.kind, .string (S a.lang), u] 31 (0, 0)) := by
    rw [← hW0]
    exact (Below.heap_alloc _ _ _ (by simp)).trans (heap_alloc_new w _)
  have hY : W0.heap[w.heap.size + 1]? = some (.cells #[.int .i64 b.id, .int .i64 b.ver, .int .i64 b.kind, .string (S b.lang), v] 31 (0, 0)) := by
    rw [← hW0]
    have := heap_alloc_new (w.alloc (.cells #[.int .i64 a.id, .int .i64 a.ver, .int .i64 a.kind, .string (S a.lang), u] 31)) (.cells #[.int .i64 b.id, .int .i64 b.ver, .int .i64 b.kind, .string (S b.lang), v] 31)
    simpa using this
  obtain ⟨ea, hea⟩ : ∃ e, rightRI a = e := ⟨_, rfl⟩
  obtain ⟨eb, heb⟩ : ∃ e, rightRI b = e := ⟨_, rfl⟩
  have cA := Lib.hid (mRight_any a u W0 (hE.after b0) (hu.after b0) ha ea hea)
  have cB := Lib.hid (fun (W : World) (h : Below W0.heap.size W0 W) => mRight_any b v W ((hE.after b0).after h) ((hv.after b0).after h) hb eb heb)
  have HX := Lib.hid (fun (W : World) (h : Below W0.heap.size W0 W) => (h.block w.heap.size (by omega)).trans hX)
  have HY := Lib.hid (fun (W : World) (h : Below W0.heap.size W0 W) => (h.block (w.heap.size + 1) (by omega)).trans hY)
  have HB := Lib.hid (fun (W : World) (h : Below W0.heap.size W0 W) => b0.trans (h.mono b0.size))
  have HW0 := Lib.hid hW0
  obtain ⟨⟨x0, x1, x2, x3, x4⟩, -⟩ := rec_cells hX
  unfold preM at he
  rw [hea, heb] at he
  unfold RV at *
  clear hE hu hv ha hb hW0 hX hY hsz0 b0 hea heb
  generalize S a.lang = la at *
  generalize S b.lang = lb at *
  generalize a.id = aid at *
  generalize b.id = bid at *
  generalize a.ver = aver at *
  generalize b.ver = bver at *
  generalize a.kind = akind at *
  generalize b.kind = bkind at *
  go_enter Tryd.func26, Tryd.ntmps26
  go_upto_region 1 with fail
  rw [HW0.out]
  clear HW0
  go_wp2_with fail
  refine cA.out.mono ?_
  rintro en w1 ⟨rfl, hb1⟩
  by_cases h1 : ea = 0
  · rw [if_neg (fun g => g h1)] at he
    subst h1
    have HB1 := Lib.hid hb1
    obtain ⟨⟨y0, y1, y2, y3, y4⟩, -⟩ := rec_cells (HY.out w1 hb1)
    clear x0 x1 x2 x3 x4 cA hb1
    go_wp2_with fail
    refine (cB.out w1 HB1.out).mono ?_
    rintro en w2 ⟨rfl, hb2⟩
    have HB2 := Lib.hid (HB1.out.trans (hb2.mono HB1.out.size))
    obtain ⟨⟨x0, x1, x2, x3, x4⟩, -⟩ := rec_cells (HX.out w2 HB2.out)
    clear y0 y1 y2 y3 y4
    obtain ⟨⟨y0, y1, y2, y3, y4⟩, -⟩ := rec_cells (HY.out w2 HB2.out)
    have HF := Lib.hid (HB.out w2 HB2.out)
    clear hb2 cB HX HY HB HB1 HB2
    by_cases h2 : eb = 0
    · rw [if_neg (fun g => g h2)] at he
      subst h2
      by_cases h3 : aid = 0
      · rw [if_pos (.inl h3)] at he
        subst h3 he
        go_wp2
        go_ret
        exact ⟨rfl, HF.out⟩
      · by_cases h4 : bid = 0
        · rw [if_pos (.inr h4)] at he
          subst h4 he
          have d3 : decide (aid = 0) = false := decide_eq_false h3
          have q3 : (aid == 0) = false := beq_false_of_ne h3
          go_wp2
          go_ret
          exact ⟨rfl, HF.out⟩
        · rw [if_neg (fun g => g.elim h3 h4)] at he
          have d3 : decide (aid = 0) = false := decide_eq_false h3
          have q3 : (aid == 0) = false := beq_false_of_ne h3
          have d4 : decide (bid = 0) = false := decide_eq_false h4
          have q4 : (bid == 0) = false := beq_false_of_ne h4
          by_cases h5 : aid = bid
          · rw [if_pos h5] at he
            subst h5 he
            go_wp2
            go_ret
            exact ⟨rfl, HF.out⟩
          · rw [if_neg h5] at he
            have d5 : decide (aid = bid) = false := decide_eq_false h5
            have q5 : (aid == bid) = false := beq_false_of_ne h5
            by_cases h6 : aver = bver
            · rw [if_neg (fun g => g h6)] at he
              subst h6 he
              go_wp2
              go_ret
              exact ⟨rfl, HF.out⟩
            · rw [if_pos h6] at he
              subst he
              have d6 : decide (aver = bver) = false := decide_eq_false h6
              have q6 : (aver == bver) = false := beq_false_of_ne h6
              go_wp2
              go_ret
              exact ⟨rfl, HF.out⟩
    · rw [if_pos h2] at he
      subst he
      have d2 : decide (eb = 0) = false := decide_eq_false h2
      have q2 : (eb == 0) = false := beq_false_of_ne h2
      go_wp2
      go_ret
      exact ⟨rfl, HF.out⟩
  · rw [if_pos h1] at he
    subst he
    have d1 : decide (ea = 0) = false := decide_eq_false h1
    have q1 : (ea == 0) = false := beq_false_of_ne h1
    have HF := Lib.hid (HB.out w1 hb1)
    clear hb1 cA cB HX HY HB x0 x1 x2 x3 x4
    go_wp2
    go_ret
    exact ⟨rfl, HF.out⟩
end

section
open Go.RowKit Go.PlainAid
/-- A slice of fields that isn't nil, as it is appended whole. -/
theorem FL.whole {ad : Addr} {cap : Nat} {L : List Fld} {W0 w : World} (h : FL (.slice (some ad) L.length cap) L W0) (hb : Below W0.heap.size W0 w) : NW W0 (some ad) L w := by
  have := h.head L.length (Nat.le_refl _) hb
  rwa [List.take_length] at this

set_option maxHeartbeats 8000000 in
theorem fclone_any (V : World) (L : List Fld) (u : Value) (w : World) (hV : Below V.heap.size V w) (hu : FL u L V) (hs : L.length ≤ 100000) :
    Calls Tryd.prog 42 #[u] w fun e w' => ∃ v', e = .returned v' ∧ FR V w.heap.size v' L w' ∧ Below w.heap.size w w' := by
  have q22 : ∀ (w : World) (a : Option Addr) (n c n' c' : Nat), (binOp .eql 29 (.slice a n c) (.slice none n' c')).run Tryd.prog w = .ok (.bool a.isNone) w := fun w a n c n' c' => Lib.run_eql_slice_nil w _ _ a n c n' c' Tryd.underlying29
  obtain ⟨a, cap, rfl, hcap, hmax, hn, _⟩ := id hu
  cases a with
  | none =>
    obtain rfl := hn rfl
    have h0 : L = [] := List.eq_nil_of_length_eq_zero (by omega)
    subst h0
    clear hu
    go_enter Tryd.func42, Tryd.ntmps42
    go_wp2
    go_ret
    exact ⟨_, rfl, FR.nil _ _ _, Below.refl _ _⟩
  | some ad =>
    have HU := Lib.hid hu
    have hE := Lib.hid (FR.empty V w w.heap.size (Nat.le_refl _))
    have hbE := Lib.hid ((Below.refl w.heap.size w).alloc (Nat.le_refl _) (.cells #[] 45))
    have HNW := Lib.hid (hu.whole (hV.trans (hbE.out.mono hV.size)))
    have HL1 : RowKit.Hid (([] : List Fld).length + L.length ≤ 100000) := by unfold RowKit.Hid; rw [List.length_nil]; omega
    unfold maxLen at hmax
    obtain ⟨n, hnn⟩ : ∃ n, L.length = n := ⟨_, rfl⟩
    have HN := Lib.hid hnn
    rw [hnn] at hcap hs ⊢
    clear hu hnn hn
    go_enter Tryd.func42, Tryd.ntmps42
    go_wp2_with (at_builtin; refine append_fr _ rfl _ _ rfl V w.heap.size _ [] rfl hE.out (some ad) L n cap rfl HN.out (fun h => by cases h) HNW.out HL1.out (by simp) w.heap.size w (Nat.le_refl _) hbE.out ?_; intro v2 w2 hfr2 hb2 hB2 hn2)
    have HFR2 := Lib.hid hfr2
    have HB2 := Lib.hid hb2
    obtain ⟨us, _, hown, _⟩ := hfr2
    obtain ⟨ao, cp, rfl⟩ := own_form hown
    clear hown hb2 hn2
    go_wp2
    go_ret
    exact ⟨_, rfl, HFR2.out, HB2.out⟩
end

end Go.Proofs.YtceneblmllpdnaaDoor
