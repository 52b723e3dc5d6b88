/- Package field: valueLength, readSubs, read, Parse. -/
import Derived.Test.YtjajihemcaihmaaGreatDoorFG07
import Derived.Test.YtjajihemcaihmaaGreatDoorEnv07
import Derived.RegionTactic
import Derived.BigRegion
import Derived.Test.YtjajihemcaihmaaGreatDoorR07P0
import Derived.Test.YtjajihemcaihmaaGreatDoorFJ07
namespace Go.Proofs.YtjajihemcaihmaaGreatDoor

section
open Go.RowKit Go.PlainAid
theorem drop_cons (l : List UInt8) (i : Nat) (h : i < l.length) : l.drop i = l.getD i 0 :: l.drop (i + 1) := by
  rw [List.getD_eq_getElem?_getD, List.getElem?_eq_getElem h]
  exact List.drop_eq_getElem_cons h
theorem vlen_cases (l : List UInt8) (i : Nat) (h : i < l.length) :
    (Lib.hasPrefix (l.drop i) [36, 36] = true ∧ i + 2 ≤ l.length ∧ vlen (l.drop i) = vlen (l.drop (i + 2)) + 2) ∨
    (Lib.hasPrefix (l.drop i) [36, 36] = false ∧ Lib.hasPrefix (l.drop i) [36] = true ∧ vlen (l.drop i) = 0) ∨
    (Lib.hasPrefix (l.drop i) [36, 36] = false ∧ Lib.hasPrefix (l.drop i) [36] = false ∧ vlen (l.drop i) = vlen (l.drop (i + 1)) + 1) := by
  have p1 : ∀ (x : UInt8) (t : List UInt8), Lib.hasPrefix (x :: t) [36] = decide (x = 36) := fun x t => one_prefix 36 x t
  rw [drop_cons l i h]
  by_cases hx : l.getD i 0 = 36
  · rw [hx]
    by_cases h1 : i + 1 < l.length
    · rw [show i + 2 = i + 1 + 1 from rfl, drop_cons l (i + 1) h1]
      by_cases hy : l.getD (i + 1) 0 = 36
      · rw [hy]
        exact .inl ⟨by simp [Lib.hasPrefix], by omega, vlen_two _⟩
      · refine .inr (.inl ⟨?_, by rw [p1]; simp, vlen_end _ (.inr (.inr ⟨_, _, rfl, hy⟩))⟩)
        show ((36 : UInt8) == 36 && ((36 : UInt8) == l.getD (i + 1) 0 && _)) = false
        rw [beq_eq_false_iff_ne.2 (fun e => hy e.symm)]
        simp
    · rw [List.drop_eq_nil_of_le (by omega)]
      exact .inr (.inl ⟨by simp [Lib.hasPrefix], by rw [p1]; simp, vlen_end _ (.inr (.inl rfl))⟩)
  · exact .inr (.inr ⟨two_36 _ _ hx, (p1 _ _).trans (decide_eq_false hx), vlen_other _ _ hx⟩)

set_option maxHeartbeats 8000000 in
theorem vlen_any (l : List UInt8) (hz : l.length ≤ 1000000) (r : Nat) (hr : vlen l = r) (w : World) :
    Calls Tryz.prog 52 #[.string (S l)] w fun e w' => e = .returned (.int .i64 (r : Int)) ∧ w' = w := by
  obtain ⟨n, hn⟩ : ∃ n, l.length = n := ⟨_, rfl⟩
  have hsz : (S l).size = n := by rw [S_size, hn]
  have hex : ∀ i, (S l).extract i n = S (l.drop i) := fun i => by rw [S_extract, ← hn, List.take_length]
  have HEx := Lib.hid hex
  have HC := Lib.hid (vlen_cases l)
  have H0 : RowKit.Hid (0 + vlen (l.drop 0) = r) := by
    unfold RowKit.Hid
    rw [List.drop_zero, hr, Nat.zero_add]
  have cP := Lib.hid (fun i p b hb W => cPrefix (l.drop i) p b hb W)
  have HN := Lib.hid hn
  rw [hn] at hz
  clear hex hn hr
  generalize hs : S l = s at *
  clear hs
  go_enter Tryz.func52, Tryz.ntmps52
  go_wp2
  go_loopw [3] (fun i wr => ∃ k : Nat, k ≤ n ∧ i = .int .i64 (k : Int) ∧ RowKit.Hid (k + vlen (l.drop k) = r) ∧ w = wr) (fun i _ => n - (intOf i).toNat)
  case atStart => exact ⟨0, Nat.zero_le _, rfl, H0, rfl⟩
  case round =>
    obtain ⟨k, hk, rfl, HV, rfl⟩ := hrel
    by_cases hkn : k < n
    · have hki : (k : Int) < (n : Int) := by omega
      have i1 : (0 : Int) ≤ (k : Int) := by omega
      have i2 : (k : Int) ≤ (n : Int) := by omega
      rcases HC.out k (by rw [HN.out]; exact hkn) with ⟨h2, hle, hv⟩ | ⟨h2, h1, hv⟩ | ⟨h2, h1, hv⟩
      · have hc := cP.out k [36, 36] true h2 w
        rw [← HEx.out k] at hc
        have HV2 : RowKit.Hid (k + 2 + vlen (l.drop (k + 2)) = r) := by
          have := HV.out
          unfold RowKit.Hid
          omega
        have hle2 : k + 2 ≤ n := by rw [← HN.out]; exact hle
        clear h2 hv hle
        go_wp2_with fail
        refine hc.mono ?_
        rintro e w1 ⟨rfl, rfl⟩
        go_wp2
        go_roundw
        case rel => exact ⟨k + 2, hle2, by go_num, HV2, trivial⟩
        case measure => simp [intOf]; omega
      · have hc := cP.out k [36, 36] false h2 w
        have hc1 := cP.out k [36] true h1 w
        rw [← HEx.out k] at hc hc1
        obtain rfl : k = r := by have := HV.out; omega
        clear h2 h1 hv
        go_wp2_with fail
        refine hc.mono ?_
        rintro e w1 ⟨rfl, hw1⟩
        rw [hw1]
        clear hw1 w1
        go_wp2_with fail
        refine hc1.mono ?_
        rintro e w1 ⟨rfl, rfl⟩
        go_wp2
        go_ret
        exact ⟨rfl, rfl⟩
      · have hc := cP.out k [36, 36] false h2 w
        have hc1 := cP.out k [36] false h1 w
        rw [← HEx.out k] at hc hc1
        have HV2 : RowKit.Hid (k + 1 + vlen (l.drop (k + 1)) = r) := by
          have := HV.out
          unfold RowKit.Hid
          omega
        clear h2 h1 hv
        go_wp2_with fail
        refine hc.mono ?_
        rintro e w1 ⟨rfl, hw1⟩
        rw [hw1]
        clear hw1 w1
        go_wp2_with fail
        refine hc1.mono ?_
        rintro e w1 ⟨rfl, rfl⟩
        go_wp2
        go_roundw
        case rel => exact ⟨k + 1, by omega, by go_num, HV2, trivial⟩
        case measure => simp [intOf]; omega
    · obtain rfl : k = n := by omega
      obtain rfl : r = k := by
        have := HV.out
        rw [List.drop_eq_nil_of_le (by rw [HN.out]; exact Nat.le_refl _)] at this
        exact this.symm
      go_wp2
      go_ret
      exact ⟨rfl, rfl⟩

theorem halveK_le : ∀ (m : Nat) (l : List UInt8), l.length ≤ m → (Lib.replaceK [36, 36] [36] (Lib.count l [36, 36]) l).length ≤ l.length
  | _, [], _ => by rw [rep_nil _ _ (by simp)]; exact Nat.le_refl _
  | 0, _ :: _, h => by simp at h
  | m + 1, x :: t, h => by
    cases hp : [36, 36].isPrefixOf (x :: t) with
    | true =>
      rw [rep_hit [36, 36] [36] (x :: t) (by simp) hp]
      cases t with
      | nil => simp at hp
      | cons y r =>
        have := halveK_le m r (by simp only [List.length_cons] at h; omega)
        show ([36] ++ Lib.replaceK [36, 36] [36] (Lib.count r [36, 36]) r).length ≤ _
        simp only [List.length_append, List.length_cons, List.length_nil]
        omega
    | false =>
      rw [rep_miss [36, 36] [36] t x (by simp) hp]
      have := halveK_le m t (by simp only [List.length_cons] at h; omega)
      simp only [List.length_cons]
      omega
theorem halve_le (l : List UInt8) : (halveL l).length ≤ l.length := by
  unfold halveL
  rw [rep_all _ _ _ (by simp)]
  exact halveK_le l.length l (Nat.le_refl _)
theorem subsK_le : ∀ (k : Nat) (l : List UInt8), (subsK k l).length ≤ k ∧ ∀ i, i < (subsK k l).length → ((subsK k l).getD i sub0).2.length ≤ l.length
  | 0, _ => ⟨Nat.le_refl _, fun i hi => by cases hi⟩
  | k + 1, [] => ⟨by simp [subsK], fun i hi => by cases hi⟩
  | k + 1, [_] => ⟨by simp [subsK], fun i hi => by cases hi⟩
  | k + 1, a :: c :: r => by
    obtain ⟨h1, h2⟩ := subsK_le k (r.drop (vlen r))
    have e : subsK (k + 1) (a :: c :: r) = (c, halveL (r.take (vlen r))) :: subsK k (r.drop (vlen r)) := rfl
    rw [e]
    refine ⟨by simp; omega, fun i hi => ?_⟩
    cases i with
    | zero =>
      have := halve_le (r.take (vlen r))
      rw [List.length_take] at this
      show (halveL (r.take (vlen r))).length ≤ _
      simp only [List.length_cons]
      omega
    | succ i =>
      have := h2 i (by simpa using hi)
      rw [List.length_drop] at this
      show ((subsK k (r.drop (vlen r))).getD i sub0).2.length ≤ _
      simp only [List.length_cons]
      omega
end

section
open Go.RowKit Go.PlainAid
theorem subsK_short (k : Nat) (l : List UInt8) (h : l.length ≤ 1) : subsK k l = [] := by
  match k, l, h with
  | 0, _, _ => rfl
  | _ + 1, [], _ => rfl
  | _ + 1, [_], _ => rfl

set_option maxHeartbeats 16000000 in
set_option maxRecDepth 100000 in
theorem readSubs_any (l : List UInt8) (hz : l.length ≤ 1000000) (w : World) (hE : Env w) :
    Calls Tryz.prog 35 #[.string (S l)] w fun e w' => ∃ v, e = .returned v ∧ w'.ownsRow w.heap.size 32 2 v (subsK 17 l).length (cellsL (subsK 17 l)) ∧ Below w.heap.size w w' := by
  obtain ⟨i0, hi, hz0, hz1, hz2⟩ := info_sub
  have HZ0 := Lib.hid hz0
  have HZ1 := Lib.hid hz1
  have HZ2 := Lib.hid hz2
  have HI := Lib.hid hi
  clear hi hz0 hz1 hz2
  have HE := Lib.hid (fun W (h : Below w.heap.size w W) => hE.after h)
  obtain ⟨R, hR⟩ : ∃ R, subsK 17 l = R := ⟨_, rfl⟩
  have HR := Lib.hid hR
  rw [hR]
  clear hR hE
  go_enter Tryz.func35, Tryz.ntmps35
  go_wp2
  go_loopw [0, 3] (fun s0 s3 wr => ∃ (rem : List UInt8) (k : Nat) (done : List Sub), s0 = .string (S rem) ∧ rem.length ≤ 1000000 ∧ RowKit.Hid (done ++ subsK k rem = R) ∧ done.length + k = 17 ∧ wr.ownsRow w.heap.size 32 2 s3 done.length (cellsL done) ∧ Below w.heap.size w wr) (fun s0 _ _ => strL s0)
  case atStart => exact ⟨l, 17, [], rfl, hz, HR.out, rfl, World.ownsRow_nil _ _ _ _, Below.refl _ _⟩
  case round =>
    obtain ⟨rem, k, done, rfl, hrz, HD, hk, hown, hbw⟩ := hrel
    obtain ⟨ao, cp, rfl⟩ := own_form hown
    have hrs := S_size rem
    have hsz := hbw.size
    obtain ⟨d, hd⟩ : ∃ d, done.length = d := ⟨_, rfl⟩
    by_cases h1 : rem.length ≤ 1
    · have hR := HD.out
      rw [subsK_short k rem h1, List.append_nil] at hR
      have d1 : decide ((1 : Int) < (rem.length : Int)) = false := decide_eq_false (by omega)
      rw [hR] at hown ⊢
      have HOwn := Lib.hid hown
      have Hbw := Lib.hid hbw
      clear hR HD hown hbw h1 hd hk
      generalize rem.length = m at *
      go_wp2
      go_ret
      exact ⟨_, rfl, HOwn.out, Hbw.out⟩
    have d1 : decide ((1 : Int) < (rem.length : Int)) = true := decide_eq_true (by omega)
    by_cases h17 : k = 0
    · subst h17
      have hR := HD.out
      rw [show subsK 0 rem = [] from rfl, List.append_nil] at hR
      rw [hR] at hown hk hd ⊢
      have d2 : decide ((R.length : Int) ≤ 16) = false := decide_eq_false (by omega)
      have HOwn := Lib.hid hown
      have Hbw := Lib.hid hbw
      clear hR HD hown hbw h1 hd hk
      generalize rem.length = m at *
      go_wp2
      go_ret
      exact ⟨_, rfl, HOwn.out, Hbw.out⟩
    obtain ⟨k', rfl⟩ : ∃ k', k = k' + 1 := ⟨k - 1, by omega⟩
    match rem, h1, hrz, HD, hrs, d1 with
    | c0 :: c1 :: r, _, hrz, HD, hrs, d1 =>
      have d2 : decide ((d : Int) ≤ 16) = true := decide_eq_true (by omega)
      have hsub : subsK (k' + 1) (c0 :: c1 :: r) = (c1, halveL (r.take (vlen r))) :: subsK k' (r.drop (vlen r)) := rfl
      have HD2 : RowKit.Hid ((done ++ [(c1, halveL (r.take (vlen r)))]) ++ subsK k' (r.drop (vlen r)) = R) := by
        unfold RowKit.Hid
        rw [← HD.out, hsub]
        simp
      have hvl := vlen_le r
      have hrl : r.length ≤ 1000000 := by simp only [List.length_cons] at hrz; omega
      have hhl := halve_le (r.take (vlen r))
      rw [List.length_take] at hhl
      have cV := Lib.hid (fun W => vlen_any r hrl (vlen r) rfl W)
      have cH := Lib.hid (fun W hE => cHalve (r.take (vlen r)) (by rw [List.length_take]; omega) W hE)
      have hsn := cellsL_snoc done (c1, halveL (r.take (vlen r)))
      unfold encS at hsn
      simp only at hsn
      have HSn := Lib.hid hsn
      have hbt := get_bt (S (c0 :: c1 :: r))
      have hb1 : bt (S (c0 :: c1 :: r)) 1 = (c1.toNat : Int) := by rw [bt_S]; rfl
      have HMs : RowKit.Hid (strL (.string (S (r.drop (vlen r)))) < strL (.string (S (c0 :: c1 :: r)))) := by
        show (S (r.drop (vlen r))).size < (S (c0 :: c1 :: r)).size
        rw [S_size, S_size, List.length_drop]
        simp only [List.length_cons]
        omega
      have hdz : (r.drop (vlen r)).length ≤ 1000000 := by rw [List.length_drop]; omega
      have hx2 : (S (c0 :: c1 :: r)).extract 2 (r.length + 2) = S r := by
        rw [S_extract, List.take_of_length_le (by simp)]
        rfl
      have hxa : (S r).extract 0 (vlen r) = S (r.take (vlen r)) := by rw [S_extract, List.drop_zero]
      have hxb : (S r).extract (vlen r) r.length = S (r.drop (vlen r)) := by rw [S_extract, List.take_length]
      have hrs2 : (S (c0 :: c1 :: r)).size = r.length + 2 := by rw [hrs]; rfl
      have hrs3 := S_size r
      have d1' : decide ((1 : Int) < ((r.length + 2 : Nat) : Int)) = true := decide_eq_true (by omega)
      rw [hd] at hown hk ⊢
      have HDl := Lib.hid hd
      have Hbw := Lib.hid hbw
      have HOwn := Lib.hid hown
      have HE1 := Lib.hid (HE.out _ hbw.drew)
      generalize r.drop (vlen r) = rd at *
      generalize halveL (r.take (vlen r)) = hv at *
      generalize r.take (vlen r) = rt at *
      generalize vlen r = e at *
      generalize r.length = rl at *
      generalize S r = sr at *
      generalize S (c0 :: c1 :: r) = sm at *
      obtain ⟨cy, hcy⟩ : ∃ cy, ((c1.toNat : Nat) : Int) = cy := ⟨_, rfl⟩
      rw [hcy] at hb1 HSn
      have j1 : (e : Int) ≤ (rl : Int) := by omega
      have j0 : (0 : Int) ≤ (e : Int) := by omega
      have j2 : (2 : Int) ≤ ((rl + 2 : Nat) : Int) := by omega
      have j3 : (1 : Int) < ((rl + 2 : Nat) : Int) := by omega
      clear hcy hown hbw hhl hrz hsub hsn HD d1 hrs hd
      have hR : RowKit.Hid (cellsL (done ++ [(c1, hv)]) = cellsL done ++ [.int .u8 cy, .string (S hv)] ∧ (done ++ [(c1, hv)]).length = d + 1) := ⟨HSn.out, by rw [List.length_append, HDl.out]; rfl⟩
      go_wp2
      go_region
      all_goals
        go_wp2_with fail
        refine (cV.out _).mono ?_
        rintro e1 w2 ⟨rfl, hw2⟩
        rw [hw2]
        clear hw2 w2
        go_wp2_with fail
        refine (cH.out _ HE1.out).mono ?_
        rintro e1 w3 ⟨rfl, b3⟩
        have B3 := Lib.hid (Hbw.out.drew.trans (b3.mono hsz))
        have s3 : w.heap.size ≤ w3.heap.size := Nat.le_trans hsz b3.size
        have hown3 := own_after (w := wr.drew) (w' := w3) HOwn.out b3
        have hownA := hown3.alloc (.cells #[.int .u8 cy, .string (S hv)] 32)
        have HOwnA := Lib.hid hownA
        have HCT := Lib.hid (cells_two w3 (.int .u8 cy) (.string (S hv)) 32)
        clear b3 hown3 hownA
        go_wp2_with (at_builtin; refine wpList_append_own _ rfl _ _ 23 rfl w.heap.size 32 i0 (.agg #[.int .u8 0, .string ⟨#[]⟩]) 2 24 Tryz.underlying23 HI.out HZ0.out HZ1.out HZ2.out rfl (by decide) _ _ _ rfl HOwnA.out ⟨w3.heap.size, 0, none⟩ 1 1 [.int .u8 cy, .string (S hv)] rfl rfl HCT.out (by intro u hu; simp at hu; rcases hu with rfl | rfl <;> rfl) (by unfold maxLen; omega) (by omega) (by simp; omega) ?_; intro v5 w5 hown5 hgrow5 hnil5)
        go_roundw
        case rel => exact ⟨rd, k', done ++ [(c1, hv)], rfl, hdz, HD2, by rw [hR.out.2]; omega, by rw [hR.out.1, hR.out.2]; exact hown5, (B3.out.alloc s3 _).grown hgrow5 (by simp; omega) (fun j hj => (HOwnA.out.lt j hj).1)⟩
        case measure => exact HMs.out
    | [], h1, _, _, _, _ => exact absurd (by simp) h1
    | [_], h1, _, _, _, _ => exact absurd (by simp) h1
end

section
open Go.RowKit Go.PlainAid
theorem readP_le (s : List UInt8) : (readP s).subs.length ≤ 17 ∧ ∀ i, i < (readP s).subs.length → ((readP s).subs.getD i sub0).2.length ≤ s.length := by
  obtain ⟨h1, h2⟩ := subsK_le 17 (Lib.cut (Lib.cut s [32]).2.1 [32]).2.1
  refine ⟨h1, fun i hi => ?_⟩
  have h3 := (cut_le (Lib.cut s [32]).2.1 [32]).2
  have h4 := (cut_le s [32]).2
  have := h2 i hi
  show ((subsK 17 (Lib.cut (Lib.cut s [32]).2.1 [32]).2.1).getD i sub0).2.length ≤ _
  omega

set_option maxHeartbeats 16000000 in
set_option maxRecDepth 100000 in
theorem read_any (s : List UInt8) (hz : s.length ≤ 1000000) (w : World) (hE : Env w) :
    Calls Tryz.prog 15 #[.string (S s)] w fun e w' => ∃ v, e = .returned (FV (readP s) v) ∧ w'.ownsRow w.heap.size 32 2 v (readP s).subs.length (cellsL (readP s).subs) ∧ Below w.heap.size w w' := by
  obtain ⟨⟨hd, rest, t1⟩, hc1⟩ : ∃ p, Lib.cut s [32] = p := ⟨_, rfl⟩
  obtain ⟨⟨ind, subs, t2⟩, hc2⟩ : ∃ p, Lib.cut rest [32] = p := ⟨_, rfl⟩
  obtain ⟨⟨tag, num, t3⟩, hc3⟩ : ∃ p, Lib.cut hd [64] = p := ⟨_, rfl⟩
  have hrp : readP s = ⟨tag, ind.map unB, subsK 17 subs, atoiV num⟩ := by
    unfold readP
    simp only [hc1, hc2, hc3]
  have l1 := cut_le s [32]
  have l2 := cut_le rest [32]
  have l3 := cut_le hd [64]
  rw [hc1] at l1
  rw [hc2] at l2
  rw [hc3] at l3
  simp only at l1 l2 l3
  rw [hrp]
  unfold FV
  simp only
  have cC1 := Lib.hid (fun W hE => cCut s 32 hz hd rest t1 hc1 W hE)
  have cC2 := Lib.hid (fun W hE => cCut rest 32 (by omega) ind subs t2 hc2 W hE)
  have cC3 := Lib.hid (fun W hE => cCut hd 64 (by omega) tag num t3 hc3 W hE)
  have cA := Lib.hid (fun W hE => cAtoi num (by omega) W hE)
  have cU := Lib.hid (fun W hE => cUnmark ind (by omega) W hE)
  have cS := Lib.hid (fun W hE => readSubs_any subs (by omega) W hE)
  clear hrp hc1 hc2 hc3 l1 l2 l3 hz
  have b0 : Below w.heap.size w (w.alloc (.cells #[.string ⟨#[]⟩, .string ⟨#[]⟩, .slice none 0 0, .int .i64 0] 25)) := (Below.refl w.heap.size w).alloc (Nat.le_refl _) _
  have hR0 : (w.alloc (.cells #[.string ⟨#[]⟩, .string ⟨#[]⟩, .slice none 0 0, .int .i64 0] 25)).heap[w.heap.size]? = some (.cells #[.string ⟨#[]⟩, .string ⟨#[]⟩, .slice none 0 0, .int .i64 0] 25 (0, 0)) := heap_alloc_new w _
  have hlt0 : w.heap.size < (w.alloc (.cells #[.string ⟨#[]⟩, .string ⟨#[]⟩, .slice none 0 0, .int .i64 0] 25)).heap.size := by simp
  obtain ⟨W0, hW0⟩ : ∃ W0, w.alloc (.cells #[.string ⟨#[]⟩, .string ⟨#[]⟩, .slice none 0 0, .int .i64 0] 25) = W0 := ⟨_, rfl⟩
  rw [hW0] at b0 hR0 hlt0
  have HW0 := Lib.hid hW0
  have HE := Lib.hid (fun W (h : Below W0.heap.size W0 W) => (hE.after b0).after h)
  have HR0 := Lib.hid hR0
  clear hW0 hE hR0
  generalize atoiV num = au at *
  generalize S s = ss at *
  generalize S hd = shd at *
  generalize S rest = srest at *
  generalize S num = snum at *
  generalize S tag = stag at *
  go_enter Tryz.func15, Tryz.ntmps15
  go_wp2_with fail
  rw [HW0.out]
  refine (cC1.out _ (HE.out _ (Below.refl _ _))).mono ?_
  rintro e w1 ⟨rfl, b1⟩
  have B1 := Lib.hid b1
  have s1 := b1.size
  clear b1 cC1
  go_wp2_with fail
  refine (cC2.out _ (HE.out _ B1.out)).mono ?_
  rintro e w2 ⟨rfl, b2⟩
  have B2 := Lib.hid (B1.out.trans (b2.mono s1))
  have s2 := Nat.le_trans s1 b2.size
  clear b2 B1 cC2
  go_wp2_with fail
  refine (cC3.out _ (HE.out _ B2.out)).mono ?_
  rintro e w3 ⟨rfl, b3⟩
  have B3 := Lib.hid (B2.out.trans (b3.mono s2))
  have s3 := Nat.le_trans s2 b3.size
  clear b3 B2 cC3
  go_wp2_with fail
  refine (cA.out _ (HE.out _ B3.out)).mono ?_
  rintro e w4 ⟨er, rfl, b4⟩
  have B4 := Lib.hid (B3.out.trans (b4.mono s3))
  have s4 := Nat.le_trans s3 b4.size
  clear b4 B3 cA
  go_wp2_with fail
  refine (cU.out _ (HE.out _ B4.out)).mono ?_
  rintro e w5 ⟨rfl, b5⟩
  have B5 := Lib.hid (B4.out.trans (b5.mono s4))
  have s5 := Nat.le_trans s4 b5.size
  clear b5 B4 cU
  go_wp2_with fail
  refine (cS.out _ (HE.out _ B5.out)).mono ?_
  rintro e w6 ⟨v, rfl, hown, b6⟩
  have B6 := Lib.hid (B5.out.trans (b6.mono s5))
  obtain ⟨ao, cp, rfl⟩ := own_form hown
  have hR6 := (B6.out.block w.heap.size hlt0).trans HR0.out
  obtain ⟨⟨r0, r1, r2, r3⟩, g0, g1, g2, g3⟩ := field_cells hR6
  have hfin := Lib.hid (field_set (x0 := .string stag) (x1 := .string (S (ind.map unB))) (x2 := .slice ao (subsK 17 subs).length cp) (x3 := .int .i64 au) hR6)
  have hbl := Lib.hid (b0.trans (B6.out.mono b0.size))
  have Fin := Lib.hid ((((hbl.out.setCell (p := ⟨w.heap.size, 0, none⟩) (Nat.le_refl _) (.string stag)).setCell (p := ⟨w.heap.size, 1, none⟩) (Nat.le_refl _) (.string (S (ind.map unB)))).setCell (p := ⟨w.heap.size, 2, none⟩) (Nat.le_refl _) (.slice ao (subsK 17 subs).length cp)).setCell (p := ⟨w.heap.size, 3, none⟩) (Nat.le_refl _) (.int .i64 au))
  have hlo : w.heap.size < w5.heap.size := Nat.lt_of_lt_of_le hlt0 s5
  have HO := Lib.hid (own_setCell (own_setCell (own_setCell (own_setCell hown (p := ⟨w.heap.size, 0, none⟩) hlo (.string stag)) (p := ⟨w.heap.size, 1, none⟩) hlo (.string (S (ind.map unB)))) (p := ⟨w.heap.size, 2, none⟩) hlo (.slice ao (subsK 17 subs).length cp)) (p := ⟨w.heap.size, 3, none⟩) hlo (.int .i64 au))
  have hle : w.heap.size ≤ w5.heap.size := Nat.le_of_lt hlo
  clear hown b6 B5 cS hR6 hlo
  go_wp2
  (try simp only [Exit.inBlock, Exit.then])
  refine bodyPost_ret (results_cell_row rfl _ _ w.heap.size _ _ _ _ rfl hfin.out Tryz.underlying25 rfl (by kernel_rfl)) rfl ?_
  refine ⟨_, rfl, ?_, Fin.out⟩
  have := HO.out
  refine ⟨this.1, ?_⟩
  rcases this.2 with hn | ⟨g, cap, cur, hv, hB', rest⟩
  · exact .inl hn
  · exact .inr ⟨g, cap, cur, hv, Nat.le_trans hle hB', rest⟩

set_option maxHeartbeats 16000000 in
set_option maxRecDepth 100000 in
theorem fParse_any (s : List UInt8) (hs : s.length ≤ 1000000) (w : World) (hE : Env w) (f : Fld) (er : Int) (h : parseR s = (f, er)) :
    Calls Tryz.prog 5 #[.string (S s)] w fun e w' => ∃ v, e = .returned (.tuple #[FV f v, .int .i64 er]) ∧ QL v f.subs w' ∧ Below w.heap.size w w' := by
  have hR0 : (w.alloc (.cells #[.string ⟨#[]⟩, .string ⟨#[]⟩, .slice none 0 0, .int .i64 0] 25)).heap[w.heap.size]? = some (.cells #[.string ⟨#[]⟩, .string ⟨#[]⟩, .slice none 0 0, .int .i64 0] 25 (0, 0)) := heap_alloc_new w _
  have b0 : Below w.heap.size w (w.alloc (.cells #[.string ⟨#[]⟩, .string ⟨#[]⟩, .slice none 0 0, .int .i64 0] 25)) := (Below.refl w.heap.size w).alloc (Nat.le_refl _) _
  have hlt0 : w.heap.size < (w.alloc (.cells #[.string ⟨#[]⟩, .string ⟨#[]⟩, .slice none 0 0, .int .i64 0] 25)).heap.size := by simp
  have cR := Lib.hid (read_any s hs _ (hE.after b0))
  obtain ⟨Q, hQ⟩ : ∃ Q, (fun (e : Ending) (w' : World) => ∃ v, e = .returned (.tuple #[FV f v, .int .i64 er]) ∧ QL v f.subs w' ∧ Below w.heap.size w w') = Q := ⟨_, rfl⟩
  rw [hQ]
  have HQ : RowKit.Hid (∀ e w', (∃ v, e = .returned (.tuple #[FV f v, .int .i64 er]) ∧ QL v f.subs w' ∧ Below w.heap.size w w') → Q e w') := by rw [← hQ]; exact fun _ _ h => h
  clear hQ
  have H := Lib.hid h
  clear h
  obtain ⟨hn17, hle⟩ := readP_le s
  obtain ⟨f0, hf0⟩ : ∃ f0, readP s = f0 := ⟨_, rfl⟩
  have HSome := Lib.hid (readP_some s)
  have HNone := Lib.hid (readP_none s)
  rw [hf0] at cR hle HSome HNone
  obtain ⟨pr, hpr⟩ : ∃ pr, printR f0 = pr := ⟨_, rfl⟩
  obtain ⟨r, pe⟩ := pr
  have HEnv := Lib.hid (fun W (h : Below w.heap.size w W) => hE.after h)
  have cP := Lib.hid (fun u W hE hq => fPrint_any f0 u W hE hq (fun i hi => by have := hle i hi; omega) r pe hpr)
  clear hle hn17 hf0 hE
  obtain ⟨st, hst⟩ : ∃ st, S s = st := ⟨_, rfl⟩
  rw [hst] at cR ⊢
  have HST := Lib.hid hst
  clear hst
  unfold FV at cR
  go_enter Tryz.func5, Tryz.ntmps5
  go_wp2_with fail
  refine cR.out.mono ?_
  rintro e w1 ⟨v, rfl, hown, hb⟩
  obtain ⟨ao, cp, rfl⟩ := own_form hown
  obtain ⟨n, hn⟩ : ∃ n, f0.subs.length = n := ⟨_, rfl⟩
  have hR1 := (hb.block w.heap.size hlt0).trans hR0
  have hb1 := b0.trans (hb.mono (Nat.le_of_lt hlt0))
  have hlt1 : w.heap.size < w1.heap.size := Nat.lt_of_lt_of_le hlt0 hb.size
  have hR2 : (w1.alloc (.cells #[.string (S f0.tag), .string (S f0.ind), .slice ao f0.subs.length cp, .int .i64 f0.auth] 25)).heap[w.heap.size]? = some (.cells #[.string ⟨#[]⟩, .string ⟨#[]⟩, .slice none 0 0, .int .i64 0] 25 (0, 0)) := (Below.heap_alloc _ _ _ hlt1).trans hR1
  have hF2 : (w1.alloc (.cells #[.string (S f0.tag), .string (S f0.ind), .slice ao f0.subs.length cp, .int .i64 f0.auth] 25)).heap[w1.heap.size]? = some (.cells #[.string (S f0.tag), .string (S f0.ind), .slice ao f0.subs.length cp, .int .i64 f0.auth] 25 (0, 0)) := heap_alloc_new w1 _
  have hb2 := hb1.alloc (Nat.le_of_lt hlt1) (.cells #[.string (S f0.tag), .string (S f0.ind), .slice ao f0.subs.length cp, .int .i64 f0.auth] 25)
  have hown2 := hown.alloc (.cells #[.string (S f0.tag), .string (S f0.ind), .slice ao f0.subs.length cp, .int .i64 f0.auth] 25)
  have hlt2 : w1.heap.size < (w1.alloc (.cells #[.string (S f0.tag), .string (S f0.ind), .slice ao f0.subs.length cp, .int .i64 f0.auth] 25)).heap.size := by simp
  have cP2 := Lib.hid (cP.out _ _ (HEnv.out _ hb2) (QL.of_row hown2))
  unfold FV at cP2
  obtain ⟨w2, hw2⟩ : ∃ w2, w1.alloc (.cells #[.string (S f0.tag), .string (S f0.ind), .slice ao f0.subs.length cp, .int .i64 f0.auth] 25) = w2 := ⟨_, rfl⟩
  rw [hw2] at cP2 hown2 hR2 hF2 hb2 hlt2
  have HW2 := Lib.hid hw2
  have HR2 := Lib.hid hR2
  have HF2 := Lib.hid hF2
  have HB2 := Lib.hid hb2
  have HOwn2 := Lib.hid hown2
  clear hR1 hb1 hR0 b0 hb hb2 hown hown2 hR2 hF2 hw2 cP hn
  go_wp2_with fail
  rw [HW2.out]
  refine cP2.out.mono ?_
  rintro e w3 ⟨rfl, b3⟩
  have hR3 := (b3.block w.heap.size (by omega)).trans HR2.out
  have hF3 := (b3.block w1.heap.size hlt2).trans HF2.out
  have HOwn3 := Lib.hid (own_after HOwn2.out b3)
  have HB3 := Lib.hid (HB2.out.trans (b3.mono (by omega)))
  clear b3 cP2
  have hq := S_eq r s
  rw [HST.out] at hq
  by_cases hok : rightI f0 = 0 ∧ lineL f0 = s
  · have hP : parseR s = (f0, 0) := by
      unfold parseR
      rw [HSome.out hok]
    have hH := H.out
    rw [hP] at hH
    obtain ⟨rfl, rfl⟩ := Prod.mk.inj hH
    unfold printR at hpr
    rw [if_pos hok.1] at hpr
    obtain ⟨hr1, rfl⟩ := Prod.mk.inj hpr
    rw [← hr1, hok.2, decide_eq_true rfl, HST.out] at hq
    rw [← hr1, hok.2, HST.out]
    obtain ⟨⟨q0, q1, q2, q3⟩, p0, p1, p2, p3⟩ := field_cells hF3
    obtain ⟨⟨r0, r1, r2, r3⟩, g0, g1, g2, g3⟩ := field_cells hR3
    have hfin := Lib.hid (field_set (x0 := .string (S f0.tag)) (x1 := .string (S f0.ind)) (x2 := .slice ao f0.subs.length cp) (x3 := .int .i64 f0.auth) hR3)
    have Fin := Lib.hid ((((HB3.out.setCell (p := ⟨w.heap.size, 0, none⟩) (Nat.le_refl _) (.string (S f0.tag))).setCell (p := ⟨w.heap.size, 1, none⟩) (Nat.le_refl _) (.string (S f0.ind))).setCell (p := ⟨w.heap.size, 2, none⟩) (Nat.le_refl _) (.slice ao f0.subs.length cp)).setCell (p := ⟨w.heap.size, 3, none⟩) (Nat.le_refl _) (.int .i64 f0.auth))
    have hB' : ∀ k, k < 4 → (⟨w.heap.size, k, none⟩ : Addr).block < (w.alloc (.cells #[.string ⟨#[]⟩, .string ⟨#[]⟩, .slice none 0 0, .int .i64 0] 25)).heap.size := fun k _ => hlt0
    have HQL := Lib.hid (QL.of_row (own_setCell (own_setCell (own_setCell (own_setCell HOwn3.out (hB' 0 (by decide)) (.string (S f0.tag))) (hB' 1 (by decide)) (.string (S f0.ind))) (hB' 2 (by decide)) (.slice ao f0.subs.length cp)) (hB' 3 (by decide)) (.int .i64 f0.auth)))
    clear hB' hok hP hH hpr hr1 hR3 hF3
    go_wp2
    (try simp only [Exit.inBlock, Exit.then])
    refine bodyPost_ret (results_row_tmp rfl _ _ w.heap.size _ _ _ _ rfl hfin.out Tryz.underlying25 rfl (by kernel_rfl)) rfl ?_
    exact HQ.out _ _ ⟨_, rfl, HQL.out, Fin.out⟩
  · have hP : parseR s = (fld0, 3) := by
      unfold parseR
      rw [HNone.out hok]
    have hH := H.out
    rw [hP] at hH
    obtain ⟨rfl, rfl⟩ := Prod.mk.inj hH
    have hcase : pe ≠ 0 ∨ (pe = 0 ∧ r ≠ s) := by
      unfold printR at hpr
      by_cases h0 : rightI f0 = 0
      · rw [if_pos h0] at hpr
        obtain ⟨hr1, rfl⟩ := Prod.mk.inj hpr
        exact .inr ⟨rfl, fun e => hok ⟨h0, hr1.trans e⟩⟩
      · rw [if_neg h0] at hpr
        obtain ⟨_, rfl⟩ := Prod.mk.inj hpr
        exact .inl h0
    obtain ⟨⟨r0, r1, r2, r3⟩, g0, g1, g2, g3⟩ := field_cells hR3
    have hfin := Lib.hid (field_set (x0 := .string ⟨#[]⟩) (x1 := .string ⟨#[]⟩) (x2 := .slice none 0 0) (x3 := .int .i64 0) hR3)
    have Fin := Lib.hid ((((HB3.out.setCell (p := ⟨w.heap.size, 0, none⟩) (Nat.le_refl _) (.string ⟨#[]⟩)).setCell (p := ⟨w.heap.size, 1, none⟩) (Nat.le_refl _) (.string ⟨#[]⟩)).setCell (p := ⟨w.heap.size, 2, none⟩) (Nat.le_refl _) (.slice none 0 0)).setCell (p := ⟨w.heap.size, 3, none⟩) (Nat.le_refl _) (.int .i64 0))
    clear hok hP hH hpr hR3 hF3
    rcases hcase with h0 | ⟨rfl, hne⟩
    · have t0 : (pe != 0) = true := by simpa using h0
      clear hq
      go_wp2
      (try simp only [Exit.inBlock, Exit.then])
      refine bodyPost_ret (results_row_tmp rfl _ _ w.heap.size _ _ _ _ rfl hfin.out Tryz.underlying25 rfl (by kernel_rfl)) rfl ?_
      exact HQ.out _ _ ⟨_, rfl, ⟨Option.none, 0, rfl, Nat.le_refl _, Nat.zero_le _, fun _ => rfl, fun i hi => by cases hi⟩, Fin.out⟩
    · rw [decide_eq_false hne] at hq
      clear hne
      generalize S r = sr at *
      go_wp2
      (try simp only [Exit.inBlock, Exit.then])
      refine bodyPost_ret (results_row_tmp rfl _ _ w.heap.size _ _ _ _ rfl hfin.out Tryz.underlying25 rfl (by kernel_rfl)) rfl ?_
      exact HQ.out _ _ ⟨_, rfl, ⟨Option.none, 0, rfl, Nat.le_refl _, Nat.zero_le _, fun _ => rfl, fun i hi => by cases hi⟩, Fin.out⟩
end

end Go.Proofs.YtjajihemcaihmaaGreatDoor
