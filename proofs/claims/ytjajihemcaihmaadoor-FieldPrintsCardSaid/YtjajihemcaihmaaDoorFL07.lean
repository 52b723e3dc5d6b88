/- Package field: readSubs, read. -/
import Derived.Test.YtjajihemcaihmaaDoorFK07
import Derived.Test.YtjajihemcaihmaaDoorR07P0
namespace Go.Proofs.YtjajihemcaihmaaDoor
open Go.RowKit Go.PlainAid

theorem subsK_short (k : Nat) (l : List UInt8) (h : l.length ≤ 1) : subsK k l = [] := by
  match k, l, h with
  | 0, _, _ => rfl
  | _ + 1, [], _ => rfl
  | _ + 1, [_], _ => rfl

set_option maxHeartbeats 16000000 in
set_option maxRecDepth 100000 in
theorem readSubs_any (l : List UInt8) (hz : l.length ≤ 1000000) (w : World) (hE : Env w) :
    Calls Tryd.prog 64 #[.string (S l)] w fun e w' => ∃ v, e = .returned v ∧ w'.ownsRow w.heap.size 45 2 v (subsK 17 l).length (cellsL (subsK 17 l)) ∧ Below w.heap.size w w' := by
  obtain ⟨i0, hi, hz0, hz1, hz2⟩ := info_sub
  have HZ0 := Lib.hid hz0
  have HZ1 := Lib.hid hz1
  have HZ2 := Lib.hid hz2
  have HI := Lib.hid hi
  clear hi hz0 hz1 hz2
  have HE := Lib.hid (fun W (h : Below w.heap.size w W) => hE.after h)
  obtain ⟨R, hR⟩ : ∃ R, subsK 17 l = R := ⟨_, rfl⟩
  have HR := Lib.hid hR
  rw [hR]
  clear hR hE
  go_enter Tryd.func64, Tryd.ntmps64
  go_wp2
  go_loopw [0, 3] (fun s0 s3 wr => ∃ (rem : List UInt8) (k : Nat) (done : List Sub), s0 = .string (S rem) ∧ rem.length ≤ 1000000 ∧ RowKit.Hid (done ++ subsK k rem = R) ∧ done.length + k = 17 ∧ wr.ownsRow w.heap.size 45 2 s3 done.length (cellsL done) ∧ Below w.heap.size w wr) (fun s0 _ _ => strL s0)
  case atStart => exact ⟨l, 17, [], rfl, hz, HR.out, rfl, World.ownsRow_nil _ _ _ _, Below.refl _ _⟩
  case round =>
    obtain ⟨rem, k, done, rfl, hrz, HD, hk, hown, hbw⟩ := hrel
    obtain ⟨ao, cp, rfl⟩ := own_form hown
    have hrs := S_size rem
    have hsz := hbw.size
    obtain ⟨d, hd⟩ : ∃ d, done.length = d := ⟨_, rfl⟩
    by_cases h1 : rem.length ≤ 1
    · have hR := HD.out
      rw [subsK_short k rem h1, List.append_nil] at hR
      have d1 : decide ((1 : Int) < (rem.length : Int)) = false := decide_eq_false (by omega)
      rw [hR] at hown ⊢
      have HOwn := Lib.hid hown
      have Hbw := Lib.hid hbw
      clear hR HD hown hbw h1 hd hk
      generalize rem.length = m at *
      go_wp2
      go_ret
      exact ⟨_, rfl, HOwn.out, Hbw.out⟩
    have d1 : decide ((1 : Int) < (rem.length : Int)) = true := decide_eq_true (by omega)
    by_cases h17 : k = 0
    · subst h17
      have hR := HD.out
      rw [show subsK 0 rem = [] from rfl, List.append_nil] at hR
      rw [hR] at hown hk hd ⊢
      have d2 : decide ((R.length : Int) ≤ 16) = false := decide_eq_false (by omega)
      have HOwn := Lib.hid hown
      have Hbw := Lib.hid hbw
      clear hR HD hown hbw h1 hd hk
      generalize rem.length = m at *
      go_wp2
      go_ret
      exact ⟨_, rfl, HOwn.out, Hbw.out⟩
    obtain ⟨k', rfl⟩ : ∃ k', k = k' + 1 := ⟨k - 1, by omega⟩
    match rem, h1, hrz, HD, hrs, d1 with
    | c0 :: c1 :: r, _, hrz, HD, hrs, d1 =>
      have d2 : decide ((d : Int) ≤ 16) = true := decide_eq_true (by omega)
      have hsub : subsK (k' + 1) (c0 :: c1 :: r) = (c1, halveL (r.take (vlen r))) :: subsK k' (r.drop (vlen r)) := rfl
      have HD2 : RowKit.Hid ((done ++ [(c1, halveL (r.take (vlen r)))]) ++ subsK k' (r.drop (vlen r)) = R) := by
        unfold RowKit.Hid
        rw [← HD.out, hsub]
        simp
      have hvl := vlen_le r
      have hrl : r.length ≤ 1000000 := by simp only [List.length_cons] at hrz; omega
      have hhl := halve_le (r.take (vlen r))
      rw [List.length_take] at hhl
      have cV := Lib.hid (fun W => vlen_any r hrl (vlen r) rfl W)
      have cH := Lib.hid (fun W hE => cHalve (r.take (vlen r)) (by rw [List.length_take]; omega) W hE)
      have hsn := cellsL_snoc done (c1, halveL (r.take (vlen r)))
      unfold encS at hsn
      simp only at hsn
      have HSn := Lib.hid hsn
      have hbt := get_bt (S (c0 :: c1 :: r))
      have hb1 : bt (S (c0 :: c1 :: r)) 1 = (c1.toNat : Int) := by rw [bt_S]; rfl
      have HMs : RowKit.Hid (strL (.string (S (r.drop (vlen r)))) < strL (.string (S (c0 :: c1 :: r)))) := by
        show (S (r.drop (vlen r))).size < (S (c0 :: c1 :: r)).size
        rw [S_size, S_size, List.length_drop]
        simp only [List.length_cons]
        omega
      have hdz : (r.drop (vlen r)).length ≤ 1000000 := by rw [List.length_drop]; omega
      have hx2 : (S (c0 :: c1 :: r)).extract 2 (r.length + 2) = S r := by
        rw [S_extract, List.take_of_length_le (by simp)]
        rfl
      have hxa : (S r).extract 0 (vlen r) = S (r.take (vlen r)) := by rw [S_extract, List.drop_zero]
      have hxb : (S r).extract (vlen r) r.length = S (r.drop (vlen r)) := by rw [S_extract, List.take_length]
      have hrs2 : (S (c0 :: c1 :: r)).size = r.length + 2 := by rw [hrs]; rfl
      have hrs3 := S_size r
      have d1' : decide ((1 : Int) < ((r.length + 2 : Nat) : Int)) = true := decide_eq_true (by omega)
      rw [hd] at hown hk ⊢
      have HDl := Lib.hid hd
      have Hbw := Lib.hid hbw
      have HOwn := Lib.hid hown
      have HE1 := Lib.hid (HE.out _ hbw.drew)
      generalize r.drop (vlen r) = rd at *
      generalize halveL (r.take (vlen r)) = hv at *
      generalize r.take (vlen r) = rt at *
      generalize vlen r = e at *
      generalize r.length = rl at *
      generalize S r = sr at *
      generalize S (c0 :: c1 :: r) = sm at *
      obtain ⟨cy, hcy⟩ : ∃ cy, ((c1.toNat : Nat) : Int) = cy := ⟨_, rfl⟩
      rw [hcy] at hb1 HSn
      have j1 : (e : Int) ≤ (rl : Int) := by omega
      have j0 : (0 : Int) ≤ (e : Int) := by omega
      have j2 : (2 : Int) ≤ ((rl + 2 : Nat) : Int) := by omega
      have j3 : (1 : Int) < ((rl + 2 : Nat) : Int) := by omega
      clear hcy hown hbw hhl hrz hsub hsn HD d1 hrs hd
      have hR : RowKit.Hid (cellsL (done ++ [(c1, hv)]) = cellsL done ++ [.int .u8 cy, .string (S hv)] ∧ (done ++ [(c1, hv)]).length = d + 1) := ⟨HSn.out, by rw [List.length_append, HDl.out]; rfl⟩
      go_wp2
      go_region
      all_goals
        go_wp2_with fail
        refine (cV.out _).mono ?_
        rintro e1 w2 ⟨rfl, hw2⟩
        rw [hw2]
        clear hw2 w2
        go_wp2_with fail
        refine (cH.out _ HE1.out).mono ?_
        rintro e1 w3 ⟨rfl, b3⟩
        have B3 := Lib.hid (Hbw.out.drew.trans (b3.mono hsz))
        have s3 : w.heap.size ≤ w3.heap.size := Nat.le_trans hsz b3.size
        have hown3 := own_after (w := wr.drew) (w' := w3) HOwn.out b3
        have hownA := hown3.alloc (.cells #[.int .u8 cy, .string (S hv)] 45)
        have HOwnA := Lib.hid hownA
        have HCT := Lib.hid (cells_two w3 (.int .u8 cy) (.string (S hv)) 45)
        clear b3 hown3 hownA
        go_wp2_with (at_builtin; refine wpList_append_own _ rfl _ _ 22 rfl w.heap.size 45 i0 (.agg #[.int .u8 0, .string ⟨#[]⟩]) 2 24 Tryd.underlying22 HI.out HZ0.out HZ1.out HZ2.out rfl (by decide) _ _ _ rfl HOwnA.out ⟨w3.heap.size, 0, none⟩ 1 1 [.int .u8 cy, .string (S hv)] rfl rfl HCT.out (by intro u hu; simp at hu; rcases hu with rfl | rfl <;> rfl) (by unfold maxLen; omega) (by omega) (by simp; omega) ?_; intro v5 w5 hown5 hgrow5 hnil5)
        go_roundw
        case rel => exact ⟨rd, k', done ++ [(c1, hv)], rfl, hdz, HD2, by rw [hR.out.2]; omega, by rw [hR.out.1, hR.out.2]; exact hown5, (B3.out.alloc s3 _).grown hgrow5 (by simp; omega) (fun j hj => (HOwnA.out.lt j hj).1)⟩
        case measure => exact HMs.out
    | [], h1, _, _, _, _ => exact absurd (by simp) h1
    | [_], h1, _, _, _, _ => exact absurd (by simp) h1
end Go.Proofs.YtjajihemcaihmaaDoor
