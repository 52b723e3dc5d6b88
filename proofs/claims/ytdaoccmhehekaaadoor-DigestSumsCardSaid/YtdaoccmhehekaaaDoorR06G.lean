/- libraryref06: Proof. -/
import Derived.Test.YtdaoccmhehekaaaDoorR06F
import Derived.Test.YtdaoccmhehekaaaDoorOwn2
namespace Go.Proofs.YtdaoccmhehekaaaDoor
open Go.RowKit Go.PlainAid

theorem SR.block {B : Nat} {v : Value} {L : List (List UInt8)} {w : World} (h : SR B v L w) : ∃ g, v.ownBlock = some g ∧ B ≤ g ∧ g < w.heap.size := by
  obtain ⟨g, cap, rfl, h1, h2, _⟩ := h.open
  exact ⟨g, rfl, h1, h2⟩
theorem SR.mono {B B' : Nat} {v : Value} {L : List (List UInt8)} {w : World} (h : SR B v L w) (hb : B' ≤ B) : SR B' v L w := by
  refine ⟨⟨h.row.1, ?_⟩, h.nn⟩
  rcases h.row.2 with hn | ⟨g, cap, cur, hv, hB, rest⟩
  · exact .inl hn
  · exact .inr ⟨g, cap, cur, hv, by omega, rest⟩
theorem SR.apart {B : Nat} {p m : Value} {P M : List (List UInt8)} {W W2 : World} (hp : SR B p P W) (hm : SR W.heap.size m M W2) : p.ownBlock ≠ m.ownBlock := by
  obtain ⟨gp, e1, _, e3⟩ := hp.block
  obtain ⟨g2, e4, e5, _⟩ := hm.block
  intro h
  rw [e1, e4] at h
  injection h with h
  omega
def proofI (L : List (List UInt8)) (i : Int) : List (List UInt8) × Int := if 0 ≤ i ∧ i < L.length then (proofL L i.toNat, 0) else ([], 2)
theorem BL.nil (w : World) : BL (.slice Option.none 0 0) [] w := ⟨Option.none, 0, rfl, Nat.le_refl _, Nat.zero_le _, fun _ => rfl, fun i hi => by cases hi⟩

set_option maxHeartbeats 4000000 in
theorem refProof_bad (L : List (List UInt8)) (i : Int) (hi : ¬ (0 ≤ i ∧ i < L.length)) (v : Value) (w : World) (hv : BL v L w) :
    Calls Tryd.prog 21 #[v, .int .i64 i] w fun e w' => e = .returned (.tuple #[.slice none 0 0, .int .i64 2]) ∧ w' = w := by
  obtain ⟨a, cap, rfl, hcap, hmax⟩ := hv.length
  clear hv
  generalize L.length = n at *
  by_cases h0 : i < 0
  · have d1 : decide (i < 0) = true := decide_eq_true h0
    clear hi
    go_enter Tryd.func21, Tryd.ntmps21
    go_wp2
    go_ret2
    exact ⟨rfl, rfl⟩
  · have d1 : decide (i < 0) = false := decide_eq_false h0
    have d2 : decide ((n : Int) ≤ i) = true := decide_eq_true (by omega)
    clear hi
    go_enter Tryd.func21, Tryd.ntmps21
    go_wp2
    go_ret2
    exact ⟨rfl, rfl⟩

set_option maxHeartbeats 16000000 in
theorem refProof_ok (L : List (List UInt8)) (hz : L.length ≤ 100000) (hx : ∀ i, i < L.length → (L.getD i []).length ≤ 100000) (i : Nat) (hi : i < L.length) (v : Value) (w : World) (hv : BL v L w) :
    Calls Tryd.prog 21 #[v, .int .i64 (i : Int)] w fun e w' => ∃ v', e = .returned (.tuple #[v', .int .i64 0]) ∧ BL v' (proofL L i) w' ∧ Below w.heap.size w w' := by
  have hb0 := (Below.refl w.heap.size w).alloc (Nat.le_refl _) (.cells #[] 9)
  have cL := Lib.hid (refLeaves_any L hz hx v (w.alloc (.cells #[] 9)) (hv.after hb0))
  obtain ⟨a, cap, rfl, hcap, hmax⟩ := hv.length
  clear hv
  have hs0 := SR.empty w
  obtain ⟨n, hN⟩ : ∃ n, L.length = n := ⟨_, rfl⟩
  have HR : RowKit.Hid (proofL L i = proofF n (leaves L) i) := by unfold RowKit.Hid proofL; rw [hN]
  have H16 := Lib.hid (leaves_16 L)
  have HLL : RowKit.Hid ((leaves L).length = n) := by unfold RowKit.Hid; rw [leaves_length, hN]
  rw [hN] at hcap hz cL hi ⊢
  clear hN hx
  obtain ⟨res, hres⟩ : ∃ res, proofL L i = res := ⟨_, rfl⟩
  rw [hres] at HR ⊢
  clear hres
  have d1 : decide ((i : Int) < 0) = false := decide_eq_false (by omega)
  have d2 : decide ((n : Int) ≤ (i : Int)) = false := decide_eq_false (by omega)
  obtain ⟨i0, hi0, hz0, hz1, hz2⟩ := info_string
  have HZ0 := Lib.hid hz0
  have HZ1 := Lib.hid hz1
  have HZ2 := Lib.hid hz2
  have HI := Lib.hid hi0
  clear hi0 hz0 hz1 hz2
  have hwsz : (w.alloc (.cells #[] 9)).heap.size = w.heap.size + 1 := by simp
  go_enter Tryd.func21, Tryd.ntmps21
  go_wp2_with fail
  refine (cL.out).mono ?_
  rintro e w1 ⟨v1, rfl, hs1, b1⟩
  have hsp := hs0.after b1
  have hbw1 := hb0.trans (b1.mono (by rw [hwsz]; omega))
  have hap : (Value.slice (some ⟨w.heap.size, 0, none⟩) 0 0).ownBlock ≠ v1.ownBlock := by
    obtain ⟨g, e1, e2, _⟩ := hs1.block
    rw [e1]
    intro h
    simp [Value.ownBlock] at h
    rw [hwsz] at e2
    omega
  have hsm := hs1.mono (B' := w.heap.size) (by rw [hwsz]; omega)
  clear hs1 hs0 hb0 b1
  go_wp2
  go_loopw [1, 6, 7] (fun ii p m wr => ∃ (k : Nat) (P M : List (List UInt8)), ii = .int .i64 (k : Int) ∧ SR w.heap.size p P wr ∧ SR w.heap.size m M wr ∧ p.ownBlock ≠ m.ownBlock ∧ k < M.length ∧ M.length + P.length ≤ n ∧ RowKit.Hid (A16 M ∧ P ++ proofF n M k = res) ∧ Below w.heap.size w wr) (fun _ _ m _ => lenV m)
  case atStart => exact ⟨i, [], leaves L, rfl, hsp, hsm, hap, by rw [HLL.out]; exact hi, by rw [HLL.out]; exact Nat.le_refl _, ⟨H16.out, by rw [HR.out]; rfl⟩, hbw1⟩
  case round =>
    obtain ⟨k, P, M, rfl, hp, hm, hap2, hk, hsum, HM, hbw⟩ := hrel
    clear hsp hsm hap hbw1
    by_cases hgt : 1 < M.length
    · have HN := Lib.hid (fun (u : Value) W (h : SR w.heap.size u M W) => refNext_any M (by omega) (fun i hi => by rw [HM.out.1 i hi]; decide) u W h.bl)
      have HPS := Lib.hid (proof_step n M k hgt (by omega))
      have HL2 := Lib.hid (nextL_length M)
      have H162 := Lib.hid (next_16 M HM.out.1)
      have HRes := Lib.hid HM.out.2
      obtain ⟨g, cp, rfl, hgB, hgs, hcc, hcm, hcell⟩ := hm.open
      have HCell := Lib.hid hcell
      clear hcell HM
      have hq1 : Int.tdiv (k : Int) 2 = ((k / 2 : Nat) : Int) := by rw [Int.tdiv_eq_ediv_of_nonneg (by omega)]; omega
      have hq2 : (k : Int) / 2 = ((k / 2 : Nat) : Int) := by omega
      have r1 : Int.tmod (k : Int) 2 = ((k % 2 : Nat) : Int) := by rw [Int.tmod_eq_emod_of_nonneg (by omega)]; omega
      have r2 : (k : Int) % 2 = ((k % 2 : Nat) : Int) := by omega
      have hk2 : k / 2 < (nextL M).length := by rw [nextL_length]; omega
      have hsz := hbw.size
      have t1 : decide ((1 : Int) < ((M.length : Nat) : Int)) = true := by simp only [decide_eq_true_eq]; omega
      have Hbw := Lib.hid hbw
      have HP := Lib.hid hp
      have Hm := Lib.hid hm
      obtain ⟨ml, hml⟩ : ∃ ml, M.length = ml := ⟨_, rfl⟩
      rw [hml] at t1 hk hgt hcc hsum
      have HML := Lib.hid hml
      rw [hml]
      clear hbw hp hm
      obtain ⟨pl, hpl⟩ : ∃ pl, P.length = pl := ⟨_, rfl⟩
      have hrow := HP.out.row
      rw [hpl] at hrow hsum
      have HPL := Lib.hid hpl
      clear hml hpl
      generalize k / 2 = kh at *
      by_cases hodd : k % 2 = 1
      · have HSib : RowKit.Hid (sib M k = [M.getD (k - 1) []]) := by unfold RowKit.Hid sib; rw [if_pos hodd]
        rw [hodd] at r1 r2
        obtain ⟨q, hq⟩ : ∃ q, k - 1 = q := ⟨_, rfl⟩
        rw [hq] at HSib
        have hc0 : wr.cell? ⟨g, q, none⟩ = some (.string (S (M.getD (q) []))) := HCell.out (q) (by rw [HML.out]; omega)
        have hsB : strB (M.getD (q) []) = .string (S (M.getD (q) [])) := rfl
        generalize M.getD (q) [] = d at hc0 HSib hsB
        have i1 : (k : Int) - 1 = (q : Int) := by omega
        have i2 : (0 : Int) ≤ (q : Int) := by omega
        have i3 : (q : Int) < (ml : Int) := by omega
        go_wp2_with (at_builtin; refine wpList_append_two _ rfl _ _ 27 rfl w.heap.size 9 i0 (.string ⟨#[]⟩) 1 16 Tryd.underlying27 HI.out HZ0.out HZ1.out HZ2.out rfl (by decide) _ _ _ rfl (hrow.alloc _) ⟨wr.heap.size, 0, none⟩ 1 1 [strB d] rfl rfl (cells_one _ _ _) (by intro u hu; simp at hu; subst hu; rfl) (by decide) (by unfold maxLen; omega) (by omega) (by simp; omega) ?_; intro v3 w3 hown3 hgrow3 hnn3 hob3)
        have hXp := hrow.alloc (.cells #[strB d] 9)
        have hXm := Hm.out.row.alloc (.cells #[strB d] 9)
        have hap3 := own_apart hXm hgrow3 (.inr (fun h => hap2 h.symm)) hob3
        have hm3 : SR w.heap.size (.slice (some ⟨g, 0, none⟩) ml cp) M w3 := ⟨by rw [HML.out]; have := hap3.1; rw [HML.out] at this; exact this, fun h => by cases h⟩
        have hp3 : SR w.heap.size v3 (P ++ [d]) w3 := SR.grow (by rw [HPL.out]; exact hown3) hnn3
        have hb3 : Below w.heap.size w w3 := (Hbw.out.alloc (by omega) (.cells #[strB d] 9)).grown hgrow3 (by simp; omega) (fun j hj => (hXp.lt j hj).1)
        clear hq1 r1
        go_wp2_with fail
        refine (HN.out _ _ hm3).mono ?_
        rintro e w5 ⟨v2, rfl, hs2, b2⟩
        have hp5 := (hp3).after b2
        have hb5 := (hb3).trans (b2.mono (hb3).size)
        have hap5 := SR.apart (hp3) hs2
        have hs5 := hs2.mono (B' := w.heap.size) (hb3).size
        obtain ⟨g2, cp2, rfl, _⟩ := hs2.open
        clear hs2 b2
        go_wp2
        go_roundw
        case rel =>
          refine ⟨kh, P ++ [d], nextL M, by go_num, hp5, hs5, hap5, hk2, by rw [HL2.out, HML.out]; simp only [List.length_append, List.length_cons, List.length_nil, HPL.out]; omega, ⟨H162.out, ?_⟩, hb5⟩
          rw [← HRes.out, HPS.out, HSib.out]
          simp
        case measure => simp [lenV]; rw [HL2.out, HML.out]; omega
      · by_cases hnext : k + 1 < ml
        · have HSib : RowKit.Hid (sib M k = [M.getD (k + 1) []]) := by unfold RowKit.Hid sib; rw [if_neg hodd, if_pos (by rw [HML.out]; exact hnext)]
          have t2 : (((k % 2 : Nat) : Int) == 1) = false := by simp; omega
          obtain ⟨q, hq⟩ : ∃ q, k + 1 = q := ⟨_, rfl⟩
          rw [hq] at HSib
          have t3 : decide ((k : Int) + 1 < (ml : Int)) = true := by simp only [decide_eq_true_eq]; omega
          generalize k % 2 = od at *
          have hc0 : wr.cell? ⟨g, q, none⟩ = some (.string (S (M.getD (q) []))) := HCell.out (q) (by rw [HML.out]; omega)
          have hsB : strB (M.getD (q) []) = .string (S (M.getD (q) [])) := rfl
          generalize M.getD (q) [] = d at hc0 HSib hsB
          have i1 : (k : Int) + 1 = (q : Int) := by omega
          have i2 : (0 : Int) ≤ (q : Int) := by omega
          have i3 : (q : Int) < (ml : Int) := by omega
          go_wp2_with (at_builtin; refine wpList_append_two _ rfl _ _ 27 rfl w.heap.size 9 i0 (.string ⟨#[]⟩) 1 16 Tryd.underlying27 HI.out HZ0.out HZ1.out HZ2.out rfl (by decide) _ _ _ rfl (hrow.alloc _) ⟨wr.heap.size, 0, none⟩ 1 1 [strB d] rfl rfl (cells_one _ _ _) (by intro u hu; simp at hu; subst hu; rfl) (by decide) (by unfold maxLen; omega) (by omega) (by simp; omega) ?_; intro v3 w3 hown3 hgrow3 hnn3 hob3)
          have hXp := hrow.alloc (.cells #[strB d] 9)
          have hXm := Hm.out.row.alloc (.cells #[strB d] 9)
          have hap3 := own_apart hXm hgrow3 (.inr (fun h => hap2 h.symm)) hob3
          have hm3 : SR w.heap.size (.slice (some ⟨g, 0, none⟩) ml cp) M w3 := ⟨by rw [HML.out]; have := hap3.1; rw [HML.out] at this; exact this, fun h => by cases h⟩
          have hp3 : SR w.heap.size v3 (P ++ [d]) w3 := SR.grow (by rw [HPL.out]; exact hown3) hnn3
          have hb3 : Below w.heap.size w w3 := (Hbw.out.alloc (by omega) (.cells #[strB d] 9)).grown hgrow3 (by simp; omega) (fun j hj => (hXp.lt j hj).1)
          clear hq1 r1
          go_wp2_with fail
          refine (HN.out _ _ hm3).mono ?_
          rintro e w5 ⟨v2, rfl, hs2, b2⟩
          have hp5 := (hp3).after b2
          have hb5 := (hb3).trans (b2.mono (hb3).size)
          have hap5 := SR.apart (hp3) hs2
          have hs5 := hs2.mono (B' := w.heap.size) (hb3).size
          obtain ⟨g2, cp2, rfl, _⟩ := hs2.open
          clear hs2 b2
          go_wp2
          go_roundw
          case rel =>
            refine ⟨kh, P ++ [d], nextL M, by go_num, hp5, hs5, hap5, hk2, by rw [HL2.out, HML.out]; simp only [List.length_append, List.length_cons, List.length_nil, HPL.out]; omega, ⟨H162.out, ?_⟩, hb5⟩
            rw [← HRes.out, HPS.out, HSib.out]
            simp
          case measure => simp [lenV]; rw [HL2.out, HML.out]; omega
        · have HSib : RowKit.Hid (sib M k = []) := by unfold RowKit.Hid sib; rw [if_neg hodd, if_neg (by rw [HML.out]; exact hnext)]
          have t2 : (((k % 2 : Nat) : Int) == 1) = false := by simp; omega
          have t3 : decide ((k : Int) + 1 < (ml : Int)) = false := by simp only [decide_eq_false_iff_not]; omega
          generalize k % 2 = od at *
          have hm3 : SR w.heap.size (.slice (some ⟨g, 0, none⟩) ml cp) M wr := by rw [← HML.out]; exact Hm.out
          clear hq1 r1
          go_wp2_with fail
          refine (HN.out _ _ hm3).mono ?_
          rintro e w5 ⟨v2, rfl, hs2, b2⟩
          have hp5 := (HP.out).after b2
          have hb5 := (Hbw.out).trans (b2.mono (Hbw.out).size)
          have hap5 := SR.apart (HP.out) hs2
          have hs5 := hs2.mono (B' := w.heap.size) (Hbw.out).size
          obtain ⟨g2, cp2, rfl, _⟩ := hs2.open
          clear hs2 b2
          go_wp2
          go_roundw
          case rel =>
            refine ⟨kh, P, nextL M, by go_num, hp5, hs5, hap5, hk2, by rw [HL2.out, HML.out]; simp only [HPL.out]; omega, ⟨H162.out, ?_⟩, hb5⟩
            rw [← HRes.out, HPS.out, HSib.out]
            simp
          case measure => simp [lenV]; rw [HL2.out, HML.out]; omega
    · have hr := HM.out.2
      rw [proof_one n M k (by omega), List.append_nil] at hr
      obtain ⟨g, cp, rfl, _⟩ := hm.open
      have hbl := hp.bl
      rw [hr] at hbl
      have hml : M.length = 1 := by omega
      rw [hml]
      have Hbw := Lib.hid hbw
      have HBL := Lib.hid hbl
      clear hp hm hap2 hbw hbl HM hr hml hgt hk hsum
      go_wp2
      go_ret2
      exact ⟨_, rfl, HBL.out, Hbw.out⟩
theorem refProof_any (L : List (List UInt8)) (hz : L.length ≤ 100000) (hx : ∀ i, i < L.length → (L.getD i []).length ≤ 100000) (i : Int) (v : Value) (w : World) (hv : BL v L w) (r : List (List UInt8)) (er : Int) (h : proofI L i = (r, er)) :
    Calls Tryd.prog 21 #[v, .int .i64 i] w fun e w' => ∃ v', e = .returned (.tuple #[v', .int .i64 er]) ∧ BL v' r w' ∧ Below w.heap.size w w' := by
  unfold proofI at h
  by_cases hi : 0 ≤ i ∧ i < L.length
  · rw [if_pos hi] at h
    simp only [Prod.mk.injEq] at h
    obtain ⟨rfl, rfl⟩ := h
    obtain ⟨k, rfl⟩ : ∃ k : Nat, i = (k : Int) := ⟨i.toNat, by omega⟩
    exact refProof_ok L hz hx k (by omega) v w hv
  · rw [if_neg hi] at h
    simp only [Prod.mk.injEq] at h
    obtain ⟨rfl, rfl⟩ := h
    refine (refProof_bad L i hi v w hv).mono fun e w' hh => ?_
    obtain ⟨rfl, rfl⟩ := hh
    exact ⟨_, rfl, BL.nil _, Below.refl _ _⟩
end Go.Proofs.YtdaoccmhehekaaaDoor
