/- Merged: R07K, R11E, R11F. -/
import Derived.Test.YtnfallkeicehiaaGreatDoorQ09
import Derived.Deep.RegionHeld3
import Derived.Deep.CutBlock
import Derived.Deep.DeepCutAuto
import Derived.Test.YtnfallkeicehiaaGreatDoorQ15
namespace Go.Proofs.YtnfallkeicehiaaGreatDoor

section
open Go.RowKit Go.PlainAid
/-- All that lay in w lies still. -/
def Sees (w w' : World) : Prop := Below w.heap.size w w'
theorem Sees.self (w : World) : Sees w w := Below.refl _ _
theorem Sees.after {w w1 w2 : World} (h : Sees w w1) (hb : Below w1.heap.size w1 w2) : Sees w w2 := Below.trans h (hb.mono h.size)
theorem Sees_drew (w w' : World) : Sees w w'.drew ↔ Sees w w' :=
  ⟨fun h => ⟨h.os, h.tape, h.output, h.size, h.block⟩, fun h => ⟨h.os, h.tape, h.output, h.size, h.block⟩⟩

set_option maxHeartbeats 4000000 in
theorem refPrint_bad (f : Fld) (u : Value) (w : World) (hu : QL u f.subs w) (hz : ∀ i, i < f.subs.length → (f.subs.getD i sub0).2.length ≤ 1000000) (h : rightI f ≠ 0) :
    Calls Tryz.prog 28 #[FV f u] w fun e w' => e = .returned (.tuple #[.string ⟨#[]⟩, .int .i64 (rightI f)]) ∧ Below w.heap.size w w' := by
  have b0 : Below w.heap.size w (w.alloc (.cells #[.string (S f.tag), .string (S f.ind), u, .int .i64 f.auth] 44)) := (Below.refl w.heap.size w).alloc (Nat.le_refl _) _
  have cR := Lib.hid (refRight_any f u _ (hu.after b0) hz _ rfl)
  obtain ⟨a, cap, rfl, hcap, hmax⟩ := hu.length
  unfold FV at cR ⊢
  have t : (rightI f != 0) = true := by simpa using h
  have t2 : ¬ rightI f = 0 := h
  generalize rightI f = er at *
  clear h
  go_enter Tryz.func28, Tryz.ntmps28
  go_wp2_with fail
  refine (cR.out).mono ?_
  rintro e w1 ⟨rfl, b1⟩
  have b2 := b0.trans (b1.mono b0.size)
  clear b0 b1
  go_wp2
  go_ret2
  exact ⟨rfl, b2⟩

/-- The mark of a byte, as a text. -/
def MF (y : Int) : ByteArray := S (markB (UInt8.ofNat y.toNat))
theorem MF_at (l : List UInt8) (i : Nat) : MF (bt (S l) i) = S (markB (l.getD i 0)) := by
  unfold MF
  rw [bt_S, Int.toNat_natCast, UInt8.ofNat_toNat]
theorem MF_size (y : Int) : (MF y).size = 1 := by
  unfold MF markB
  rw [S_size]
  split <;> simp

theorem bt_nat (s : ByteArray) (i : Nat) : bt s i = ((UInt8.ofNat (bt s i).toNat).toNat : Int) := by
  have h := bt_S s.data.toList i
  rw [S_of] at h
  rw [h, Int.toNat_natCast, UInt8.ofNat_toNat]
set_option maxHeartbeats 16000000 in
set_option maxRecDepth 100000 in
theorem refPrint_ok (f : Fld) (u : Value) (w : World) (hu : QL u f.subs w) (h : rightI f = 0) :
    Calls Tryz.prog 28 #[FV f u] w fun e w' => e = .returned (.tuple #[.string (S (lineL f)), .int .i64 0]) ∧ Below w.heap.size w w' := by
  obtain ⟨htag, hind, hn1, hn16, hsub, ha0, ha1⟩ := right_facts f h
  have h200 : ∀ i, i < f.subs.length → (f.subs.getD i sub0).2.length ≤ 200 := fun i hi => (subE_zero _ (hsub i hi)).2.2.2
  have b0 : Below w.heap.size w (w.alloc (.cells #[.string (S f.tag), .string (S f.ind), u, .int .i64 f.auth] 44)) := (Below.refl w.heap.size w).alloc (Nat.le_refl _) _
  have cR := Lib.hid (refRight_any f u _ (hu.after b0) (fun i hi => by have := h200 i hi; omega) _ h)
  obtain ⟨a, cap, rfl, hcap, hmax, _, hcell⟩ := hu
  unfold FV at cR ⊢
  obtain ⟨n, hn⟩ : ∃ n, f.subs.length = n := ⟨_, rfl⟩
  have HCell := Lib.hid hcell
  have H200 := Lib.hid h200
  rw [hn] at hcap hn1 hn16 cR ⊢
  have HN := Lib.hid hn
  have h3 := tagB_len _ htag
  have h2 := indsB_len _ hind
  obtain ⟨W0, hW0⟩ : ∃ W0, w.alloc (.cells #[.string (S f.tag), .string (S f.ind), .slice a n cap, .int .i64 f.auth] 44) = W0 := ⟨_, rfl⟩
  rw [hn] at b0
  rw [hW0] at b0 cR
  have hlt : w.heap.size < W0.heap.size := by rw [← hW0]; simp
  have k0 : W0.cell? ⟨w.heap.size, 0, none⟩ = some (.string (S f.tag)) := by rw [← hW0]; simp
  have k1 : W0.cell? ⟨w.heap.size, 1, none⟩ = some (.string (S f.ind)) := by rw [← hW0]; simp
  have k2 : W0.cell? ⟨w.heap.size, 2, none⟩ = some (.slice a n cap) := by rw [← hW0]; simp
  have k3 : W0.cell? ⟨w.heap.size, 3, none⟩ = some (.int .i64 f.auth) := by rw [← hW0]; simp
  have HW0 := Lib.hid hW0
  clear hcell h200 hn hsub h htag hind hW0
  obtain ⟨au, hau⟩ : ∃ k : Nat, f.auth = (k : Int) := ⟨f.auth.toNat, by omega⟩
  have cD := Lib.hid (fun W => refDigits_any au 1 (by omega) (by omega) W)
  have hdz : (padL 1 (Lib.decDigits au)).length ≤ 20000 := by
    have := dec_bound au
    simp [padL]
    omega
  have HAP : RowKit.Hid (authP f.auth = if au = 0 then [] else 64 :: padL 1 (Lib.decDigits au)) := by
    unfold RowKit.Hid authP
    rw [hau, Int.toNat_natCast]
    by_cases h : au = 0
    · rw [if_pos (by omega), if_pos h]
    · rw [if_neg (by omega), if_neg h]
  have HHead : RowKit.Hid (headL f = f.tag ++ authP f.auth ++ 32 :: (markB (f.ind.getD 0 0) ++ markB (f.ind.getD 1 0) ++ [32])) := rfl
  have HLine : RowKit.Hid (lineL f = headL f ++ bodyL f.subs) := rfl
  rw [hau] at k3 cR HW0 ⊢
  have hau2 : au ≤ 9999 := by omega
  clear hau ha0 ha1
  have hM0 := MF_at f.ind 0
  have hM1 := MF_at f.ind 1
  have hti := S_size f.tag
  have hii := S_size f.ind
  rw [h3] at hti
  rw [h2] at hii
  obtain ⟨tg, htg⟩ : ∃ tg, S f.tag = tg := ⟨_, rfl⟩
  rw [htg] at k0 cR HW0 hti ⊢
  generalize S f.ind = ix at *
  have hbt := get_bt ix
  go_enter Tryz.func28, Tryz.ntmps28
  go_wp2_with fail
  rw [HW0.out]
  refine (cR.out).mono ?_
  rintro e w1 ⟨rfl, b1⟩
  have hse := Sees.self w1
  have j0 := (b1.cell (p := ⟨w.heap.size, 0, none⟩) hlt).trans k0
  have j1 := (b1.cell (p := ⟨w.heap.size, 1, none⟩) hlt).trans k1
  have j2 := (b1.cell (p := ⟨w.heap.size, 2, none⟩) hlt).trans k2
  have j3 := (b1.cell (p := ⟨w.heap.size, 3, none⟩) hlt).trans k3
  have hlt1 : w.heap.size < w1.heap.size := Nat.lt_of_lt_of_le hlt b1.size
  have B1 := Lib.hid (b0.trans (b1.mono b0.size))
  clear k0 k1 k2 k3 b1 b0
  generalize hbe : w.heap.size = b at *
  have HBE := Lib.hid hbe
  clear hbe
  have cM := Lib.hid (fun (y : Int) W (hy : y = bt ix 0 ∨ y = bt ix 1) (hs : Sees w1 W) => (refmark_any (UInt8.ofNat y.toNat) y (by rcases hy with h | h <;> rw [h] <;> exact bt_nat ix _) W).mono fun e w' hh => And.intro hh.1 (And.intro ((hs.after hh.2).cell (p := ⟨b, 1, none⟩) hlt1 |>.trans j1) (hs.after hh.2)))
  go_upto_if 18 with fail
  obtain ⟨TA, hTA⟩ : ∃ TA, S (f.tag ++ authP f.auth) = TA := ⟨_, rfl⟩
  have HTA := Lib.hid hTA
  have hTz : TA.size ≤ 21000 := by
    rw [← hTA, S_size, List.length_append, h3, HAP.out]
    split <;> simp <;> omega
  have HTG := Lib.hid htg
  clear hTA htg
  go_cut [5, 18] from 19 to 25 (fun p q wx => p = .string TA ∧ (∃ x, q = .bool x) ∧ wx = w1)
  case first =>
    by_cases h0 : au = 0
    · have t0 : ((au : Int) != 0) = false := by rw [h0]; rfl
      rw [if_pos h0] at HAP
      have HE : RowKit.Hid (tg = TA) := by
        unfold RowKit.Hid
        rw [← HTA.out, ← HTG.out, HAP.out, List.append_nil]
      clear h0 cD
      go_wp2
      go_meet
      exact ⟨by rw [HE.out], ⟨_, rfl⟩, rfl⟩
    · have t0 : ((au : Int) != 0) = true := by simp; omega
      rw [if_neg h0] at HAP
      have hz := S_size (padL 1 (Lib.decDigits au))
      have HE : RowKit.Hid (tg ++ (⟨#[64]⟩ : ByteArray) ++ S (padL 1 (Lib.decDigits au)) = TA) := by
        unfold RowKit.Hid
        rw [← HTA.out, ← HTG.out, HAP.out, show (⟨#[64]⟩ : ByteArray) = S [64] from rfl, S_append, S_append, List.append_assoc]
        rfl
      clear h0
      generalize S (padL 1 (Lib.decDigits au)) = dg at *
      go_wp2_with fail
      refine (cD.out _).mono ?_
      rintro e w2 ⟨rfl, hw2⟩
      rw [hw2]
      clear hw2
      go_wp2
      go_meet
      exact ⟨by rw [HE.out], ⟨_, rfl⟩, rfl⟩
  case rest =>
    obtain ⟨rfl, ⟨x18, rfl⟩, hwc⟩ := hcut
    rw [hwc]
    clear hwc
    have CM := Lib.hid (show ∀ (y : Int) W, (y = bt ix 0 ∨ y = bt ix 1) → Sees w1 W → Calls Tryz.prog 44 #[.int .u8 y] W fun e w' => e = .returned (.string (MF y)) ∧ w'.cell? ⟨b, 1, none⟩ = some (.string ix) ∧ Sees w1 w' from cM.out)
    have s0 := MF_size (bt ix 0)
    have s1 := MF_size (bt ix 1)
    have HX : RowKit.Hid (TA ++ (⟨#[32]⟩ : ByteArray) ++ MF (bt ix 0) ++ MF (bt ix 1) ++ (⟨#[32]⟩ : ByteArray) = S (headL f)) := by
      unfold RowKit.Hid
      rw [hM0, hM1, ← HTA.out, HHead.out, show (⟨#[32]⟩ : ByteArray) = S [32] from rfl, S_append, S_append, S_append, S_append]
      congr 1
      simp
    clear hM0 hM1 cM cD
    have z1 : ¬ 9223372036854775807 < TA.size + 1 := by omega
    have z2 : ¬ 9223372036854775807 < TA.size + 1 + 1 := by omega
    have z3 : ¬ 9223372036854775807 < TA.size + 1 + 1 + 1 := by omega
    have z4 : ¬ 9223372036854775807 < TA.size + 1 + 1 + 1 + 1 := by omega
    have hsz : (headL f).length = TA.size + 4 := by
      have h := congrArg ByteArray.size HX.out
      have z : (⟨#[32]⟩ : ByteArray).size = 1 := rfl
      rw [S_size, ByteArray.size_append, ByteArray.size_append, ByteArray.size_append, ByteArray.size_append, s0, s1, z] at h
      omega
    have hext : ∀ (l : List UInt8) (j : Nat), j < l.length → (S l).extract j (j + 1) = S [l.getD j 0] := by
      intro l j hj
      rw [S_extract, take_byte l j hj, List.drop_append_of_le_length (by rw [List.length_take]; omega), List.drop_of_length_le (by rw [List.length_take]; omega)]
      rfl
    have HExt := Lib.hid hext
    have Hd : RowKit.Hid ((headL f).length ≤ 21004) := by unfold RowKit.Hid; omega
    clear hext
    go_upto_region 7 with fail
    go_cut [5] from 25 to 38 (fun p wx => p = .string (S (headL f)) ∧ Sees w1 wx)
    case first =>
      go_region_held3 (fun w' => w'.cell? ⟨b, 1, none⟩ = some (.string ix) ∧ Sees w1 w') (simp [*, Sees_drew])
        (first | (go_at_call 44; refine (CM.out _ _ ?_ ?_).mono ?_; (first | exact .inl rfl | exact .inr rfl); (first | assumption | (rw [Sees_drew]; assumption)); rintro e w' ⟨rfl, g1, hse2⟩))
      all_goals
        go_wp2_with fail
        go_meet
        refine ⟨by rw [HX.out], ?_⟩
        first | assumption | (rw [Sees_drew]; assumption)
    case rest =>
      obtain ⟨rfl, hse1⟩ := hcut
      clear z1 z2 z3 z4 hsz s0 s1 hTz HX CM HTA hti hii hbt j0 j1 j3 hse
      go_wp2
      go_loopw [5, 6] (fun p i wr => ∃ k : Nat, k ≤ n ∧ i = .int .i64 (k : Int) ∧ p = .string (S (headL f ++ bodyL (f.subs.take k))) ∧ Sees w1 wr) (fun _ i _ => n - (intOf i).toNat)
      case atStart => exact ⟨0, Nat.zero_le _, rfl, by simp [bodyL], hse1⟩
      case round =>
        obtain ⟨k, hk, rfl, rfl, hsr⟩ := hrel
        clear hse1
        have j2r := (Below.cell hsr (p := ⟨b, 2, none⟩) hlt1).trans j2
        by_cases hkn : k < n
        · obtain ⟨g, o, rfl, hg, c1, c2⟩ := HCell.out k (by rw [HN.out]; exact hkn)
          have hg1 : g < w1.heap.size := by omega
          have c1 : wr.cell? ⟨g, o + k * 2, none⟩ = some (.int .u8 ((f.subs.getD k sub0).1.toNat : Int)) := ((Below.cell hsr (p := ⟨g, o + k * 2, none⟩) hg1).trans (B1.out.cell (p := ⟨g, o + k * 2, none⟩) hg)).trans c1
          have c2 : wr.cell? ⟨g, o + k * 2 + 1, none⟩ = some (.string (S (f.subs.getD k sub0).2)) := ((Below.cell hsr (p := ⟨g, o + k * 2 + 1, none⟩) hg1).trans (B1.out.cell (p := ⟨g, o + k * 2 + 1, none⟩) hg)).trans c2
          have i1 : (0 : Int) ≤ (k : Int) := by omega
          have i2 : (k : Int) < (n : Int) := by omega
          have hBS := bodyL_snoc f.subs k (by rw [HN.out]; exact hkn)
          have hv200 := H200.out k (by rw [HN.out]; exact hkn)
          have hpz : (headL f ++ bodyL (f.subs.take k)).length ≤ 21004 + 402 * 16 := by
            have h1 := bodyL_le (f.subs.take k) (fun i hi => by
              rw [List.length_take] at hi
              have := H200.out i (by omega)
              rwa [List.getD_eq_getElem?_getD, List.getElem?_take_of_lt (by omega), ← List.getD_eq_getElem?_getD])
            rw [List.length_take] at h1
            have := Hd.out
            rw [List.length_append]
            omega
          have HNext : RowKit.Hid (headL f ++ bodyL (f.subs.take (k + 1)) = headL f ++ bodyL (f.subs.take k) ++ (36 :: (f.subs.getD k sub0).1 :: dblL (f.subs.getD k sub0).2)) := by
            unfold RowKit.Hid
            rw [hBS, List.append_assoc]
            rfl
          clear hBS
          generalize headL f ++ bodyL (f.subs.take k) = pre at *
          generalize (f.subs.getD k sub0).2 = val at *
          generalize (f.subs.getD k sub0).1 = cd at *
          have hB := (Byt.one wr cd).str
          change (convert 49 9 (.slice (some ⟨wr.heap.size, 0, none⟩) 1 1)).run Tryz.prog (wr.alloc (.cells #[.int .u8 ((cd.toNat : Nat) : Int)] 5)) = .ok (.string (S [cd])) (wr.alloc (.cells #[.int .u8 ((cd.toNat : Nat) : Int)] 5)) at hB
          have hgr : g < wr.heap.size := Nat.lt_of_lt_of_le hg1 hsr.size
          have hbr : b < wr.heap.size := Nat.lt_of_lt_of_le hlt1 hsr.size
          have ba : Below wr.heap.size wr (wr.alloc (.cells #[.int .u8 ((cd.toNat : Nat) : Int)] 5)) := (Below.refl _ _).alloc (Nat.le_refl _) _
          have c2a := (ba.cell (p := ⟨g, o + k * 2 + 1, none⟩) hgr).trans c2
          have j2a := (ba.cell (p := ⟨b, 2, none⟩) hbr).trans j2r
          have HSA := Lib.hid (hsr.after ba)
          have HP0 : RowKit.Hid (S pre ++ (⟨#[36]⟩ : ByteArray) ++ S [cd] = S (pre ++ [36, cd] ++ dblL (val.take 0))) := by
            unfold RowKit.Hid
            rw [show (⟨#[36]⟩ : ByteArray) = S [36] from rfl, S_append, S_append]
            simp [dblL]
          have hps := S_size pre
          have hc1z : (S [cd]).size = 1 := rfl
          clear ba hsr
          obtain ⟨m, hm⟩ : ∃ m, val.length = m := ⟨_, rfl⟩
          have hvs := S_size val
          rw [hm] at hvs hv200
          have HM := Lib.hid hm
          have HV := Lib.hid (fun j => bt_S val j)
          have hbv := get_bt (S val)
          have hpre2 : (pre ++ [36, cd]).length ≤ 21006 + 402 * 16 := by rw [List.length_append]; simp; omega
          have HNx : RowKit.Hid (S (headL f ++ bodyL (f.subs.take (k + 1))) = S (pre ++ [36, cd] ++ dblL val)) := by
            unfold RowKit.Hid
            rw [HNext.out]
            simp
          clear hm hpz
          have hps2 := S_size (pre ++ [36, cd])
          generalize pre ++ [36, cd] = pr at *
          obtain ⟨sv, hsv⟩ : ∃ sv, S val = sv := ⟨_, rfl⟩
          rw [hsv] at hvs hbv HV c2a c2
          have HSV := Lib.hid hsv
          clear hsv
          have hpsb : (S pre).size ≤ 30000 := by
            have h := congrArg ByteArray.size HP0.out
            rw [ByteArray.size_append, ByteArray.size_append, S_size (pr ++ dblL (val.take 0))] at h
            simp [dblL] at h
            omega
          clear hps
          generalize S pre = sp at *
          go_wp2
          go_loopw [5, 8] (fun p i w2 => ∃ j : Nat, j ≤ m ∧ i = .int .i64 (j : Int) ∧ p = .string (S (pr ++ dblL (val.take j))) ∧ w2 = wr.alloc (.cells #[.int .u8 ((cd.toNat : Nat) : Int)] 5)) (fun _ i _ => m - (intOf i).toNat)
          case atStart => exact ⟨0, Nat.zero_le _, rfl, by rw [← HP0.out], rfl⟩
          case round =>
            obtain ⟨j, hj, rfl, rfl, rfl⟩ := hrel
            have hqz : (S (pr ++ dblL (val.take j))).size ≤ 50000 := by
              have := dblL_le (val.take j)
              rw [List.length_take] at this
              rw [S_size, List.length_append]
              omega
            by_cases hjm : j < m
            · have hv := HV.out j
              have hji : (j : Int) < (m : Int) := by omega
              have e0 : (0 : Int) ≤ (j : Int) := by omega
              have e1 : (j : Int) ≤ (j : Int) + 1 := by omega
              have e2 : (j : Int) + 1 ≤ (m : Int) := by omega
              have e3 : ((j : Int) + 1).toNat = j + 1 := by omega
              have HS := Lib.hid (dblL_snoc val j (by rw [HM.out]; exact hjm))
              have hex : sv.extract j (j + 1) = S [val.getD j 0] := by rw [← HSV.out]; exact HExt.out val j (by rw [HM.out]; exact hjm)
              have hez : (S [val.getD j 0]).size = 1 := rfl
              by_cases h36 : val.getD j 0 = 36
              · rw [h36] at hv hex hez
                have HQ : RowKit.Hid (S (pr ++ dblL (val.take (j + 1))) = S (pr ++ dblL (val.take j)) ++ (⟨#[36]⟩ : ByteArray) ++ S [36]) := by
                  unfold RowKit.Hid
                  rw [HS.out, if_pos h36, show (⟨#[36]⟩ : ByteArray) = S [36] from rfl, S_append, S_append]
                  simp
                have hb36 : bt sv j = 36 := hv
                clear hv h36 HS
                generalize S (pr ++ dblL (val.take j)) = sq at *
                generalize S [36] = se at *
                go_wp2
                go_roundw
                case rel => exact ⟨j + 1, by omega, by go_num, by rw [HQ.out], trivial⟩
                case measure => simp [intOf]; omega
              · have HQ : RowKit.Hid (S (pr ++ dblL (val.take (j + 1))) = S (pr ++ dblL (val.take j)) ++ S [val.getD j 0]) := by
                  unfold RowKit.Hid
                  rw [HS.out, if_neg h36, S_append]
                  simp
                have hb36 : (bt sv j == 36) = false := by
                  rw [hv]
                  have : (val.getD j 0).toNat ≠ 36 := fun e => h36 (UInt8.toNat_inj.1 e)
                  clear hv hex h36
                  generalize (val.getD j 0).toNat = q at *
                  simp; omega
                clear hv h36 HS
                generalize S (pr ++ dblL (val.take j)) = sq at *
                generalize S [val.getD j 0] = se at *
                go_wp2
                go_roundw
                case rel => exact ⟨j + 1, by omega, by go_num, by rw [HQ.out], trivial⟩
                case measure => simp [intOf]; omega
            · obtain rfl : j = m := by omega
              have HF : RowKit.Hid (S (pr ++ dblL (val.take j)) = S (headL f ++ bodyL (f.subs.take (k + 1)))) := by
                unfold RowKit.Hid
                rw [HNx.out, ← HM.out, List.take_length]
              generalize S (pr ++ dblL (val.take j)) = sq at *
              go_wp2
              go_roundw
              case rel => exact ⟨k + 1, by omega, by go_num, by rw [HF.out], HSA.out⟩
              case measure => simp [intOf]; omega
        · obtain rfl : k = n := by omega
          have hT : f.subs.take k = f.subs := by rw [← HN.out, List.take_length]
          rw [hT]
          have HL := Lib.hid (congrArg S HLine.out)
          generalize S (headL f ++ bodyL f.subs) = sl at *
          have Fin := Lib.hid (B1.out.trans (Below.mono hsr (Nat.le_of_lt hlt1)))
          clear hsr hT
          go_wp2
          go_ret2
          rw [HBE.out, HL.out]
          exact ⟨rfl, Fin.out⟩

theorem refPrint_any (f : Fld) (u : Value) (w : World) (hu : QL u f.subs w) (hz : ∀ i, i < f.subs.length → (f.subs.getD i sub0).2.length ≤ 1000000) (r : List UInt8) (er : Int) (h : printR f = (r, er)) :
    Calls Tryz.prog 28 #[FV f u] w fun e w' => e = .returned (.tuple #[.string (S r), .int .i64 er]) ∧ Below w.heap.size w w' := by
  unfold printR at h
  by_cases h0 : rightI f = 0
  · rw [if_pos h0] at h
    simp only [Prod.mk.injEq] at h
    obtain ⟨rfl, rfl⟩ := h
    exact refPrint_ok f u w hu h0
  · rw [if_neg h0] at h
    simp only [Prod.mk.injEq] at h
    obtain ⟨rfl, rfl⟩ := h
    exact refPrint_bad f u w hu hz h0
end

section
open Go.RowKit Go.PlainAid
theorem line_max (f : Fld) (h : rightI f = 0) : (lineL f).length ≤ 20000 := by
  obtain ⟨htag, _, _, hn16, hsub, ha0, ha1⟩ := right_facts f h
  have h3 := tagB_len _ htag
  have hb := bodyL_le f.subs (fun i hi => (subE_zero _ (hsub i hi)).2.2.2)
  have hd := dec_bound f.auth.toNat
  have ha : (authP f.auth).length ≤ 10003 := by
    unfold authP
    split
    · simp
    · simp [padL]
      omega
  have hm : ∀ c, (markB c).length = 1 := fun c => by unfold markB; split <;> rfl
  unfold lineL headL
  simp only [List.length_append, List.length_cons, List.length_nil, hm]
  omega
theorem bodyF_max : ∀ (F : List Fld), (∀ f ∈ F, rightI f = 0) → (bodyF F).length ≤ 20001 * F.length
  | [], _ => by simp [bodyF]
  | f :: F, h => by
    have h1 := line_max f (h f (by simp))
    have h2 := bodyF_max F (fun g hg => h g (by simp [hg]))
    have e : (bodyF (f :: F)).length = (lineL f).length + 1 + (bodyF F).length := by simp [bodyF]; omega
    rw [e, List.length_cons, Nat.mul_add]
    omega
theorem bodyF_snoc (F : List Fld) (k : Nat) (f : Fld) (h : F[k]? = some f) : bodyF (F.take (k + 1)) = bodyF (F.take k) ++ lineL f ++ [10] := by
  have hk := (List.getElem?_eq_some_iff.1 h).1
  rw [List.take_succ_eq_append_getElem hk, (List.getElem?_eq_some_iff.1 h).2]
  unfold bodyF
  rw [List.flatMap_append]
  simp
theorem hdr_max (r : Rec) (h : rightRI r = 0) : (hdrR r).length ≤ 100 := by
  obtain ⟨a1, a2, a3, a4, a5, a6, a7, _, _⟩ := right_rec r h
  have h3 := lang_len _ a7
  have d1 := dec_len 3 r.id.toNat (by omega)
  have d2 := dec_len 3 r.ver.toNat (by omega)
  have hk : (kindW r.kind).length ≤ 7 := by
    unfold kindW
    split
    · decide
    · split
      · decide
      · split <;> decide
  unfold hdrR hdrX midX
  simp only [List.length_cons, List.length_append, h3]
  omega
theorem text_max (r : Rec) (h : rightRI r = 0) : (textX r).length ≤ 1300000 := by
  have h1 := hdr_max r h
  obtain ⟨_, _, _, _, _, _, _, a8, a9⟩ := right_rec r h
  have h2 := bodyF_max r.fields a9
  unfold textX
  simp only [List.length_cons, List.length_append, List.length_nil]
  omega

set_option maxHeartbeats 16000000 in
set_option maxRecDepth 100000 in
theorem refPrint11_any (r : Rec) (u : Value) (w : World) (hu : FL u r.fields w) (hz : ∀ i, i < r.fields.length → ∀ j, j < (r.fields.getD i fd0).subs.length → ((r.fields.getD i fd0).subs.getD j sub0).2.length ≤ 1000000) (s : List UInt8) (er : Int) (hs : prnX r = (s, er)) :
    Calls Tryz.prog 10 #[RV r u] w fun e w' => e = .returned (.tuple #[.string (S s), .int .i64 er]) ∧ Below w.heap.size w w' := by
  obtain ⟨Q, hQ⟩ : ∃ Q, (fun (e : Ending) (w' : World) => e = .returned (.tuple #[.string (S s), .int .i64 er]) ∧ Below w.heap.size w w') = Q := ⟨_, rfl⟩
  rw [hQ]
  have HQ : RowKit.Hid (∀ e w', (e = .returned (.tuple #[.string (S s), .int .i64 er]) ∧ Below w.heap.size w w') → Q e w') := by rw [← hQ]; exact fun _ _ h => h
  clear hQ
  have cR := fun W hW => refRight08_any r u W hW hz (rightRI r) rfl
  have HU := Lib.hid hu
  obtain ⟨ua, uc, hue, -, hmax⟩ := hu.length
  subst hue
  obtain ⟨n, hn⟩ : ∃ n, r.fields.length = n := ⟨_, rfl⟩
  rw [hn] at HU cR ⊢
  have HN := Lib.hid hn
  have HZ := Lib.hid hz
  unfold RV at cR ⊢
  obtain ⟨W0, hW0⟩ : ∃ W0, w.alloc (.cells #[.int .i64 r.id, .int .i64 r.ver, .int .i64 r.kind, .string (S r.lang), .slice ua n uc] 24) = W0 := ⟨_, rfl⟩
  have b0 : Below w.heap.size w W0 := by rw [← hW0]; exact (Below.refl w.heap.size w).alloc (Nat.le_refl _) _
  have hR0 : W0.heap[w.heap.size]? = some (.cells #[.int .i64 r.id, .int .i64 r.ver, .int .i64 r.kind, .string (S r.lang), .slice ua n uc] 24 (0, 0)) := by rw [← hW0]; exact heap_alloc_new w _
  have hlt0 : w.heap.size < W0.heap.size := by rw [← hW0]; simp
  have HR := Lib.hid (fun (W : World) (h : Below W0.heap.size W0 W) => rcells ((h.block w.heap.size hlt0).trans hR0))
  have HUw := Lib.hid (fun (W : World) (h : Below W0.heap.size W0 W) => (HU.out.after b0).after h)
  have HBel := Lib.hid (fun (W : World) (h : Below W0.heap.size W0 W) => b0.trans (h.mono b0.size))
  have HW0 := Lib.hid hW0
  replace cR := Lib.hid cR
  clear hu hn hz hW0 b0 hR0 hlt0 HU
  by_cases h0 : rightRI r = 0
  · rw [prn_of r h0] at hs
    obtain ⟨rfl, rfl⟩ := Prod.mk.inj hs
    rw [h0] at cR
    have hhm := hdr_max r h0
    obtain ⟨a1, a2, a3, a4, a5, a6, a7, a8, a9⟩ := right_rec r h0
    have h3 := lang_len _ a7
    rw [HN.out] at a8
    have cH := Lib.hid (fun W => refheader_any r.id r.ver r.kind r.lang a1 (by omega) (by omega) (by omega) a5 a6 (by omega) W)
    have hrun : hdrX r.id r.ver r.kind r.lang = hdrR r := rfl
    rw [hrun] at cH
    have HF := Lib.hid a9
    obtain ⟨TX, hTX⟩ : ∃ T : Nat → ByteArray, ∀ k, T k = S (hdrR r ++ 10 :: bodyF (r.fields.take k)) := ⟨_, fun _ => rfl⟩
    have HFin : RowKit.Hid (TX n ++ (⟨#[10]⟩ : ByteArray) = S (textX r)) := by
      unfold RowKit.Hid
      rw [hTX, show (⟨#[10]⟩ : ByteArray) = S [10] from rfl, S_append, ← HN.out, List.take_length]
      unfold textX
      simp
    have HFst : RowKit.Hid (S (hdrR r) ++ (⟨#[10]⟩ : ByteArray) = TX 0) := by
      unfold RowKit.Hid
      rw [hTX, show (⟨#[10]⟩ : ByteArray) = S [10] from rfl, S_append]
      rfl
    have hz0 : (S (hdrR r)).size ≤ 100 := by rw [S_size]; exact hhm
    have HLen : RowKit.Hid (∀ k, k ≤ n → (TX k).size ≤ 1300000) := by
      intro k hk
      have := bodyF_max (r.fields.take k) (fun f hf => a9 f (List.mem_of_mem_take hf))
      rw [List.length_take] at this
      rw [hTX, S_size, List.length_append, List.length_cons]
      have h4 : 20001 * min k r.fields.length ≤ 20001 * 64 := Nat.mul_le_mul_left _ (by omega)
      omega
    have HStep : RowKit.Hid (∀ k, k < n → TX k ++ S (lineL (r.fields.getD k fd0)) ++ (⟨#[10]⟩ : ByteArray) = TX (k + 1)) := by
      intro k hk
      have hk2 : r.fields[k]? = some (r.fields.getD k fd0) := by
        rw [List.getD_eq_getElem?_getD, List.getElem?_eq_getElem (by rw [HN.out]; exact hk)]
        rfl
      rw [hTX, hTX, show (⟨#[10]⟩ : ByteArray) = S [10] from rfl, S_append, S_append, bodyF_snoc _ _ _ hk2]
      simp
    have HMem : RowKit.Hid (∀ k, k < n → rightI (r.fields.getD k fd0) = 0) := by
      intro k hk
      refine a9 _ ?_
      rw [List.getD_eq_getElem?_getD, List.getElem?_eq_getElem (by rw [HN.out]; exact hk)]
      exact List.getElem_mem _
    clear hTX hs h0 a1 a2 a3 a4 a5 a6 a7 a9 h3 hrun hhm
    have hmx : n ≤ 64 := a8
    clear a8 hmax
    go_enter Tryz.func10, Tryz.ntmps10
    go_upto_region 1 with fail
    rw [HW0.out]
    obtain ⟨⟨r0, r1, r2, r3, r4⟩, -⟩ := HR.out W0 (Below.refl _ _)
    go_wp2_with fail
    refine (cR.out W0 (HUw.out W0 (Below.refl _ _))).mono ?_
    rintro e w1 ⟨rfl, hb1⟩
    have B1 := Lib.hid hb1
    clear hb1 r0 r1 r2 r3 r4 cR
    obtain ⟨⟨r0, r1, r2, r3, r4⟩, -⟩ := HR.out w1 B1.out
    go_wp2_with fail
    refine (cH.out w1).mono ?_
    rintro e w2 ⟨rfl, hb2⟩
    have B2 := Lib.hid (B1.out.trans (hb2.mono B1.out.size))
    clear hb2 r0 r1 r2 r3 r4 cH B1
    go_wp2
    rw [HFst.out]
    go_loopw [5, 6] (fun sv i wr => ∃ k : Nat, sv = .string (TX k) ∧ i = .int .i64 (k : Int) ∧ k ≤ n ∧ RowKit.Hid (Below W0.heap.size W0 wr)) (fun _ i _ => n - (intOf i).toNat)
    case atStart => exact ⟨0, rfl, rfl, Nat.zero_le _, B2⟩
    case round =>
      obtain ⟨k, rfl, rfl, hk, HB⟩ := hrel
      obtain ⟨⟨r0, r1, r2, r3, r4⟩, -⟩ := HR.out wr HB.out
      have hl1 := HLen.out k hk
      by_cases hkn : k < n
      · have i1 : (0 : Int) ≤ (k : Int) := by omega
        have i2 : (k : Int) < (n : Int) := by omega
        obtain ⟨g, o, cap', x, he, hg, c0, c1, c2, c3, hq⟩ := (HUw.out wr HB.out).at k (by rw [HN.out]; exact hkn)
        obtain ⟨ha, -, hcp⟩ := Value.slice.inj he
        subst ha hcp
        have hst := HStep.out k hkn
        have hri := HMem.out k hkn
        have hlm := line_max _ hri
        have cP := refPrint_any (r.fields.getD k fd0) x wr hq (HZ.out k (by rw [HN.out]; exact hkn)) (lineL (r.fields.getD k fd0)) 0 (by unfold printR; rw [if_pos hri])
        obtain ⟨f, hf⟩ : ∃ f, r.fields.getD k fd0 = f := ⟨_, rfl⟩
        rw [hf] at c0 c1 c3 hq hst hlm cP
        have hl2 : (S (lineL f)).size ≤ 20000 := by rw [S_size]; exact hlm
        obtain ⟨xa, xc, hxe, -, -⟩ := hq.length
        subst hxe
        unfold FV at cP
        replace cP := Lib.hid cP
        have HSt := Lib.hid hst
        generalize S (lineL f) = t2 at *
        have hl3 : (TX k ++ t2).size ≤ 1320000 := by rw [ByteArray.size_append]; omega
        clear he hf hri hlm hq hst
        go_wp2_with fail
        refine cP.out.mono ?_
        rintro e w3 ⟨rfl, hb3⟩
        have HB3 : RowKit.Hid (Below W0.heap.size W0 w3) := HB.out.trans (hb3.mono HB.out.size)
        clear hb3 cP r0 r1 r2 r3 r4 c0 c1 c2 c3
        go_wp2
        go_roundw
        case rel => exact ⟨k + 1, by rw [HSt.out], by go_num, by omega, HB3⟩
        case measure => simp [intOf]; omega
      · obtain rfl : k = n := by omega
        have HBf := Lib.hid (HBel.out wr HB.out)
        go_wp2
        rw [HFin.out]
        first | exact HQ.out _ _ ⟨rfl, HBf.out⟩ | (go_ret2; exact HQ.out _ _ ⟨rfl, HBf.out⟩) | (refine bodyPost_ret (results_tmp2 rfl _ _) rfl ?_; exact HQ.out _ _ ⟨rfl, HBf.out⟩)
  · have hp : prnX r = ([], rightRI r) := by unfold prnX; rw [if_pos h0]
    rw [hp] at hs
    obtain ⟨rfl, rfl⟩ := Prod.mk.inj hs
    generalize rightRI r = er at *
    have t1 : (er != 0) = true := by simpa using h0
    have e0 : S [] = (⟨#[]⟩ : ByteArray) := rfl
    rw [e0] at HQ
    clear hs h0 hp
    go_enter Tryz.func10, Tryz.ntmps10
    go_upto_region 1 with fail
    rw [HW0.out]
    obtain ⟨⟨r0, r1, r2, r3, r4⟩, -⟩ := HR.out W0 (Below.refl _ _)
    go_wp2_with fail
    refine (cR.out W0 (HUw.out W0 (Below.refl _ _))).mono ?_
    rintro e w1 ⟨rfl, hb1⟩
    have BF := Lib.hid (HBel.out w1 hb1)
    clear hb1 r0 r1 r2 r3 r4 cR
    go_wp2
    first | exact HQ.out _ _ ⟨rfl, BF.out⟩ | (go_ret2; exact HQ.out _ _ ⟨rfl, BF.out⟩) | (refine bodyPost_ret (results_tmp2 rfl _ _) rfl ?_; exact HQ.out _ _ ⟨rfl, BF.out⟩)
end

section
open Go.RowKit Go.PlainAid
def okZ (r : Rec) : Prop := ∀ i, i < r.fields.length → ∀ j, j < (r.fields.getD i fd0).subs.length → ((r.fields.getD i fd0).subs.getD j sub0).2.length ≤ 1000000
theorem prnX_le (r : Rec) : (prnX r).1.length ≤ 1300000 := by
  by_cases h : rightRI r = 0
  · rw [prn_of r h]
    exact text_max r h
  · rw [prn_no r (by unfold prnX; rw [if_pos h]; exact h)]
    exact Nat.zero_le _
theorem prnA_eq (L : List Rec) (h : ¬ 64 < L.length) : prnA L = if (catL L).2 ≠ 0 then ([], (catL L).2) else if 65536 < (catL L).1.length then ([], 4) else ((catL L).1, 0) := by
  unfold prnA
  rw [if_neg h]

set_option maxHeartbeats 16000000 in
set_option maxRecDepth 100000 in
theorem refPrintAll_any (L : List Rec) (v : Value) (w : World) (hv : RL v L w) (hok : ∀ r ∈ L, okZ r) (s : List UInt8) (er : Int) (hr : prnA L = (s, er)) :
    Calls Tryz.prog 16 #[v] w fun e w' => e = .returned (.tuple #[.string (S s), .int .i64 er]) ∧ Below w.heap.size w w' := by
  obtain ⟨Q, hQ⟩ : ∃ Q, (fun (e : Ending) (w' : World) => e = .returned (.tuple #[.string (S s), .int .i64 er]) ∧ Below w.heap.size w w') = Q := ⟨_, rfl⟩
  rw [hQ]
  have HQ : RowKit.Hid (∀ e w', (e = .returned (.tuple #[.string (S s), .int .i64 er]) ∧ Below w.heap.size w w') → Q e w') := by rw [← hQ]; exact fun _ _ h => h
  clear hQ
  have HV := Lib.hid hv
  have HOk := Lib.hid hok
  obtain ⟨a, cap, rfl, -, hmax⟩ := hv.length
  obtain ⟨n, hn⟩ : ∃ n, L.length = n := ⟨_, rfl⟩
  rw [hn] at HV ⊢
  have HN := Lib.hid hn
  clear hv hok
  by_cases h64 : 64 < n
  · have t1 : decide ((64 : Int) < (n : Int)) = true := decide_eq_true (by omega)
    unfold prnA at hr
    rw [if_pos (by omega)] at hr
    obtain ⟨rfl, rfl⟩ := Prod.mk.inj hr
    clear hr hn h64
    go_enter Tryz.func16, Tryz.ntmps16
    go_wp2
    exact HQ.out _ _ ⟨rfl, Below.refl _ _⟩
  · have t1 : decide ((64 : Int) < (n : Int)) = false := decide_eq_false (by omega)
    have hn64 : n ≤ 64 := by omega
    rw [prnA_eq L (by omega)] at hr
    have HR := Lib.hid hr
    have HD0 : RowKit.Hid (catL L = catK [] (catL (L.drop 0))) := by
      unfold RowKit.Hid
      rw [List.drop_zero]
      exact catL_nil L
    clear hr hn h64
    go_enter Tryz.func16, Tryz.ntmps16
    go_wp2
    go_loopw [4, 5] (fun sv i wr => ∃ (k : Nat) (D : List UInt8), sv = .string (S D) ∧ i = .int .i64 (k : Int) ∧ k ≤ n ∧ D.length ≤ 1300000 * k ∧ RowKit.Hid (catL L = catK D (catL (L.drop k))) ∧ RowKit.Hid (Below w.heap.size w wr)) (fun _ i _ => n - (intOf i).toNat)
    case atStart => exact ⟨0, [], rfl, rfl, Nat.zero_le _, by simp, HD0, Below.refl _ _⟩
    case round =>
      obtain ⟨k, D, rfl, rfl, hk, hDl, HD, HB⟩ := hrel
      clear HD0
      by_cases hkn : k < n
      · have i1 : (0 : Int) ≤ (k : Int) := by omega
        have i2 : (k : Int) < (n : Int) := by omega
        obtain ⟨g, o, cap', u, he, hg, c0, c1, c2, c3, c4, hq⟩ := (HV.out.after HB.out).at k (by rw [HN.out]; exact hkn)
        obtain ⟨ha, -, hcp⟩ := Value.slice.inj he
        subst ha hcp
        have hLk : L[k]? = some (L.getD k rec0) := by
          rw [List.getD_eq_getElem?_getD, List.getElem?_eq_getElem (by rw [HN.out]; exact hkn)]
          rfl
        have hokr := HOk.out _ (List.mem_of_getElem? hLk)
        have HStep := Lib.hid (catL_step L k _ hLk)
        obtain ⟨r, hre⟩ : ∃ r, L.getD k rec0 = r := ⟨_, rfl⟩
        rw [hre] at c0 c1 c2 c3 hq HStep hokr
        obtain ⟨ua, uc, hue, -, -⟩ := hq.length
        obtain ⟨ul, hul⟩ : ∃ m, r.fields.length = m := ⟨_, rfl⟩
        rw [hul] at hue
        subst hue
        obtain ⟨es, ee, hee⟩ : ∃ es ee, prnX r = (es, ee) := ⟨_, _, rfl⟩
        have cE := refPrint11_any r (.slice ua ul uc) wr hq hokr es ee hee
        unfold RV at cE
        have hel := prnX_le r
        rw [hee] at HStep hel
        simp only at HStep hel
        have CE := Lib.hid cE
        clear he hLk hokr hre hq hul cE hee
        go_wp2_with fail
        refine CE.out.mono ?_
        rintro e w2 ⟨rfl, hb2⟩
        have HB2 : RowKit.Hid (Below w.heap.size w w2) := HB.out.trans (hb2.mono HB.out.size)
        clear hb2 c0 c1 c2 c3 c4 CE
        by_cases h0 : ee = 0
        · subst h0
          have HS2 : RowKit.Hid (catL L = catK (D ++ es) (catL (L.drop (k + 1)))) := by
            unfold RowKit.Hid
            have := HStep.out
            rw [if_neg (fun h => h rfl)] at this
            rw [HD.out, this, catK_cat]
          have hlen : (D ++ es).length ≤ 1300000 * (k + 1) := by rw [List.length_append]; omega
          have HLen := Lib.hid hlen
          have HApp := Lib.hid (S_append D es)
          have hz1 := S_size D
          have hz2 := S_size es
          obtain ⟨dl, hdl⟩ : ∃ x, D.length = x := ⟨_, rfl⟩
          obtain ⟨el, hel2⟩ : ∃ x, es.length = x := ⟨_, rfl⟩
          rw [hdl] at hz1 hDl
          rw [hel2] at hz2 hel
          have hbig : ¬ 9223372036854775807 < dl + el := by omega
          clear HStep hlen hdl hel2
          go_wp2
          go_roundw
          case rel => exact ⟨k + 1, D ++ es, congrArg Value.string HApp.out, by go_num, by omega, HLen.out, HS2, HB2⟩
          case measure => simp [intOf]; omega
        · have hL : (s, er) = (([] : List UInt8), ee) := by
            rw [← HR.out, HD.out, HStep.out, if_pos h0]
            unfold catK
            simp [h0]
          obtain ⟨rfl, rfl⟩ := Prod.mk.inj hL
          have t0 : (er != 0) = true := by simpa using h0
          clear hL HStep
          go_wp2
          (try refine bodyPost_ret (results_tmp2 rfl _ _ _) rfl ?_)
          exact HQ.out _ _ ⟨rfl, HB2.out⟩
      · obtain rfl : k = n := by omega
        have hC : catL L = (D, 0) := by
          rw [HD.out, List.drop_of_length_le (by rw [HN.out]; exact Nat.le_refl _)]
          simp [catL, catK]
        have hr2 := HR.out
        rw [hC] at hr2
        simp only at hr2
        rw [if_neg (fun h => h rfl)] at hr2
        have hz1 := S_size D
        obtain ⟨dl, hdl⟩ : ∃ m, D.length = m := ⟨_, rfl⟩
        rw [hdl] at hz1 hDl hr2
        by_cases h6 : 65536 < dl
        · rw [if_pos h6] at hr2
          obtain ⟨rfl, rfl⟩ := Prod.mk.inj hr2
          have t6 : decide ((65536 : Int) < (dl : Int)) = true := decide_eq_true (by omega)
          clear hr2 hC HD HR hdl
          go_wp2
          (try refine bodyPost_ret (results_tmp2 rfl _ _ _) rfl ?_)
          exact HQ.out _ _ ⟨rfl, HB.out⟩
        · rw [if_neg h6] at hr2
          obtain ⟨rfl, rfl⟩ := Prod.mk.inj hr2
          have t6 : decide ((65536 : Int) < (dl : Int)) = false := decide_eq_false (by omega)
          clear hr2 hC HD HR hdl
          go_wp2
          (try refine bodyPost_ret (results_tmp2 rfl _ _ _) rfl ?_)
          exact HQ.out _ _ ⟨rfl, HB.out⟩
end

end Go.Proofs.YtnfallkeicehiaaGreatDoor
