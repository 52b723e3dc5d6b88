/- libraryref07: Print. -/
import Derived.Test.YtjajihemcaihmaaGreatDoorPlain07B
import Derived.Deep.RegionHeld3
import Derived.Deep.CutBlock
import Derived.Deep.DeepCutAuto
namespace Go.Proofs.YtjajihemcaihmaaGreatDoor
open Go.RowKit Go.PlainAid

/-- All that lay in w lies still. -/
def Sees (w w' : World) : Prop := Below w.heap.size w w'
theorem Sees.self (w : World) : Sees w w := Below.refl _ _
theorem Sees.after {w w1 w2 : World} (h : Sees w w1) (hb : Below w1.heap.size w1 w2) : Sees w w2 := Below.trans h (hb.mono h.size)
theorem Sees_drew (w w' : World) : Sees w w'.drew ↔ Sees w w' :=
  ⟨fun h => ⟨h.os, h.tape, h.output, h.size, h.block⟩, fun h => ⟨h.os, h.tape, h.output, h.size, h.block⟩⟩

set_option maxHeartbeats 4000000 in
theorem refPrint_bad (f : Fld) (u : Value) (w : World) (hu : QL u f.subs w) (hz : ∀ i, i < f.subs.length → (f.subs.getD i sub0).2.length ≤ 1000000) (h : rightI f ≠ 0) :
    Calls Tryz.prog 17 #[FV f u] w fun e w' => e = .returned (.tuple #[.string ⟨#[]⟩, .int .i64 (rightI f)]) ∧ Below w.heap.size w w' := by
  have b0 : Below w.heap.size w (w.alloc (.cells #[.string (S f.tag), .string (S f.ind), u, .int .i64 f.auth] 25)) := (Below.refl w.heap.size w).alloc (Nat.le_refl _) _
  have cR := Lib.hid (refRight_any f u _ (hu.after b0) hz _ rfl)
  obtain ⟨a, cap, rfl, hcap, hmax⟩ := hu.length
  unfold FV at cR ⊢
  have t : (rightI f != 0) = true := by simpa using h
  have t2 : ¬ rightI f = 0 := h
  generalize rightI f = er at *
  clear h
  go_enter Tryz.func17, Tryz.ntmps17
  go_wp2_with fail
  refine (cR.out).mono ?_
  rintro e w1 ⟨rfl, b1⟩
  have b2 := b0.trans (b1.mono b0.size)
  clear b0 b1
  go_wp2
  go_ret2
  exact ⟨rfl, b2⟩

/-- The mark of a byte, as a text. -/
def MF (y : Int) : ByteArray := S (markB (UInt8.ofNat y.toNat))
theorem MF_at (l : List UInt8) (i : Nat) : MF (bt (S l) i) = S (markB (l.getD i 0)) := by
  unfold MF
  rw [bt_S, Int.toNat_natCast, UInt8.ofNat_toNat]
theorem MF_size (y : Int) : (MF y).size = 1 := by
  unfold MF markB
  rw [S_size]
  split <;> simp

theorem bt_nat (s : ByteArray) (i : Nat) : bt s i = ((UInt8.ofNat (bt s i).toNat).toNat : Int) := by
  have h := bt_S s.data.toList i
  rw [S_of] at h
  rw [h, Int.toNat_natCast, UInt8.ofNat_toNat]
set_option maxHeartbeats 16000000 in
set_option maxRecDepth 100000 in
theorem refPrint_ok (f : Fld) (u : Value) (w : World) (hu : QL u f.subs w) (h : rightI f = 0) :
    Calls Tryz.prog 17 #[FV f u] w fun e w' => e = .returned (.tuple #[.string (S (lineL f)), .int .i64 0]) ∧ Below w.heap.size w w' := by
  obtain ⟨htag, hind, hn1, hn16, hsub, ha0, ha1⟩ := right_facts f h
  have h200 : ∀ i, i < f.subs.length → (f.subs.getD i sub0).2.length ≤ 200 := fun i hi => (subE_zero _ (hsub i hi)).2.2.2
  have b0 : Below w.heap.size w (w.alloc (.cells #[.string (S f.tag), .string (S f.ind), u, .int .i64 f.auth] 25)) := (Below.refl w.heap.size w).alloc (Nat.le_refl _) _
  have cR := Lib.hid (refRight_any f u _ (hu.after b0) (fun i hi => by have := h200 i hi; omega) _ h)
  obtain ⟨a, cap, rfl, hcap, hmax, _, hcell⟩ := hu
  unfold FV at cR ⊢
  obtain ⟨n, hn⟩ : ∃ n, f.subs.length = n := ⟨_, rfl⟩
  have HCell := Lib.hid hcell
  have H200 := Lib.hid h200
  rw [hn] at hcap hn1 hn16 cR ⊢
  have HN := Lib.hid hn
  have h3 := tagB_len _ htag
  have h2 := indsB_len _ hind
  obtain ⟨W0, hW0⟩ : ∃ W0, w.alloc (.cells #[.string (S f.tag), .string (S f.ind), .slice a n cap, .int .i64 f.auth] 25) = W0 := ⟨_, rfl⟩
  rw [hn] at b0
  rw [hW0] at b0 cR
  have hlt : w.heap.size < W0.heap.size := by rw [← hW0]; simp
  have k0 : W0.cell? ⟨w.heap.size, 0, none⟩ = some (.string (S f.tag)) := by rw [← hW0]; simp
  have k1 : W0.cell? ⟨w.heap.size, 1, none⟩ = some (.string (S f.ind)) := by rw [← hW0]; simp
  have k2 : W0.cell? ⟨w.heap.size, 2, none⟩ = some (.slice a n cap) := by rw [← hW0]; simp
  have k3 : W0.cell? ⟨w.heap.size, 3, none⟩ = some (.int .i64 f.auth) := by rw [← hW0]; simp
  have HW0 := Lib.hid hW0
  clear hcell h200 hn hsub h htag hind hW0
  obtain ⟨au, hau⟩ : ∃ k : Nat, f.auth = (k : Int) := ⟨f.auth.toNat, by omega⟩
  have cD := Lib.hid (fun W => refDigits_any au 1 (by omega) (by omega) W)
  have hdz : (padL 1 (Lib.decDigits au)).length ≤ 20000 := by
    have := dec_bound au
    simp [padL]
    omega
  have HAP : RowKit.Hid (authP f.auth = if au = 0 then [] else 64 :: padL 1 (Lib.decDigits au)) := by
    unfold RowKit.Hid authP
    rw [hau, Int.toNat_natCast]
    by_cases h : au = 0
    · rw [if_pos (by omega), if_pos h]
    · rw [if_neg (by omega), if_neg h]
  have HHead : RowKit.Hid (headL f = f.tag ++ authP f.auth ++ 32 :: (markB (f.ind.getD 0 0) ++ markB (f.ind.getD 1 0) ++ [32])) := rfl
  have HLine : RowKit.Hid (lineL f = headL f ++ bodyL f.subs) := rfl
  rw [hau] at k3 cR HW0 ⊢
  have hau2 : au ≤ 9999 := by omega
  clear hau ha0 ha1
  have hM0 := MF_at f.ind 0
  have hM1 := MF_at f.ind 1
  have hti := S_size f.tag
  have hii := S_size f.ind
  rw [h3] at hti
  rw [h2] at hii
  obtain ⟨tg, htg⟩ : ∃ tg, S f.tag = tg := ⟨_, rfl⟩
  rw [htg] at k0 cR HW0 hti ⊢
  generalize S f.ind = ix at *
  have hbt := get_bt ix
  go_enter Tryz.func17, Tryz.ntmps17
  go_wp2_with fail
  rw [HW0.out]
  refine (cR.out).mono ?_
  rintro e w1 ⟨rfl, b1⟩
  have hse := Sees.self w1
  have j0 := (b1.cell (p := ⟨w.heap.size, 0, none⟩) hlt).trans k0
  have j1 := (b1.cell (p := ⟨w.heap.size, 1, none⟩) hlt).trans k1
  have j2 := (b1.cell (p := ⟨w.heap.size, 2, none⟩) hlt).trans k2
  have j3 := (b1.cell (p := ⟨w.heap.size, 3, none⟩) hlt).trans k3
  have hlt1 : w.heap.size < w1.heap.size := Nat.lt_of_lt_of_le hlt b1.size
  have B1 := Lib.hid (b0.trans (b1.mono b0.size))
  clear k0 k1 k2 k3 b1 b0
  generalize hbe : w.heap.size = b at *
  have HBE := Lib.hid hbe
  clear hbe
  have cM := Lib.hid (fun (y : Int) W (hy : y = bt ix 0 ∨ y = bt ix 1) (hs : Sees w1 W) => (refmark_any (UInt8.ofNat y.toNat) y (by rcases hy with h | h <;> rw [h] <;> exact bt_nat ix _) W).mono fun e w' hh => And.intro hh.1 (And.intro ((hs.after hh.2).cell (p := ⟨b, 1, none⟩) hlt1 |>.trans j1) (hs.after hh.2)))
  go_upto_if 18 with fail
  obtain ⟨TA, hTA⟩ : ∃ TA, S (f.tag ++ authP f.auth) = TA := ⟨_, rfl⟩
  have HTA := Lib.hid hTA
  have hTz : TA.size ≤ 21000 := by
    rw [← hTA, S_size, List.length_append, h3, HAP.out]
    split <;> simp <;> omega
  have HTG := Lib.hid htg
  clear hTA htg
  go_cut [5, 18] from 19 to 25 (fun p q wx => p = .string TA ∧ (∃ x, q = .bool x) ∧ wx = w1)
  case first =>
    by_cases h0 : au = 0
    · have t0 : ((au : Int) != 0) = false := by rw [h0]; rfl
      rw [if_pos h0] at HAP
      have HE : RowKit.Hid (tg = TA) := by
        unfold RowKit.Hid
        rw [← HTA.out, ← HTG.out, HAP.out, List.append_nil]
      clear h0 cD
      go_wp2
      go_meet
      exact ⟨by rw [HE.out], ⟨_, rfl⟩, rfl⟩
    · have t0 : ((au : Int) != 0) = true := by simp; omega
      rw [if_neg h0] at HAP
      have hz := S_size (padL 1 (Lib.decDigits au))
      have HE : RowKit.Hid (tg ++ (⟨#[64]⟩ : ByteArray) ++ S (padL 1 (Lib.decDigits au)) = TA) := by
        unfold RowKit.Hid
        rw [← HTA.out, ← HTG.out, HAP.out, show (⟨#[64]⟩ : ByteArray) = S [64] from rfl, S_append, S_append, List.append_assoc]
        rfl
      clear h0
      generalize S (padL 1 (Lib.decDigits au)) = dg at *
      go_wp2_with fail
      refine (cD.out _).mono ?_
      rintro e w2 ⟨rfl, hw2⟩
      rw [hw2]
      clear hw2
      go_wp2
      go_meet
      exact ⟨by rw [HE.out], ⟨_, rfl⟩, rfl⟩
  case rest =>
    obtain ⟨rfl, ⟨x18, rfl⟩, hwc⟩ := hcut
    rw [hwc]
    clear hwc
    have CM := Lib.hid (show ∀ (y : Int) W, (y = bt ix 0 ∨ y = bt ix 1) → Sees w1 W → Calls Tryz.prog 39 #[.int .u8 y] W fun e w' => e = .returned (.string (MF y)) ∧ w'.cell? ⟨b, 1, none⟩ = some (.string ix) ∧ Sees w1 w' from cM.out)
    have s0 := MF_size (bt ix 0)
    have s1 := MF_size (bt ix 1)
    have HX : RowKit.Hid (TA ++ (⟨#[32]⟩ : ByteArray) ++ MF (bt ix 0) ++ MF (bt ix 1) ++ (⟨#[32]⟩ : ByteArray) = S (headL f)) := by
      unfold RowKit.Hid
      rw [hM0, hM1, ← HTA.out, HHead.out, show (⟨#[32]⟩ : ByteArray) = S [32] from rfl, S_append, S_append, S_append, S_append]
      congr 1
      simp
    clear hM0 hM1 cM cD
    have z1 : ¬ 9223372036854775807 < TA.size + 1 := by omega
    have z2 : ¬ 9223372036854775807 < TA.size + 1 + 1 := by omega
    have z3 : ¬ 9223372036854775807 < TA.size + 1 + 1 + 1 := by omega
    have z4 : ¬ 9223372036854775807 < TA.size + 1 + 1 + 1 + 1 := by omega
    have hsz : (headL f).length = TA.size + 4 := by
      have h := congrArg ByteArray.size HX.out
      have z : (⟨#[32]⟩ : ByteArray).size = 1 := rfl
      rw [S_size, ByteArray.size_append, ByteArray.size_append, ByteArray.size_append, ByteArray.size_append, s0, s1, z] at h
      omega
    have hext : ∀ (l : List UInt8) (j : Nat), j < l.length → (S l).extract j (j + 1) = S [l.getD j 0] := by
      intro l j hj
      rw [S_extract, take_byte l j hj, List.drop_append_of_le_length (by rw [List.length_take]; omega), List.drop_of_length_le (by rw [List.length_take]; omega)]
      rfl
    have HExt := Lib.hid hext
    have Hd : RowKit.Hid ((headL f).length ≤ 21004) := by unfold RowKit.Hid; omega
    clear hext
    go_upto_region 7 with fail
    go_cut [5] from 25 to 38 (fun p wx => p = .string (S (headL f)) ∧ Sees w1 wx)
    case first =>
      go_region_held3 (fun w' => w'.cell? ⟨b, 1, none⟩ = some (.string ix) ∧ Sees w1 w') (simp [*, Sees_drew])
        (first | (go_at_call 39; refine (CM.out _ _ ?_ ?_).mono ?_; (first | exact .inl rfl | exact .inr rfl); (first | assumption | (rw [Sees_drew]; assumption)); rintro e w' ⟨rfl, g1, hse2⟩))
      all_goals
        go_wp2_with fail
        go_meet
        refine ⟨by rw [HX.out], ?_⟩
        first | assumption | (rw [Sees_drew]; assumption)
    case rest =>
      obtain ⟨rfl, hse1⟩ := hcut
      clear z1 z2 z3 z4 hsz s0 s1 hTz HX CM HTA hti hii hbt j0 j1 j3 hse
      go_wp2
      go_loopw [5, 6] (fun p i wr => ∃ k : Nat, k ≤ n ∧ i = .int .i64 (k : Int) ∧ p = .string (S (headL f ++ bodyL (f.subs.take k))) ∧ Sees w1 wr) (fun _ i _ => n - (intOf i).toNat)
      case atStart => exact ⟨0, Nat.zero_le _, rfl, by simp [bodyL], hse1⟩
      case round =>
        obtain ⟨k, hk, rfl, rfl, hsr⟩ := hrel
        clear hse1
        have j2r := (Below.cell hsr (p := ⟨b, 2, none⟩) hlt1).trans j2
        by_cases hkn : k < n
        · obtain ⟨g, o, rfl, hg, c1, c2⟩ := HCell.out k (by rw [HN.out]; exact hkn)
          have hg1 : g < w1.heap.size := by omega
          have c1 : wr.cell? ⟨g, o + k * 2, none⟩ = some (.int .u8 ((f.subs.getD k sub0).1.toNat : Int)) := ((Below.cell hsr (p := ⟨g, o + k * 2, none⟩) hg1).trans (B1.out.cell (p := ⟨g, o + k * 2, none⟩) hg)).trans c1
          have c2 : wr.cell? ⟨g, o + k * 2 + 1, none⟩ = some (.string (S (f.subs.getD k sub0).2)) := ((Below.cell hsr (p := ⟨g, o + k * 2 + 1, none⟩) hg1).trans (B1.out.cell (p := ⟨g, o + k * 2 + 1, none⟩) hg)).trans c2
          have i1 : (0 : Int) ≤ (k : Int) := by omega
          have i2 : (k : Int) < (n : Int) := by omega
          have hBS := bodyL_snoc f.subs k (by rw [HN.out]; exact hkn)
          have hv200 := H200.out k (by rw [HN.out]; exact hkn)
          have hpz : (headL f ++ bodyL (f.subs.take k)).length ≤ 21004 + 402 * 16 := by
            have h1 := bodyL_le (f.subs.take k) (fun i hi => by
              rw [List.length_take] at hi
              have := H200.out i (by omega)
              rwa [List.getD_eq_getElem?_getD, List.getElem?_take_of_lt (by omega), ← List.getD_eq_getElem?_getD])
            rw [List.length_take] at h1
            have := Hd.out
            rw [List.length_append]
            omega
          have HNext : RowKit.Hid (headL f ++ bodyL (f.subs.take (k + 1)) = headL f ++ bodyL (f.subs.take k) ++ (36 :: (f.subs.getD k sub0).1 :: dblL (f.subs.getD k sub0).2)) := by
            unfold RowKit.Hid
            rw [hBS, List.append_assoc]
            rfl
          clear hBS
          generalize headL f ++ bodyL (f.subs.take k) = pre at *
          generalize (f.subs.getD k sub0).2 = val at *
          generalize (f.subs.getD k sub0).1 = cd at *
          have hB := (Byt.one wr cd).str
          change (convert 47 9 (.slice (some ⟨wr.heap.size, 0, none⟩) 1 1)).run Tryz.prog (wr.alloc (.cells #[.int .u8 ((cd.toNat : Nat) : Int)] 5)) = .ok (.string (S [cd])) (wr.alloc (.cells #[.int .u8 ((cd.toNat : Nat) : Int)] 5)) at hB
          have hgr : g < wr.heap.size := Nat.lt_of_lt_of_le hg1 hsr.size
          have hbr : b < wr.heap.size := Nat.lt_of_lt_of_le hlt1 hsr.size
          have ba : Below wr.heap.size wr (wr.alloc (.cells #[.int .u8 ((cd.toNat : Nat) : Int)] 5)) := (Below.refl _ _).alloc (Nat.le_refl _) _
          have c2a := (ba.cell (p := ⟨g, o + k * 2 + 1, none⟩) hgr).trans c2
          have j2a := (ba.cell (p := ⟨b, 2, none⟩) hbr).trans j2r
          have HSA := Lib.hid (hsr.after ba)
          have HP0 : RowKit.Hid (S pre ++ (⟨#[36]⟩ : ByteArray) ++ S [cd] = S (pre ++ [36, cd] ++ dblL (val.take 0))) := by
            unfold RowKit.Hid
            rw [show (⟨#[36]⟩ : ByteArray) = S [36] from rfl, S_append, S_append]
            simp [dblL]
          have hps := S_size pre
          have hc1z : (S [cd]).size = 1 := rfl
          clear ba hsr
          obtain ⟨m, hm⟩ : ∃ m, val.length = m := ⟨_, rfl⟩
          have hvs := S_size val
          rw [hm] at hvs hv200
          have HM := Lib.hid hm
          have HV := Lib.hid (fun j => bt_S val j)
          have hbv := get_bt (S val)
          have hpre2 : (pre ++ [36, cd]).length ≤ 21006 + 402 * 16 := by rw [List.length_append]; simp; omega
          have HNx : RowKit.Hid (S (headL f ++ bodyL (f.subs.take (k + 1))) = S (pre ++ [36, cd] ++ dblL val)) := by
            unfold RowKit.Hid
            rw [HNext.out]
            simp
          clear hm hpz
          have hps2 := S_size (pre ++ [36, cd])
          generalize pre ++ [36, cd] = pr at *
          obtain ⟨sv, hsv⟩ : ∃ sv, S val = sv := ⟨_, rfl⟩
          rw [hsv] at hvs hbv HV c2a c2
          have HSV := Lib.hid hsv
          clear hsv
          have hpsb : (S pre).size ≤ 30000 := by
            have h := congrArg ByteArray.size HP0.out
            rw [ByteArray.size_append, ByteArray.size_append, S_size (pr ++ dblL (val.take 0))] at h
            simp [dblL] at h
            omega
          clear hps
          generalize S pre = sp at *
          go_wp2
          go_loopw [5, 8] (fun p i w2 => ∃ j : Nat, j ≤ m ∧ i = .int .i64 (j : Int) ∧ p = .string (S (pr ++ dblL (val.take j))) ∧ w2 = wr.alloc (.cells #[.int .u8 ((cd.toNat : Nat) : Int)] 5)) (fun _ i _ => m - (intOf i).toNat)
          case atStart => exact ⟨0, Nat.zero_le _, rfl, by rw [← HP0.out], rfl⟩
          case round =>
            obtain ⟨j, hj, rfl, rfl, rfl⟩ := hrel
            have hqz : (S (pr ++ dblL (val.take j))).size ≤ 50000 := by
              have := dblL_le (val.take j)
              rw [List.length_take] at this
              rw [S_size, List.length_append]
              omega
            by_cases hjm : j < m
            · have hv := HV.out j
              have hji : (j : Int) < (m : Int) := by omega
              have e0 : (0 : Int) ≤ (j : Int) := by omega
              have e1 : (j : Int) ≤ (j : Int) + 1 := by omega
              have e2 : (j : Int) + 1 ≤ (m : Int) := by omega
              have e3 : ((j : Int) + 1).toNat = j + 1 := by omega
              have HS := Lib.hid (dblL_snoc val j (by rw [HM.out]; exact hjm))
              have hex : sv.extract j (j + 1) = S [val.getD j 0] := by rw [← HSV.out]; exact HExt.out val j (by rw [HM.out]; exact hjm)
              have hez : (S [val.getD j 0]).size = 1 := rfl
              by_cases h36 : val.getD j 0 = 36
              · rw [h36] at hv hex hez
                have HQ : RowKit.Hid (S (pr ++ dblL (val.take (j + 1))) = S (pr ++ dblL (val.take j)) ++ (⟨#[36]⟩ : ByteArray) ++ S [36]) := by
                  unfold RowKit.Hid
                  rw [HS.out, if_pos h36, show (⟨#[36]⟩ : ByteArray) = S [36] from rfl, S_append, S_append]
                  simp
                have hb36 : bt sv j = 36 := hv
                clear hv h36 HS
                generalize S (pr ++ dblL (val.take j)) = sq at *
                generalize S [36] = se at *
                go_wp2
                go_roundw
                case rel => exact ⟨j + 1, by omega, by go_num, by rw [HQ.out], trivial⟩
                case measure => simp [intOf]; omega
              · have HQ : RowKit.Hid (S (pr ++ dblL (val.take (j + 1))) = S (pr ++ dblL (val.take j)) ++ S [val.getD j 0]) := by
                  unfold RowKit.Hid
                  rw [HS.out, if_neg h36, S_append]
                  simp
                have hb36 : (bt sv j == 36) = false := by
                  rw [hv]
                  have : (val.getD j 0).toNat ≠ 36 := fun e => h36 (UInt8.toNat_inj.1 e)
                  clear hv hex h36
                  generalize (val.getD j 0).toNat = q at *
                  simp; omega
                clear hv h36 HS
                generalize S (pr ++ dblL (val.take j)) = sq at *
                generalize S [val.getD j 0] = se at *
                go_wp2
                go_roundw
                case rel => exact ⟨j + 1, by omega, by go_num, by rw [HQ.out], trivial⟩
                case measure => simp [intOf]; omega
            · obtain rfl : j = m := by omega
              have HF : RowKit.Hid (S (pr ++ dblL (val.take j)) = S (headL f ++ bodyL (f.subs.take (k + 1)))) := by
                unfold RowKit.Hid
                rw [HNx.out, ← HM.out, List.take_length]
              generalize S (pr ++ dblL (val.take j)) = sq at *
              go_wp2
              go_roundw
              case rel => exact ⟨k + 1, by omega, by go_num, by rw [HF.out], HSA.out⟩
              case measure => simp [intOf]; omega
        · obtain rfl : k = n := by omega
          have hT : f.subs.take k = f.subs := by rw [← HN.out, List.take_length]
          rw [hT]
          have HL := Lib.hid (congrArg S HLine.out)
          generalize S (headL f ++ bodyL f.subs) = sl at *
          have Fin := Lib.hid (B1.out.trans (Below.mono hsr (Nat.le_of_lt hlt1)))
          clear hsr hT
          go_wp2
          go_ret2
          rw [HBE.out, HL.out]
          exact ⟨rfl, Fin.out⟩

theorem refPrint_any (f : Fld) (u : Value) (w : World) (hu : QL u f.subs w) (hz : ∀ i, i < f.subs.length → (f.subs.getD i sub0).2.length ≤ 1000000) (r : List UInt8) (er : Int) (h : printR f = (r, er)) :
    Calls Tryz.prog 17 #[FV f u] w fun e w' => e = .returned (.tuple #[.string (S r), .int .i64 er]) ∧ Below w.heap.size w w' := by
  unfold printR at h
  by_cases h0 : rightI f = 0
  · rw [if_pos h0] at h
    simp only [Prod.mk.injEq] at h
    obtain ⟨rfl, rfl⟩ := h
    exact refPrint_ok f u w hu h0
  · rw [if_neg h0] at h
    simp only [Prod.mk.injEq] at h
    obtain ⟨rfl, rfl⟩ := h
    exact refPrint_bad f u w hu hz h0
end Go.Proofs.YtjajihemcaihmaaGreatDoor
