/- Merged: RS10. -/
import Derived.Test.YtiledacfdaenbaaGreatDoorQ29
namespace Go.Proofs.YtiledacfdaenbaaGreatDoor

section
open Go.RowKit Go.PlainAid
set_option maxHeartbeats 16000000 in
set_option maxRecDepth 100000 in
theorem refSplit_any (l : List UInt8) (hz : l.length ≤ 10000000) (L : List (List UInt8)) (er : Int) (hr : splR l = (L, er)) (w : World) :
    Calls Tryz.prog 6 #[.string (S l)] w fun e w' => ∃ v, e = .returned (.tuple #[v, .int .i64 er]) ∧ New w.heap.size (BL v L) w' ∧ Below w.heap.size w w' := by
  obtain ⟨Q, hQ⟩ : ∃ Q, (fun (e : Ending) (w' : World) => ∃ v, e = .returned (.tuple #[v, .int .i64 er]) ∧ New w.heap.size (BL v L) w' ∧ Below w.heap.size w w') = Q := ⟨_, rfl⟩
  rw [hQ]
  have HQ : RowKit.Hid (∀ e w', (∃ v, e = .returned (.tuple #[v, .int .i64 er]) ∧ New w.heap.size (BL v L) w' ∧ Below w.heap.size w w') → Q e w') := by rw [← hQ]; exact fun _ _ h => h
  clear hQ
  obtain ⟨i0, hi0, hz0, hz1, hz2⟩ := info_string
  have HI := Lib.hid hi0
  have HZ0 := Lib.hid hz0
  have HZ1 := Lib.hid hz1
  have HZ2 := Lib.hid hz2
  have HNone : RowKit.Hid (splitF l = none → L = [] ∧ er = 3) := by
    intro h
    unfold splR at hr
    rw [h] at hr
    exact ⟨(Prod.mk.inj hr).1.symm, (Prod.mk.inj hr).2.symm⟩
  have HSome : RowKit.Hid (∀ M, splitF l = some M → L = M ∧ er = 0) := by
    intro M h
    unfold splR at hr
    rw [h] at hr
    exact ⟨(Prod.mk.inj hr).1.symm, (Prod.mk.inj hr).2.symm⟩
  have HD0 : RowKit.Hid (splitF l = (splitF l).map (([] : List (List UInt8)) ++ ·)) := by
    unfold RowKit.Hid
    cases splitF l <;> rfl
  clear hi0 hz0 hz1 hz2 hr
  go_enter Tryz.func6, Tryz.ntmps6
  go_wp2
  go_loopw [0, 4] (fun sv pv wr => ∃ (rest : List UInt8) (D : List (List UInt8)) (ao : Option Addr) (cp n : Nat), sv = .string (S rest) ∧ pv = .slice ao n cp ∧ D.length = n ∧ rest.length + 26 * n ≤ l.length ∧
    RowKit.Hid (splitF l = (splitF rest).map (D ++ ·)) ∧ RowKit.Hid (wr.ownsRow w.heap.size 9 1 (.slice ao n cp) n (D.map strB)) ∧ RowKit.Hid (Below w.heap.size w wr)) (fun sv _ _ => strL sv)
  case atStart => exact ⟨l, [], none, 0, 0, rfl, rfl, rfl, by omega, HD0, World.ownsRow_nil _ _ _ _, Below.refl _ _⟩
  case round =>
    obtain ⟨rest, D, ao, cp, n, rfl, rfl, hDn, hrl, HD, HRow, HB⟩ := hrel
    clear HD0
    by_cases h0 : rest = []
    · subst h0
      have hM := HD.out
      rw [splitF_nil] at hM
      obtain ⟨rfl, rfl⟩ := HSome.out _ hM
      have e1 : (S []).size = 0 := rfl
      have hrow := HRow.out
      clear hM HD
      go_wp2
      refine HQ.out _ _ ⟨_, rfl, strs_new (L := D ++ []) ?_, HB.out⟩
      rw [List.append_nil, hDn]
      exact hrow
    · have hpos : 0 < rest.length := List.length_pos_iff.2 h0
      have hrz := S_size rest
      obtain ⟨x, hx⟩ : ∃ x, numF rest 0 5 = x := ⟨_, rfl⟩
      have cS := Lib.hid (refNumber_any rest (by omega) 0 5 (by omega) (by omega) x hx wr)
      have HBad := Lib.hid (splitF_bad rest h0)
      have HGo := Lib.hid (splitF_go rest h0)
      have tp : decide ((0 : Int) < (rest.length : Int)) = true := decide_eq_true (by omega)
      have tp' : decide (0 < rest.length) = true := decide_eq_true hpos
      clear h0
      by_cases hbad : badF rest
      · have hM := HD.out
        rw [HBad.out hbad] at hM
        obtain ⟨rfl, rfl⟩ := HNone.out hM
        have hb2 : x < 26 ∨ (rest.length : Int) < x := by unfold badF at hbad; rw [hx] at hbad; exact hbad
        clear hM HD hbad HGo HBad hx
        go_wp2_with fail
        refine cS.out.mono ?_
        rintro e w1 ⟨rfl, hw1⟩
        rw [hw1]
        clear hw1 cS
        by_cases h26 : x < 26
        · have t1 : decide (x < 26) = true := decide_eq_true h26
          clear hb2 h26
          go_wp2
          exact HQ.out _ _ ⟨_, rfl, fun _ _ _ => ⟨none, 0, rfl, Nat.le_refl _, Nat.zero_le _, fun _ => rfl, fun i hi => by cases hi⟩, HB.out⟩
        · have t1 : decide (x < 26) = false := decide_eq_false h26
          have t2 : decide ((rest.length : Int) < x) = true := decide_eq_true (by omega)
          clear hb2 h26
          go_wp2
          exact HQ.out _ _ ⟨_, rfl, fun _ _ _ => ⟨none, 0, rfl, Nat.le_refl _, Nat.zero_le _, fun _ => rfl, fun i hi => by cases hi⟩, HB.out⟩
      · have hg := hbad
        obtain ⟨q, rfl⟩ : ∃ q : Nat, x = (q : Int) := ⟨x.toNat, by unfold badF at hg; omega⟩
        have hq := hx
        go_wp2_with fail
        refine cS.out.mono ?_
        rintro e w1 ⟨rfl, hw1⟩
        rw [hw1]
        clear hw1 cS hbad hx
        have u1 : decide ((q : Int) < 26) = false := decide_eq_false (by unfold badF at hg; omega)
        have u1' : decide (q < 26) = false := decide_eq_false (by unfold badF at hg; omega)
        have HQz : RowKit.Hid (decide ((rest.length : Int) < (q : Int)) = false ∧ decide (rest.length < q) = false) := ⟨decide_eq_false (by unfold badF at hg; omega), decide_eq_false (by unfold badF at hg; omega)⟩
        have hqz : q ≤ rest.length := by unfold badF at hg; omega
        have hq26 : 26 ≤ q := by unfold badF at hg; omega
        have hgo := HGo.out hg q hq
        have HD2 : RowKit.Hid (splitF l = (splitF (rest.drop q)).map ((D ++ [rest.take q]) ++ ·)) := by
          unfold RowKit.Hid
          rw [HD.out, hgo]
          cases splitF (rest.drop q) <;> simp
        have hx1 : (S rest).extract 0 q = S (rest.take q) := by rw [S_extract, List.drop_zero]
        have hx2 : (S rest).extract q rest.length = S (rest.drop q) := by rw [S_extract, List.take_length]
        have hl1 : (rest.drop q).length + 26 * (n + 1) ≤ l.length := by rw [List.length_drop]; omega
        have hl2 : (rest.drop q).length < rest.length := by rw [List.length_drop]; omega
        have HL2 := Lib.hid (And.intro hl1 hl2)
        obtain ⟨z, hz⟩ : ∃ z, rest.length = z := ⟨_, rfl⟩
        rw [hz] at HQz
        have HRz := Lib.hid hrz
        rw [hz] at hrz hx2 hqz
        have i1 : (q : Int) ≤ (z : Int) := by omega
        have i0' : (0 : Int) ≤ (q : Int) := by omega
        have hbw := HB.out.size
        have hn26 : n ≤ 10000000 := by omega
        obtain ⟨u2, u2'⟩ := HQz.out
        clear hg hq hgo HGo HBad hl1 hl2 hz tp tp' hpos
        obtain ⟨sr, hsr⟩ : ∃ s, S rest = s := ⟨_, rfl⟩
        rw [hsr] at hx1 hx2 hrz HRz ⊢
        clear hsr
        go_wp2_with (at_builtin; go_loud (refine wpList_append_own _ rfl _ _ 23 rfl w.heap.size 9 i0 (.string ⟨#[]⟩) 1 16 Tryz.underlying23 HI.out HZ0.out HZ1.out HZ2.out rfl (by decide) _ _ _ rfl (HRow.out.alloc _) ⟨wr.heap.size, 0, none⟩ 1 1 [strB (rest.take q)] rfl rfl (cells_one _ _ _) (by intro u hu; simp at hu; subst hu; rfl) (by unfold maxLen; omega) (by omega) (by simp; omega) ?_))
        intro v2 w2 hown2 hg2 _
        have hb2 : Below w.heap.size w w2 := (HB.out.alloc hbw _).grown hg2 (by simp; omega) (fun j hj => ((HRow.out.alloc (.cells #[strB (rest.take q)] 9)).lt j hj).1)
        obtain ⟨ao2, cp2, rfl⟩ := own_form hown2
        have HRow2 : RowKit.Hid (w2.ownsRow w.heap.size 9 1 (.slice ao2 (n + 1) cp2) (n + 1) ((D ++ [rest.take q]).map strB)) := by
          unfold RowKit.Hid
          rw [List.map_append]
          exact hown2
        have HB2 := Lib.hid hb2
        clear hown2 hg2 hb2 HRow HB HD
        go_wp2
        go_roundw
        case rel => exact ⟨rest.drop q, D ++ [rest.take q], _, _, n + 1, by first | rfl | trivial, by first | rfl | trivial, by rw [List.length_append, hDn]; rfl, HL2.out.1, HD2, HRow2, HB2⟩
        case measure =>
          show (S (rest.drop q)).size < (S rest).size
          rw [S_size, S_size]
          exact HL2.out.2

theorem refDecE_any (l : List UInt8) (w : World) (hE : Env w) (hz : l.length ≤ 100000) :
    Calls Tryz.prog 15 #[.string (S l)] w fun e w' => ∃ u, e = .returned (.tuple #[RV (decE l).1 u, .int .i64 (decE l).2]) ∧ New w.heap.size (FL u (decE l).1.fields) w' ∧ Below w.heap.size w w' := by
  have c := refDecode_any l w hE hz
  rw [dec_one'] at c
  exact c

set_option maxHeartbeats 16000000 in
set_option maxRecDepth 100000 in
theorem refImport_any (l : List UInt8) (hz : l.length ≤ 100000) (L : List Rec) (k0 er : Int) (hr : impR l = (L, k0, er)) (w : World) (hE : Env w) :
    Calls Tryz.prog 9 #[.string (S l)] w fun e w' => ∃ v, e = .returned (.tuple #[v, .int .i64 k0, .int .i64 er]) ∧ New w.heap.size (RL v L) w' ∧ Below w.heap.size w w' := by
  obtain ⟨Q, hQ⟩ : ∃ Q, (fun (e : Ending) (w' : World) => ∃ v, e = .returned (.tuple #[v, .int .i64 k0, .int .i64 er]) ∧ New w.heap.size (RL v L) w' ∧ Below w.heap.size w w') = Q := ⟨_, rfl⟩
  rw [hQ]
  have HQ : RowKit.Hid (∀ e w', (∃ v, e = .returned (.tuple #[v, .int .i64 k0, .int .i64 er]) ∧ New w.heap.size (RL v L) w' ∧ Below w.heap.size w w') → Q e w') := by rw [← hQ]; exact fun _ _ h => h
  clear hQ
  have HNil : RowKit.Hid (∀ W : World, New w.heap.size (RL (.slice none 0 0) []) W) := fun W w' _ _ => RL.nil w'
  obtain ⟨i0, hi0, hz0, hz1, hz2⟩ := info_rec
  have HI := Lib.hid hi0
  have HZ0 := Lib.hid hz0
  have HZ1 := Lib.hid hz1
  have HZ2 := Lib.hid hz2
  clear hi0 hz0 hz1 hz2
  have HE := Lib.hid hE
  clear hE
  obtain ⟨P, se, hs⟩ : ∃ P se, splR l = (P, se) := ⟨_, _, rfl⟩
  have cS := Lib.hid (refSplit_any l (by omega) P se hs w)
  unfold impR at hr
  unfold splR at hs
  cases hsp : splitF l with
  | none =>
    rw [hsp] at hr hs
    obtain ⟨rfl, rfl⟩ := Prod.mk.inj hs
    obtain ⟨rfl, h2⟩ := Prod.mk.inj hr
    obtain ⟨rfl, rfl⟩ := Prod.mk.inj h2
    clear hr hs h2 hsp
    go_enter Tryz.func9, Tryz.ntmps9
    go_wp2_with fail
    refine cS.out.mono ?_
    rintro e w1 ⟨v, rfl, hnew, hb⟩
    obtain ⟨a, cap, rfl, -, -⟩ := hnew.here.length
    have HB := Lib.hid hb
    clear hnew hb cS
    go_wp2
    refine bodyPost_ret (results_tmp3 rfl _ _ _) rfl ?_
    exact HQ.out _ _ ⟨_, rfl, HNil.out _, HB.out⟩
  | some P2 =>
    rw [hsp] at hr hs
    obtain ⟨rfl, rfl⟩ := Prod.mk.inj hs
    have HPl := Lib.hid (splitF_le l P2 hsp)
    obtain ⟨n, hn⟩ : ∃ n, P2.length = n := ⟨_, rfl⟩
    have HN := Lib.hid hn
    simp only [hn] at hr
    clear hs hsp
    by_cases h64 : 64 < n
    · rw [if_pos h64] at hr
      obtain ⟨rfl, h2⟩ := Prod.mk.inj hr
      obtain ⟨rfl, rfl⟩ := Prod.mk.inj h2
      have t1 : decide ((64 : Int) < (n : Int)) = true := decide_eq_true (by omega)
      clear hr h2
      go_enter Tryz.func9, Tryz.ntmps9
      go_wp2_with fail
      refine cS.out.mono ?_
      rintro e w1 ⟨v, rfl, hnew, hb⟩
      obtain ⟨a, cap, rfl, -, -⟩ := hnew.here.length
      rw [hn]
      have HB := Lib.hid hb
      clear hnew hb cS hn h64
      go_wp2
      refine bodyPost_ret (results_tmp3 rfl _ _ _) rfl ?_
      exact HQ.out _ _ ⟨_, rfl, HNil.out _, HB.out⟩
    · rw [if_neg h64] at hr
      have t1 : decide ((64 : Int) < (n : Int)) = false := decide_eq_false (by omega)
      have hn64 : n ≤ 64 := by omega
      have HR := Lib.hid hr
      have HD0 : RowKit.Hid (firstD P2 0 = catD [] (firstD (P2.drop 0) 0)) := by
        unfold RowKit.Hid
        rw [List.drop_zero]
        exact catD_nil P2 0
      clear hr h64
      go_enter Tryz.func9, Tryz.ntmps9
      go_wp2_with fail
      refine cS.out.mono ?_
      rintro e w1 ⟨v, rfl, hnew, hb⟩
      have HBL := Lib.hid hnew.here
      obtain ⟨a, cap, rfl, -, -⟩ := hnew.here.length
      rw [hn] at HBL ⊢
      have HB := Lib.hid hb
      clear hnew hb cS hn
      go_wp2
      go_loopw [7, 8] (fun v i wr => ∃ (k : Nat) (D : List Rec) (ao : Option Addr) (cp : Nat), v = .slice ao k cp ∧ i = .int .i64 (k : Int) ∧ k ≤ n ∧ D.length = k ∧
        RowKit.Hid (firstD P2 0 = catD D (firstD (P2.drop k) k)) ∧ RowKit.Hid (RN w1.heap.size (.slice ao k cp) D wr) ∧ RowKit.Hid (Below w1.heap.size w1 wr)) (fun _ i _ => n - (intOf i).toNat)
      case atStart => exact ⟨0, [], none, 0, rfl, rfl, Nat.zero_le _, rfl, HD0, RN.nil _ _, Below.refl _ _⟩
      case round =>
        obtain ⟨k, D, ao, cp, rfl, rfl, hk, hDk, HD, HRow, HBw⟩ := hrel
        clear HD0
        by_cases hkn : k < n
        · have i1 : (0 : Int) ≤ (k : Int) := by omega
          have i2 : (k : Int) < (n : Int) := by omega
          have hbl := HBL.out.after HBw.out
          obtain ⟨p, hp⟩ : ∃ p, P2.getD k [] = p := ⟨_, rfl⟩
          have hPk : P2[k]? = some p := by
            rw [← hp, List.getD_eq_getElem?_getD, List.getElem?_eq_getElem (by rw [HN.out]; exact hkn)]
            rfl
          obtain ⟨g, o, hae, hg, hc⟩ : ∃ g o, a = some ⟨g, o, none⟩ ∧ g < wr.heap.size ∧ wr.cell? ⟨g, o + k, none⟩ = some (.string (S p)) := by
            obtain ⟨a', cap', he, _, _, _, hx⟩ := hbl
            obtain ⟨g, o, h1, h2, h3⟩ := hx k (by rw [HN.out]; exact hkn)
            obtain ⟨rfl, -, -⟩ := Value.slice.inj he
            rw [hp] at h3
            exact ⟨g, o, h1, h2, h3⟩
          subst hae
          have hpl := HPl.out p (List.mem_of_getElem? hPk)
          have hEr := HE.out.after (HB.out.trans (HBw.out.mono HB.out.size))
          have HStep := Lib.hid (firstD_step P2 k p hPk)
          have cD := Lib.hid (refDecE_any p wr hEr (by omega))
          clear hbl hp hPk hEr
          go_wp2_with fail
          refine cD.out.mono ?_
          rintro e w2 ⟨u, rfl, hnu, hb2⟩
          obtain ⟨r, e2, hre⟩ : ∃ r e2, decE p = (r, e2) := ⟨_, _, rfl⟩
          rw [hre] at hnu HStep ⊢
          simp only at hnu HStep ⊢
          obtain ⟨ua, uc, hue, -, -⟩ := hnu.here.length
          obtain ⟨ul, hul⟩ : ∃ m, r.fields.length = m := ⟨_, rfl⟩
          rw [hul] at hue
          subst hue
          have HNu := Lib.hid hnu
          have HB2 := Lib.hid hb2
          clear hnu hb2 hul cD hre
          unfold RV
          by_cases h0 : e2 = 0
          · subst h0
            have HS2 : RowKit.Hid (firstD (P2.drop k) k = catD [r] (firstD (P2.drop (k + 1)) (k + 1))) := by
              have := HStep.out
              rw [if_neg (fun h => h rfl)] at this
              exact this
            have HD2 : RowKit.Hid (firstD P2 0 = catD (D ++ [r]) (firstD (P2.drop (k + 1)) (k + 1))) := by
              unfold RowKit.Hid
              rw [HD.out, HS2.out, catD_cat]
            have hrow2 := HRow.out.after HB2.out
            have hsz : w1.heap.size ≤ wr.heap.size := HBw.out.size
            obtain ⟨us0, _, hown0, _⟩ := HRow.out
            have hnx : NewX w1.heap.size (Value.slice ao k cp).ownBlock (FL (.slice ua ul uc) r.fields) w2 := NewX.of HNu.out hsz (fun j hj => (hown0.lt j hj).2)
            obtain ⟨z, hz⟩ : ∃ z, (w2.alloc (.cells #[.int .i64 r.id, .int .i64 r.ver, .int .i64 r.kind, .string (S r.lang), .slice ua ul uc] 40)).alloc (.cells #[.int .i64 r.id, .int .i64 r.ver, .int .i64 r.kind, .string (S r.lang), .slice ua ul uc] 40) = z := ⟨_, rfl⟩
            have hbz : Below w2.heap.size w2 z := by
              rw [← hz]
              exact ((Below.refl _ _).alloc (Nat.le_refl _) _).alloc (by simp) _
            have hbx1 := heap_alloc_new w2 (.cells #[.int .i64 r.id, .int .i64 r.ver, .int .i64 r.kind, .string (S r.lang), .slice ua ul uc] 40)
            obtain ⟨⟨x0, x1, x2, x3, x4⟩, -⟩ := rcells hbx1
            have hrow3 := hrow2.after hbz
            have hnx3 := hnx.on (w' := z) hbz.size (fun i _ hi _ => hbz.block i hi)
            obtain ⟨xs, hxs, hpush⟩ := hrow3.open
            have HPush := Lib.hid (fun v' w' => hpush r (.slice ua ul uc) v' w' hnx3)
            rw [hDk] at hxs
            have HXs := Lib.hid hxs
            have HBz : RowKit.Hid (Below w1.heap.size w1 z) := HBw.out.trans ((HB2.out.mono hsz).trans (hbz.mono (Nat.le_trans hsz HB2.out.size)))
            have hone := encR_one r (.slice ua ul uc) rfl
            have HOne := Lib.hid hone
            have hzs : w2.heap.size + 1 + 1 = z.heap.size := by rw [← hz]; simp
            have hcz := cells_five (w2.alloc (.cells #[.int .i64 r.id, .int .i64 r.ver, .int .i64 r.kind, .string (S r.lang), .slice ua ul uc] 40)) (.int .i64 r.id) (.int .i64 r.ver) (.int .i64 r.kind) (.string (S r.lang)) (.slice ua ul uc) 40
            rw [hz, show (w2.alloc (.cells #[.int .i64 r.id, .int .i64 r.ver, .int .i64 r.kind, .string (S r.lang), .slice ua ul uc] 40)).heap.size = w2.heap.size + 1 by simp] at hcz
            have HCz := Lib.hid hcz
            have HZ := Lib.hid hz
            have hsz1 : w1.heap.size ≤ z.heap.size := HBz.out.size
            clear hrow2 hown0 hnx hbz hbx1 hrow3 hnx3 hxs hpush hone hcz hz HStep HS2
            go_wp2_with (at_builtin; go_loud (rw [HZ.out]; refine wpList_append_two _ rfl _ _ 28 rfl w1.heap.size 40 i0 (.agg #[.int .i64 0, .int .i64 0, .int .i64 0, .string ⟨#[]⟩, .slice none 0 0]) 5 64 Tryz.underlying28 HI.out HZ0.out HZ1.out HZ2.out rfl (by decide) _ _ _ rfl HXs.out ⟨w2.heap.size + 1, 0, none⟩ 1 1 (encR r (.slice ua ul uc)) (by first | rfl | simp) rfl HCz.out HOne.out (by decide) (by unfold maxLen; omega) (by omega) hsz1 ?_))
            intro fv2 w3 hown3 hg3 hnn3 hob3
            have hFN := HPush.out fv2 w3 hg3 hob3 (by rw [hDk]; exact hown3)
            have HB3 : RowKit.Hid (Below w1.heap.size w1 w3) := HBz.out.grown hg3 hsz1 (fun j hj => (HXs.out.lt j hj).1)
            obtain ⟨ao2, cp2, rfl⟩ := own_form hown3
            have HFN := Lib.hid hFN
            clear hFN hown3 hg3 hnn3 hob3 HPush HXs HOne HCz HZ x0 x1 x2 x3 x4
            go_wp2
            go_roundw
            case rel => exact ⟨k + 1, D ++ [r], _, _, by first | rfl | trivial, by go_num, by omega, by rw [List.length_append, hDk]; rfl, HD2, HFN, HB3⟩
            case measure => simp [intOf]; omega
          · have hL : (L, k0, er) = ([], (k : Int), e2) := by
              rw [← HR.out, HD.out, HStep.out, if_pos h0]
              unfold catD
              rw [if_pos h0]
            obtain ⟨rfl, h2⟩ := Prod.mk.inj hL
            obtain ⟨rfl, rfl⟩ := Prod.mk.inj h2
            have t0 : (er != 0) = true := by simpa using h0
            have HBf : RowKit.Hid (∀ x, Below w.heap.size w (w2.alloc x)) := fun x => HB.out.trans ((HBw.out.trans (HB2.out.mono HBw.out.size)).alloc (Nat.le_trans HBw.out.size HB2.out.size) x |>.mono HB.out.size)
            clear hL h2 HStep
            go_wp2
            refine bodyPost_ret (results_tmp3 rfl _ _ _) rfl ?_
            exact HQ.out _ _ ⟨_, rfl, HNil.out _, HBf.out _⟩
        · obtain rfl : k = n := by omega
          have hL : (L, k0, er) = (D, (-1 : Int), (0 : Int)) := by
            rw [← HR.out, HD.out, List.drop_of_length_le (by rw [HN.out]; exact Nat.le_refl _)]
            simp [firstD, catD]
          obtain ⟨rfl, h2⟩ := Prod.mk.inj hL
          obtain ⟨rfl, rfl⟩ := Prod.mk.inj h2
          have HNew := Lib.hid (HRow.out.new.mono HB.out.size)
          have HBf := Lib.hid (HB.out.trans (HBw.out.mono HB.out.size))
          clear hL h2
          go_wp2
          refine bodyPost_ret (results_tmp3 rfl _ _ _) rfl ?_
          exact HQ.out _ _ ⟨_, rfl, HNew.out, HBf.out⟩
end

end Go.Proofs.YtiledacfdaenbaaGreatDoor
