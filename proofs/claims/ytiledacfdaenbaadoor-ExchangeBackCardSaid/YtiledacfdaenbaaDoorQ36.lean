/- Merged: LF10, LG10, LH10. -/
import Derived.Test.YtiledacfdaenbaaDoorQ35
import Derived.Test.YtiledacfdaenbaaDoorQ31
import Derived.Test.YtiledacfdaenbaaDoorQ33
namespace Go.Proofs.YtiledacfdaenbaaDoor

section
open Go.RowKit Go.PlainAid
theorem right_hz {r : Rec} (h : rightRI r = 0) : r.lang.length ≤ maxLen ∧ ∀ i, i < r.fields.length → ∀ j, j < (r.fields.getD i fd0).subs.length → ((r.fields.getD i fd0).subs.getD j sub0).2.length ≤ 1000000 := by
  obtain ⟨-, -, -, -, -, -, a6, -, hf⟩ := right_rec r h
  refine ⟨by rw [lang_len _ a6]; decide, fun i hi j hj => ?_⟩
  have hm : r.fields.getD i fd0 ∈ r.fields := by
    rw [List.getD_eq_getElem?_getD, List.getElem?_eq_getElem hi]
    exact List.getElem_mem _
  obtain ⟨_, _, _, _, hs, _⟩ := right_facts _ (hf _ hm)
  exact Nat.le_trans (subE_zero _ (hs j hj)).2.2.2 (by decide)
set_option maxHeartbeats 16000000 in
set_option maxRecDepth 100000 in
theorem lawOne_any (l : List UInt8) (w : World) (hE : Env w) :
    Calls Tryd.prog 7 #[.string (S l)] w fun e w' => e = .returned (.bool true) ∧ Below w.heap.size w w' := by
  obtain ⟨Q, hQ⟩ : ∃ Q, (fun (e : Ending) (w' : World) => e = .returned (.bool true) ∧ Below w.heap.size w w') = Q := ⟨_, rfl⟩
  rw [hQ]
  have HQ : RowKit.Hid (∀ e w', (e = .returned (.bool true) ∧ Below w.heap.size w w') → Q e w') := by rw [← hQ]; exact fun _ _ h => h
  clear hQ
  have cA := Lib.hid (lalive_any w hE)
  have HE := Lib.hid hE
  have hsz := S_size l
  obtain ⟨z, hz⟩ : ∃ z, l.length = z := ⟨_, rfl⟩
  rw [hz] at hsz
  have HZ := Lib.hid hz
  obtain ⟨q, er, hd⟩ : ∃ q er, decE l = (q, er) := ⟨_, _, rfl⟩
  obtain ⟨P, se, hp⟩ : ∃ P se, splR l = (P, se) := ⟨_, _, rfl⟩
  have cD := fun (h : z ≤ 4000) W hW => pDecode_any l W hW (by omega)
  rw [hd] at cD
  simp only at cD
  have HD := Lib.hid cD
  have HS := Lib.hid (fun (h : z ≤ 4000) W => pSplit_any l (by omega) P se hp W)
  have HP : RowKit.Hid (se = 0 → splitF l = some P) := by
    intro h
    unfold splR at hp
    cases e : splitF l with
    | none => rw [e] at hp; rw [← (Prod.mk.inj hp).2] at h; cases h
    | some M => rw [e] at hp; rw [(Prod.mk.inj hp).1]
  have HJ : RowKit.Hid (z ≤ 4000 → se = 0 → ∀ v W, BL v P W → Calls Tryd.prog 21 #[v, .string ⟨#[]⟩] W fun e w' => e = .returned (.string (S l)) ∧ w' = W) := by
    intro h4 h0 v W hv
    have hP := HP.out h0
    have hc := splitF_count _ l P (Nat.le_refl _) hP
    have c := refJoin_any v P [] W hv (by decide) (fun i => by
      rw [List.getD_eq_getElem?_getD]
      cases e : P[i]? with
      | none => exact Nat.zero_le _
      | some p =>
        have := splitF_le l P hP p (List.mem_of_getElem? e)
        show p.length ≤ _
        omega) (by omega)
    rw [join_parts l P hP] at c
    exact c
  have HEnc : RowKit.Hid (er = 0 → ∀ u W, Env W → FL u q.fields W → Calls Tryd.prog 10 #[RV q u] W fun e w' => e = .returned (.tuple #[.string (S l), .int .i64 0]) ∧ Below W.heap.size W w') := by
    intro h0 u W hW hu
    subst h0
    have he := (decE_iff l q).1 hd
    have hr := right_hz (enc_ok q l he).1
    have c := pEncode_any q u W hW hu hr.1 hr.2
    rw [he] at c
    exact c
  clear cD hd hp hz hE
  generalize S l = s at *
  go_enter Tryd.func7, Tryd.ntmps7
  go_wp2_with fail
  refine cA.out.mono ?_
  rintro e w1 ⟨rfl, hb1⟩
  have B1 := Lib.hid hb1
  clear hb1 cA
  by_cases h4 : 4000 < z
  · have t1 : decide ((4000 : Int) < (z : Int)) = true := decide_eq_true (by omega)
    have t1' : decide (4000 < z) = true := decide_eq_true h4
    clear h4
    go_wp2
    first | exact HQ.out _ _ ⟨rfl, B1.out⟩ | (go_ret; exact HQ.out _ _ ⟨rfl, B1.out⟩)
  have t1 : decide ((4000 : Int) < (z : Int)) = false := decide_eq_false (by omega)
  have t1' : decide (4000 < z) = false := decide_eq_false h4
  have c1 := Lib.hid (HS.out (by omega) w1)
  have c2 := Lib.hid (fun W hW => HD.out (by omega) W hW)
  have cJ := Lib.hid (HJ.out (by omega))
  clear h4
  go_wp2_with fail
  refine c1.out.mono ?_
  rintro e w2 ⟨v, rfl, hn2, hb2⟩
  have B2 := Lib.hid (B1.out.trans (hb2.mono B1.out.size))
  have HBL := Lib.hid hn2.here
  obtain ⟨pa, pc, rfl, -, -⟩ := hn2.here.length
  clear hn2 hb2 c1
  go_upto_region 6 with fail
  go_cut [26] from 19 to 26 (fun x wx => x = .bool false ∧ wx = w2)
  case first =>
    by_cases h0 : se = 0
    · have cj := Lib.hid (cJ.out h0 _ w2 HBL.out)
      subst h0
      go_wp2_with fail
      refine cj.out.mono ?_
      rintro e w3 ⟨rfl, hw⟩
      rw [hw]
      clear hw
      go_wp2
      go_meet
      exact ⟨rfl, rfl⟩
    · have t2 : (se == 0) = false := by simpa using h0
      have t2' : decide (se = 0) = false := decide_eq_false h0
      clear h0
      go_wp2
      go_meet
      exact ⟨rfl, rfl⟩
  case rest =>
    obtain ⟨rfl, hwx⟩ := hcut
    rw [hwx]
    clear hwx cJ HBL
    go_wp2_with fail
    refine (c2.out w2 (HE.out.after B2.out)).mono ?_
    rintro e w3 ⟨u, rfl, hn3, hb3⟩
    obtain ⟨ua, uc, rfl, -, -⟩ := hn3.here.length
    obtain ⟨ul, hul⟩ : ∃ m, q.fields.length = m := ⟨_, rfl⟩
    rw [hul] at hn3 ⊢
    unfold RV
    have hA := (Below.refl w3.heap.size w3).alloc (Nat.le_refl _) (.cells #[.int .i64 q.id, .int .i64 q.ver, .int .i64 q.kind, .string (S q.lang), .slice ua ul uc] 24)
    have hbx := heap_alloc_new w3 (.cells #[.int .i64 q.id, .int .i64 q.ver, .int .i64 q.kind, .string (S q.lang), .slice ua ul uc] 24)
    have hF3 := hn3.here.after hA
    have B3 := Lib.hid ((B2.out.trans (hb3.mono B2.out.size)).trans (hA.mono (Nat.le_trans B2.out.size hb3.size)))
    obtain ⟨W3, hW3⟩ : ∃ W, w3.alloc (.cells #[.int .i64 q.id, .int .i64 q.ver, .int .i64 q.kind, .string (S q.lang), .slice ua ul uc] 24) = W := ⟨_, rfl⟩
    rw [hW3] at hbx hF3 B3
    obtain ⟨b, hb⟩ : ∃ b, w3.heap.size = b := ⟨_, rfl⟩
    rw [hb] at hbx
    obtain ⟨⟨x0, x1, x2, x3, x4⟩, -⟩ := rcells hbx
    have HF3 := Lib.hid hF3
    have HW3 := Lib.hid hW3
    have HB := Lib.hid hb
    clear hn3 hb3 hA hbx hF3 hW3 hb c2
    go_upto_region 9 with fail
    rw [HW3.out, HB.out]
    by_cases h0 : er = 0
    · have cE := Lib.hid (HEnc.out h0 _ W3 (HE.out.after B3.out) (by rw [← hul] at HF3; exact HF3.out))
      subst h0
      rw [hul] at cE
      unfold RV at cE
      go_wp2_with fail
      refine cE.out.mono ?_
      rintro e w4 ⟨rfl, hb4⟩
      have BF := Lib.hid (B3.out.trans (hb4.mono B3.out.size))
      clear hb4
      go_wp2
      first | exact HQ.out _ _ ⟨rfl, BF.out⟩ | (go_ret; exact HQ.out _ _ ⟨rfl, BF.out⟩)
    · have t3 : (er != 0) = true := by simpa using h0
      clear h0
      go_wp2
      first | exact HQ.out _ _ ⟨rfl, B3.out⟩ | (go_ret; exact HQ.out _ _ ⟨rfl, B3.out⟩)
end

section
open Go.RowKit Go.PlainAid
theorem okR_all {L : List Rec} (h : ∀ i, i < L.length → smallV (L.getD i rec0)) : ∀ r ∈ L, okR r := by
  intro r hr
  obtain ⟨i, hi, rfl⟩ := List.mem_iff_getElem.1 hr
  have := smallV_hz (h i hi)
  rw [List.getD_eq_getElem?_getD, List.getElem?_eq_getElem hi] at this
  exact this
/-- So many copies of a list, one after the other. -/
def reps (L : List Rec) : Nat → List Rec
  | 0 => []
  | k + 1 => reps L k ++ L
theorem reps_ok {L : List Rec} (h : ∀ r ∈ L, okR r) : ∀ k, ∀ r ∈ reps L k, okR r
  | 0, r, hr => by cases hr
  | k + 1, r, hr => by
    rcases List.mem_append.1 hr with hr | hr
    · exact reps_ok h k r hr
    · exact h r hr
theorem reps_len (L : List Rec) : ∀ k, (reps L k).length = k * L.length
  | 0 => by simp [reps]
  | k + 1 => by rw [reps, List.length_append, reps_len L k, Nat.succ_mul]
/-- append of a whole slice of records that lies in W0 to a row of one's own whose fields lie in W0. -/
theorem append_rr {ops : Array Oper} {rest : List Oper} {o : Oper} {a : Act} {Q : Exit → Act → World → Prop} (w : World) (hgd : o.guard = none) (s x : Operand)
    (ho : o.op = .call { callee := .builtin .append, args := #[s, x], argTypes := #[34, 34] })
    (W0 : World) (B : Nat) (v : Value) (L : List Rec) (hs : a.eval s = v) (hfr : RR W0 B v L w) (vx : Value) (M : List Rec) (hx : a.eval x = vx) (hM : RL vx M W0)
    (hz : L.length + M.length ≤ 100000) (hB : B ≤ w.heap.size) (hWB : W0.heap.size ≤ B) (N : Nat) (W1 : World) (hNB : N ≤ B) (hb : Below W0.heap.size W0 w) (hb1 : Below N W1 w)
    (h : ∀ v' w', RR W0 B v' (L ++ M) w' → Below W0.heap.size W0 w' → Below N W1 w' → B ≤ w'.heap.size → wpList Tryd.prog ops Q rest (a.put o.dst v') w') : wpList Tryd.prog ops Q (o :: rest) a w := by
  obtain ⟨i0, hi, hz0, hz1, hz2⟩ := info_rec
  obtain ⟨xs, hrow, hpush⟩ := hfr.open
  obtain ⟨ao, c, us, rfl, hc1, hc2, hc3, hl, hq, hcell⟩ := hM.vals
  cases ao with
  | none =>
    obtain rfl := hc3 rfl
    obtain rfl : M = [] := List.eq_nil_of_length_eq_zero (by omega)
    refine wpList_append_own_none hgd s x _ ho B _ i0 5 Tryd.underlying34 hi v L.length xs hs hrow hx (h v w ?_ hb hb1 hB)
    rw [List.append_nil]; exact hfr
  | some ad =>
    refine wpList_append_own w hgd s x _ ho B _ i0 (.agg #[.int .i64 0, .int .i64 0, .int .i64 0, .string ⟨#[]⟩, .slice none 0 0]) 5 64 Tryd.underlying34 hi hz0 hz1 hz2 rfl (by decide) v L.length xs hs hrow ad M.length c (cellsR M us) hx
      (cellsR_length M us hl) (fun j u hu => ?_) (cellsR_one M us fun u hu => ?_) (by unfold maxLen; omega) (by omega) hB fun v' w' hown' hgrow _ => h v' w' ?_ ?_ ?_ ?_
    · obtain ⟨g, o', sp⟩ := ad
      by_cases hne : M = []
      · subst hne
        simp [cellsR] at hu
      · obtain ⟨rfl, hg, hcl⟩ := hcell g o' sp rfl hne
        have hadd : (⟨g, o', none⟩ : Addr).add j = ⟨g, o' + j, none⟩ := by unfold Addr.add; split <;> simp_all
        rw [hadd]
        exact (hb.cell (p := ⟨g, o' + j, none⟩) hg).trans (hcl j u hu)
    · obtain ⟨i, hi, rfl⟩ := List.mem_iff_getElem.1 hu
      have := (hq i (by omega)).one
      rwa [List.getD_eq_getElem?_getD, List.getElem?_eq_getElem hi] at this
    · exact hpush M us v' w' hl hq hown'
    · exact hb.grown hgrow (by omega) (fun j hj => Nat.le_trans hWB (hrow.lt j hj).1)
    · exact hb1.grown hgrow (by omega) (fun j hj => Nat.le_trans hNB (hrow.lt j hj).1)
    · exact Nat.le_trans hB hgrow.size
end

section
open Go.RowKit Go.PlainAid
set_option maxHeartbeats 16000000 in
set_option maxRecDepth 100000 in
theorem lawExports_any (v : Value) (L : List Rec) (t : Int) (w : World) (ht0 : 0 ≤ t) (ht1 : t ≤ 255) (hE : Env w) (hv : RL v L w) :
    Calls Tryd.prog 5 #[v, .int .u8 t] w fun e w' => e = .returned (.bool true) ∧ Below w.heap.size w w' := by
  obtain ⟨Q, hQ⟩ : ∃ Q, (fun (e : Ending) (w' : World) => e = .returned (.bool true) ∧ Below w.heap.size w w') = Q := ⟨_, rfl⟩
  rw [hQ]
  have HQ : RowKit.Hid (∀ e w', (e = .returned (.bool true) ∧ Below w.heap.size w w') → Q e w') := by rw [← hQ]; exact fun _ _ h => h
  clear hQ
  have cA := Lib.hid (lalive_any w hE)
  have HE := Lib.hid hE
  have HV := Lib.hid hv
  obtain ⟨a, cap, rfl, -, -⟩ := hv.length
  have cF := Lib.hid (fun W hW => lfew_any L (.slice a L.length cap) W hW)
  obtain ⟨n, hn⟩ : ∃ n, L.length = n := ⟨_, rfl⟩
  rw [hn] at HV cF ⊢
  have HN := Lib.hid hn
  obtain ⟨q, hq, hq8⟩ : ∃ q : Nat, t.tmod 9 = (q : Int) ∧ q ≤ 8 := by
    have h1 : t.tmod 9 = t % 9 := Int.tmod_eq_emod_of_nonneg ht0
    exact ⟨(t % 9).toNat, by omega, by omega⟩
  clear hv hn hE
  go_enter Tryd.func5, Tryd.ntmps5
  go_wp2_with fail
  refine cA.out.mono ?_
  rintro e w1 ⟨rfl, hb1⟩
  have B1 := Lib.hid hb1
  clear hb1 cA
  go_wp2_with fail
  refine (cF.out w1 (HV.out.after B1.out)).mono ?_
  rintro e w2 ⟨b, rfl, hb2, hsm⟩
  have B2 := Lib.hid (B1.out.trans (hb2.mono B1.out.size))
  have HSm := Lib.hid hsm
  clear hb2 hsm cF B1
  cases b with
  | false =>
    clear HSm
    go_wp2
    first | exact HQ.out _ _ ⟨rfl, B2.out⟩ | (go_ret; exact HQ.out _ _ ⟨rfl, B2.out⟩)
  | true =>
    have HV2 := Lib.hid (HV.out.after B2.out)
    have HE2 := Lib.hid (HE.out.after B2.out)
    have HOk := Lib.hid (okR_all (L := L) (by rw [HN.out]; exact (HSm.out rfl).2))
    have hn8 : n ≤ 8 := (HSm.out rfl).1
    clear HSm
    go_wp2
    go_loopw [5, 6] (fun mv i wr => ∃ k : Nat, i = .int .i64 (k : Int) ∧ k ≤ q + 1 ∧ RowKit.Hid (RR w2 w2.heap.size mv (reps L k) wr) ∧ RowKit.Hid (Below w2.heap.size w2 wr)) (fun _ i _ => q + 1 - (intOf i).toNat)
    case atStart => exact ⟨0, rfl, Nat.zero_le _, RR.nil _ _ _, Below.refl _ _⟩
    case round =>
      obtain ⟨k, rfl, hk, HR, HB⟩ := hrel
      by_cases hkq : k ≤ q
      · have t1 : decide ((k : Int) ≤ (q : Int)) = true := decide_eq_true (by omega)
        have t1' : decide (k ≤ q) = true := decide_eq_true hkq
        have hlen : (reps L k).length + L.length ≤ 100000 := by
          rw [reps_len, HN.out]
          have : k * n ≤ 8 * 8 := Nat.mul_le_mul (by omega) hn8
          omega
        have HLen := Lib.hid hlen
        clear hlen
        go_wp2_with (at_builtin; go_loud (refine append_rr _ rfl _ _ rfl w2 w2.heap.size _ (reps L k) rfl HR.out (.slice a n cap) L rfl HV2.out HLen.out HB.out.size (Nat.le_refl _) w2.heap.size w2 (Nat.le_refl _) HB.out HB.out ?_))
        intro v2 w3 hr3 hb3 _
        have HR3 : RowKit.Hid (RR w2 w2.heap.size v2 (reps L (k + 1)) w3) := hr3
        have HB3 := Lib.hid hb3
        clear hr3 hb3 HR HB HLen
        go_wp2
        go_roundw
        case rel => exact ⟨k + 1, by go_num, by omega, HR3, HB3⟩
        case measure => simp [intOf]; omega
      · have t1 : decide ((k : Int) ≤ (q : Int)) = false := decide_eq_false (by omega)
        have t1' : decide (k ≤ q) = false := decide_eq_false hkq
        clear hkq
        obtain ⟨M, hM⟩ : ∃ M, reps L k = M := ⟨_, rfl⟩
        have hok : ∀ r ∈ M, okR r := by rw [← hM]; exact reps_ok HOk.out k
        rw [hM] at HR
        obtain ⟨s, er, hs⟩ : ∃ s er, expR M = (s, er) := ⟨_, _, rfl⟩
        have hrl := HR.out.rl HB.out
        have c1 := Lib.hid (pExport_any M u5 wr (HE2.out.after HB.out) hrl hok s er hs)
        have c2 := Lib.hid (fun W h => refExport_any M u5 W h hok s er hs)
        have HRl := Lib.hid hrl
        clear hs hok hM hrl
        generalize S s = st at *
        go_wp2_with fail
        refine c1.out.mono ?_
        rintro e w3 ⟨rfl, hb3⟩
        have HRl3 := Lib.hid (HRl.out.after hb3)
        have B3 := Lib.hid (B2.out.trans ((HB.out.trans (hb3.mono HB.out.size)).mono B2.out.size))
        clear hb3 c1 HRl
        go_wp2_with fail
        refine (c2.out w3 HRl3.out).mono ?_
        rintro e w4 ⟨rfl, hb4⟩
        have BF := Lib.hid (B3.out.trans (hb4.mono B3.out.size))
        clear hb4 c2
        go_wp2
        first | exact HQ.out _ _ ⟨rfl, BF.out⟩ | (go_ret; exact HQ.out _ _ ⟨rfl, BF.out⟩)
end

end Go.Proofs.YtiledacfdaenbaaDoor
