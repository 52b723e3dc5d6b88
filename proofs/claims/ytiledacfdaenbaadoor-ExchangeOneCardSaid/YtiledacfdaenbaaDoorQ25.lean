/- Merged: PL10, PM10, Plain10D. -/
import Derived.Test.YtiledacfdaenbaaDoorQ24
namespace Go.Proofs.YtiledacfdaenbaaDoor

section
open Go.RowKit Go.PlainAid
/-! The records of a file. -/
def catD (D : List Rec) (x : List Rec × Int × Int) : List Rec × Int × Int := if x.2.2 ≠ 0 then ([], x.2) else (D ++ x.1, x.2)
theorem firstD_no : ∀ (P : List (List UInt8)) (i : Nat), (firstD P i).2.2 ≠ 0 → (firstD P i).1 = []
  | [], _, h => absurd rfl h
  | p :: t, i, h => by
    unfold firstD at h ⊢
    by_cases h0 : (decE p).2 ≠ 0
    · rw [if_pos h0]
    · rw [if_neg h0] at h ⊢
      revert h
      obtain ⟨L, k, e⟩ := firstD t (i + 1)
      intro h
      simp only at h ⊢
      by_cases h1 : e ≠ 0
      · rw [if_pos h1]
      · rw [if_neg h1] at h
        exact absurd h h1
theorem catD_nil (P : List (List UInt8)) (i : Nat) : firstD P i = catD [] (firstD P i) := by
  unfold catD
  by_cases h : (firstD P i).2.2 ≠ 0
  · rw [if_pos h, ← firstD_no P i h]
  · rw [if_neg h, List.nil_append]
theorem catD_cat (D : List Rec) (r : Rec) (x : List Rec × Int × Int) : catD D (catD [r] x) = catD (D ++ [r]) x := by
  unfold catD
  by_cases h : x.2.2 ≠ 0
  · rw [if_pos h, if_pos h, if_pos h]
  · rw [if_neg h, if_neg h, if_neg h, List.append_assoc]
theorem firstD_step (P : List (List UInt8)) (k : Nat) (p : List UInt8) (h : P[k]? = some p) :
    firstD (P.drop k) k = if (decE p).2 ≠ 0 then ([], (k : Int), (decE p).2) else catD [(decE p).1] (firstD (P.drop (k + 1)) (k + 1)) := by
  have hk := (List.getElem?_eq_some_iff.1 h).1
  have e : P.drop k = p :: P.drop (k + 1) := by
    rw [List.drop_eq_getElem_cons hk, (List.getElem?_eq_some_iff.1 h).2]
  rw [e, firstD]
  by_cases h0 : (decE p).2 ≠ 0
  · rw [if_pos h0, if_pos h0]
  · rw [if_neg h0, if_neg h0]
    obtain ⟨L, k, e⟩ := firstD (P.drop (k + 1)) (k + 1)
    unfold catD
    simp only
    by_cases h1 : e ≠ 0
    · rw [if_pos h1, if_pos h1]
    · rw [if_neg h1, if_neg h1]
      rfl
theorem splitF_join : ∀ (n : Nat) (l : List UInt8) (P : List (List UInt8)), l.length ≤ n → splitF l = some P → P.flatten = l
  | n, l, P, hn, h => by
    by_cases h0 : l = []
    · subst h0
      rw [splitF_nil] at h
      obtain rfl := Option.some.inj h
      rfl
    · by_cases hb : badF l
      · rw [splitF_bad l h0 hb] at h
        cases h
      · have hnn : 26 ≤ numF l 0 5 ∧ numF l 0 5 ≤ l.length := by
          unfold badF at hb
          omega
        rw [splitF_go l h0 hb (numF l 0 5).toNat (by omega)] at h
        cases n with
        | zero => exact absurd (List.eq_nil_of_length_eq_zero (by omega)) h0
        | succ m =>
          cases e : splitF (l.drop (numF l 0 5).toNat) with
          | none => rw [e] at h; cases h
          | some P2 =>
            rw [e] at h
            obtain rfl := Option.some.inj h
            have := splitF_join m _ P2 (by rw [List.length_drop]; omega) e
            rw [List.flatten_cons, this, List.take_append_drop]
theorem splitF_le (l : List UInt8) (P : List (List UInt8)) (h : splitF l = some P) (p : List UInt8) (hp : p ∈ P) : p.length ≤ l.length := by
  have h1 := splitF_join l.length l P (Nat.le_refl _) h
  rw [← h1]
  obtain ⟨s, t, rfl⟩ := List.append_of_mem hp
  simp
  omega

set_option maxHeartbeats 16000000 in
set_option maxRecDepth 100000 in
theorem pImport_any (l : List UInt8) (hz : l.length ≤ 100000) (L : List Rec) (k0 er : Int) (hr : impR l = (L, k0, er)) (w : World) (hE : Env w) :
    Calls Tryd.prog 19 #[.string (S l)] w fun e w' => ∃ v, e = .returned (.tuple #[v, .int .i64 k0, .int .i64 er]) ∧ New w.heap.size (RL v L) w' ∧ Below w.heap.size w w' := by
  obtain ⟨Q, hQ⟩ : ∃ Q, (fun (e : Ending) (w' : World) => ∃ v, e = .returned (.tuple #[v, .int .i64 k0, .int .i64 er]) ∧ New w.heap.size (RL v L) w' ∧ Below w.heap.size w w') = Q := ⟨_, rfl⟩
  rw [hQ]
  have HQ : RowKit.Hid (∀ e w', (∃ v, e = .returned (.tuple #[v, .int .i64 k0, .int .i64 er]) ∧ New w.heap.size (RL v L) w' ∧ Below w.heap.size w w') → Q e w') := by rw [← hQ]; exact fun _ _ h => h
  clear hQ
  have HNil : RowKit.Hid (∀ W : World, New w.heap.size (RL (.slice none 0 0) []) W) := fun W w' _ _ => RL.nil w'
  obtain ⟨i0, hi0, hz0, hz1, hz2⟩ := info_rec
  have HI := Lib.hid hi0
  have HZ0 := Lib.hid hz0
  have HZ1 := Lib.hid hz1
  have HZ2 := Lib.hid hz2
  clear hi0 hz0 hz1 hz2
  have HE := Lib.hid hE
  clear hE
  obtain ⟨P, se, hs⟩ : ∃ P se, splR l = (P, se) := ⟨_, _, rfl⟩
  have cS := Lib.hid (pSplit_any l (by omega) P se hs w)
  unfold impR at hr
  unfold splR at hs
  cases hsp : splitF l with
  | none =>
    rw [hsp] at hr hs
    obtain ⟨rfl, rfl⟩ := Prod.mk.inj hs
    obtain ⟨rfl, h2⟩ := Prod.mk.inj hr
    obtain ⟨rfl, rfl⟩ := Prod.mk.inj h2
    clear hr hs h2 hsp
    go_enter Tryd.func19, Tryd.ntmps19
    go_wp2_with fail
    refine cS.out.mono ?_
    rintro e w1 ⟨v, rfl, hnew, hb⟩
    obtain ⟨a, cap, rfl, -, -⟩ := hnew.here.length
    have HB := Lib.hid hb
    clear hnew hb cS
    go_wp2
    refine bodyPost_ret (results_tmp3 rfl _ _ _) rfl ?_
    exact HQ.out _ _ ⟨_, rfl, HNil.out _, HB.out⟩
  | some P2 =>
    rw [hsp] at hr hs
    obtain ⟨rfl, rfl⟩ := Prod.mk.inj hs
    have HPl := Lib.hid (splitF_le l P2 hsp)
    obtain ⟨n, hn⟩ : ∃ n, P2.length = n := ⟨_, rfl⟩
    have HN := Lib.hid hn
    simp only [hn] at hr
    clear hs hsp
    by_cases h64 : 64 < n
    · rw [if_pos h64] at hr
      obtain ⟨rfl, h2⟩ := Prod.mk.inj hr
      obtain ⟨rfl, rfl⟩ := Prod.mk.inj h2
      have t1 : decide ((64 : Int) < (n : Int)) = true := decide_eq_true (by omega)
      clear hr h2
      go_enter Tryd.func19, Tryd.ntmps19
      go_wp2_with fail
      refine cS.out.mono ?_
      rintro e w1 ⟨v, rfl, hnew, hb⟩
      obtain ⟨a, cap, rfl, -, -⟩ := hnew.here.length
      rw [hn]
      have HB := Lib.hid hb
      clear hnew hb cS hn h64
      go_wp2
      refine bodyPost_ret (results_tmp3 rfl _ _ _) rfl ?_
      exact HQ.out _ _ ⟨_, rfl, HNil.out _, HB.out⟩
    · rw [if_neg h64] at hr
      have t1 : decide ((64 : Int) < (n : Int)) = false := decide_eq_false (by omega)
      have hn64 : n ≤ 64 := by omega
      have HR := Lib.hid hr
      have HD0 : RowKit.Hid (firstD P2 0 = catD [] (firstD (P2.drop 0) 0)) := by
        unfold RowKit.Hid
        rw [List.drop_zero]
        exact catD_nil P2 0
      clear hr h64
      go_enter Tryd.func19, Tryd.ntmps19
      go_wp2_with fail
      refine cS.out.mono ?_
      rintro e w1 ⟨v, rfl, hnew, hb⟩
      have HBL := Lib.hid hnew.here
      obtain ⟨a, cap, rfl, -, -⟩ := hnew.here.length
      rw [hn] at HBL ⊢
      have HB := Lib.hid hb
      clear hnew hb cS hn
      go_wp2
      go_loopw [7, 27] (fun v i wr => ∃ (k : Nat) (D : List Rec) (ao : Option Addr) (cp : Nat), v = .slice ao k cp ∧ i = .int .i64 (k : Int) ∧ k ≤ n ∧ D.length = k ∧
        RowKit.Hid (firstD P2 0 = catD D (firstD (P2.drop k) k)) ∧ RowKit.Hid (RN w1.heap.size (.slice ao k cp) D wr) ∧ RowKit.Hid (Below w1.heap.size w1 wr)) (fun _ i _ => n - (intOf i).toNat)
      case atStart => exact ⟨0, [], none, 0, rfl, rfl, Nat.zero_le _, rfl, HD0, RN.nil _ _, Below.refl _ _⟩
      case round =>
        obtain ⟨k, D, ao, cp, rfl, rfl, hk, hDk, HD, HRow, HBw⟩ := hrel
        clear HD0
        by_cases hkn : k < n
        · have i1 : (0 : Int) ≤ (k : Int) := by omega
          have i2 : (k : Int) < (n : Int) := by omega
          have hbl := HBL.out.after HBw.out
          obtain ⟨p, hp⟩ : ∃ p, P2.getD k [] = p := ⟨_, rfl⟩
          have hPk : P2[k]? = some p := by
            rw [← hp, List.getD_eq_getElem?_getD, List.getElem?_eq_getElem (by rw [HN.out]; exact hkn)]
            rfl
          obtain ⟨g, o, hae, hg, hc⟩ : ∃ g o, a = some ⟨g, o, none⟩ ∧ g < wr.heap.size ∧ wr.cell? ⟨g, o + k, none⟩ = some (.string (S p)) := by
            obtain ⟨a', cap', he, _, _, _, hx⟩ := hbl
            obtain ⟨g, o, h1, h2, h3⟩ := hx k (by rw [HN.out]; exact hkn)
            obtain ⟨rfl, -, -⟩ := Value.slice.inj he
            rw [hp] at h3
            exact ⟨g, o, h1, h2, h3⟩
          subst hae
          have hpl := HPl.out p (List.mem_of_getElem? hPk)
          have hEr := HE.out.after (HB.out.trans (HBw.out.mono HB.out.size))
          have HStep := Lib.hid (firstD_step P2 k p hPk)
          have cD := Lib.hid (pDecode_any p wr hEr (by omega))
          clear hbl hp hPk hEr
          go_wp2_with fail
          refine cD.out.mono ?_
          rintro e w2 ⟨u, rfl, hnu, hb2⟩
          obtain ⟨r, e2, hre⟩ : ∃ r e2, decE p = (r, e2) := ⟨_, _, rfl⟩
          rw [hre] at hnu HStep ⊢
          simp only at hnu HStep ⊢
          obtain ⟨ua, uc, hue, -, -⟩ := hnu.here.length
          obtain ⟨ul, hul⟩ : ∃ m, r.fields.length = m := ⟨_, rfl⟩
          rw [hul] at hue
          subst hue
          have HNu := Lib.hid hnu
          have HB2 := Lib.hid hb2
          clear hnu hb2 hul cD hre
          unfold RV
          by_cases h0 : e2 = 0
          · subst h0
            have HS2 : RowKit.Hid (firstD (P2.drop k) k = catD [r] (firstD (P2.drop (k + 1)) (k + 1))) := by
              have := HStep.out
              rw [if_neg (fun h => h rfl)] at this
              exact this
            have HD2 : RowKit.Hid (firstD P2 0 = catD (D ++ [r]) (firstD (P2.drop (k + 1)) (k + 1))) := by
              unfold RowKit.Hid
              rw [HD.out, HS2.out, catD_cat]
            have hrow2 := HRow.out.after HB2.out
            have hsz : w1.heap.size ≤ wr.heap.size := HBw.out.size
            obtain ⟨us0, _, hown0, _⟩ := HRow.out
            have hnx : NewX w1.heap.size (Value.slice ao k cp).ownBlock (FL (.slice ua ul uc) r.fields) w2 := NewX.of HNu.out hsz (fun j hj => (hown0.lt j hj).2)
            obtain ⟨z, hz⟩ : ∃ z, (w2.alloc (.cells #[.int .i64 r.id, .int .i64 r.ver, .int .i64 r.kind, .string (S r.lang), .slice ua ul uc] 24)).alloc (.cells #[.int .i64 r.id, .int .i64 r.ver, .int .i64 r.kind, .string (S r.lang), .slice ua ul uc] 24) = z := ⟨_, rfl⟩
            have hbz : Below w2.heap.size w2 z := by
              rw [← hz]
              exact ((Below.refl _ _).alloc (Nat.le_refl _) _).alloc (by simp) _
            have hbx1 := heap_alloc_new w2 (.cells #[.int .i64 r.id, .int .i64 r.ver, .int .i64 r.kind, .string (S r.lang), .slice ua ul uc] 24)
            obtain ⟨⟨x0, x1, x2, x3, x4⟩, -⟩ := rcells hbx1
            have hrow3 := hrow2.after hbz
            have hnx3 := hnx.on (w' := z) hbz.size (fun i _ hi _ => hbz.block i hi)
            obtain ⟨xs, hxs, hpush⟩ := hrow3.open
            have HPush := Lib.hid (fun v' w' => hpush r (.slice ua ul uc) v' w' hnx3)
            rw [hDk] at hxs
            have HXs := Lib.hid hxs
            have HBz : RowKit.Hid (Below w1.heap.size w1 z) := HBw.out.trans ((HB2.out.mono hsz).trans (hbz.mono (Nat.le_trans hsz HB2.out.size)))
            have hone := encR_one r (.slice ua ul uc) rfl
            have HOne := Lib.hid hone
            have hzs : w2.heap.size + 1 + 1 = z.heap.size := by rw [← hz]; simp
            have hcz := cells_five (w2.alloc (.cells #[.int .i64 r.id, .int .i64 r.ver, .int .i64 r.kind, .string (S r.lang), .slice ua ul uc] 24)) (.int .i64 r.id) (.int .i64 r.ver) (.int .i64 r.kind) (.string (S r.lang)) (.slice ua ul uc) 24
            rw [hz, show (w2.alloc (.cells #[.int .i64 r.id, .int .i64 r.ver, .int .i64 r.kind, .string (S r.lang), .slice ua ul uc] 24)).heap.size = w2.heap.size + 1 by simp] at hcz
            have HCz := Lib.hid hcz
            have HZ := Lib.hid hz
            have hsz1 : w1.heap.size ≤ z.heap.size := HBz.out.size
            clear hrow2 hown0 hnx hbz hbx1 hrow3 hnx3 hxs hpush hone hcz hz HStep HS2
            go_wp2_with (at_builtin; go_loud (rw [HZ.out]; refine wpList_append_two _ rfl _ _ 34 rfl w1.heap.size 24 i0 (.agg #[.int .i64 0, .int .i64 0, .int .i64 0, .string ⟨#[]⟩, .slice none 0 0]) 5 64 Tryd.underlying34 HI.out HZ0.out HZ1.out HZ2.out rfl (by decide) _ _ _ rfl HXs.out ⟨w2.heap.size + 1, 0, none⟩ 1 1 (encR r (.slice ua ul uc)) (by first | rfl | simp) rfl HCz.out HOne.out (by decide) (by unfold maxLen; omega) (by omega) hsz1 ?_))
            intro fv2 w3 hown3 hg3 hnn3 hob3
            have hFN := HPush.out fv2 w3 hg3 hob3 (by rw [hDk]; exact hown3)
            have HB3 : RowKit.Hid (Below w1.heap.size w1 w3) := HBz.out.grown hg3 hsz1 (fun j hj => (HXs.out.lt j hj).1)
            obtain ⟨ao2, cp2, rfl⟩ := own_form hown3
            have HFN := Lib.hid hFN
            clear hFN hown3 hg3 hnn3 hob3 HPush HXs HOne HCz HZ x0 x1 x2 x3 x4
            go_wp2
            go_roundw
            case rel => exact ⟨k + 1, D ++ [r], _, _, by first | rfl | trivial, by go_num, by omega, by rw [List.length_append, hDk]; rfl, HD2, HFN, HB3⟩
            case measure => simp [intOf]; omega
          · have hL : (L, k0, er) = ([], (k : Int), e2) := by
              rw [← HR.out, HD.out, HStep.out, if_pos h0]
              unfold catD
              rw [if_pos h0]
            obtain ⟨rfl, h2⟩ := Prod.mk.inj hL
            obtain ⟨rfl, rfl⟩ := Prod.mk.inj h2
            have t0 : (er != 0) = true := by simpa using h0
            have HBf : RowKit.Hid (∀ x, Below w.heap.size w (w2.alloc x)) := fun x => HB.out.trans ((HBw.out.trans (HB2.out.mono HBw.out.size)).alloc (Nat.le_trans HBw.out.size HB2.out.size) x |>.mono HB.out.size)
            clear hL h2 HStep
            go_wp2
            refine bodyPost_ret (results_tmp3 rfl _ _ _) rfl ?_
            exact HQ.out _ _ ⟨_, rfl, HNil.out _, HBf.out _⟩
        · obtain rfl : k = n := by omega
          have hL : (L, k0, er) = (D, (-1 : Int), (0 : Int)) := by
            rw [← HR.out, HD.out, List.drop_of_length_le (by rw [HN.out]; exact Nat.le_refl _)]
            simp [firstD, catD]
          obtain ⟨rfl, h2⟩ := Prod.mk.inj hL
          obtain ⟨rfl, rfl⟩ := Prod.mk.inj h2
          have HNew := Lib.hid (HRow.out.new.mono HB.out.size)
          have HBf := Lib.hid (HB.out.trans (HBw.out.mono HB.out.size))
          clear hL h2
          go_wp2
          refine bodyPost_ret (results_tmp3 rfl _ _ _) rfl ?_
          exact HQ.out _ _ ⟨_, rfl, HNew.out, HBf.out⟩
end

section
open Go.RowKit Go.PlainAid
/-! Records one after the other. -/
def catB (D : List UInt8) (x : List UInt8 × Int) : List UInt8 × Int := if x.2 ≠ 0 then ([], x.2) else (D ++ x.1, x.2)
theorem catX_no : ∀ (L : List Rec), (catX L).2 ≠ 0 → (catX L).1 = []
  | [], h => absurd rfl h
  | r :: t, h => by
    unfold catX at h ⊢
    by_cases h0 : (encX r).2 ≠ 0
    · rw [if_pos h0]
    · rw [if_neg h0] at h ⊢
      by_cases h1 : (catX t).2 ≠ 0
      · rw [if_pos h1]
      · rw [if_neg h1] at h
        exact absurd rfl h
theorem catX_nil (L : List Rec) : catX L = catB [] (catX L) := by
  unfold catB
  by_cases h : (catX L).2 ≠ 0
  · rw [if_pos h, ← catX_no L h]
  · rw [if_neg h, List.nil_append]
theorem catB_cat (D s : List UInt8) (x : List UInt8 × Int) : catB D (catB s x) = catB (D ++ s) x := by
  unfold catB
  by_cases h : x.2 ≠ 0
  · rw [if_pos h, if_pos h, if_pos h]
  · rw [if_neg h, if_neg h, if_neg h, List.append_assoc]
theorem catX_step (L : List Rec) (k : Nat) (r : Rec) (h : L[k]? = some r) :
    catX (L.drop k) = if (encX r).2 ≠ 0 then ([], (encX r).2) else catB (encX r).1 (catX (L.drop (k + 1))) := by
  have hk := (List.getElem?_eq_some_iff.1 h).1
  have e : L.drop k = r :: L.drop (k + 1) := by
    rw [List.drop_eq_getElem_cons hk, (List.getElem?_eq_some_iff.1 h).2]
  rw [e, catX]
  by_cases h0 : (encX r).2 ≠ 0
  · rw [if_pos h0, if_pos h0]
  · rw [if_neg h0, if_neg h0]
    unfold catB
    by_cases h1 : (catX (L.drop (k + 1))).2 ≠ 0
    · rw [if_pos h1, if_pos h1]
    · rw [if_neg h1, if_neg h1]
      rw [Decidable.not_not.1 h1]
theorem enc_ne (r : Rec) (h : (encX r).2 = 0) : (encX r).1 ≠ [] := by
  obtain ⟨s, e, he⟩ : ∃ s e, encX r = (s, e) := ⟨_, _, rfl⟩
  rw [he] at h ⊢
  simp only at h ⊢
  subst h
  obtain ⟨_, _, rfl⟩ := enc_ok r s he
  unfold formX
  simp
def okR (r : Rec) : Prop := r.lang.length ≤ maxLen ∧ ∀ i, i < r.fields.length → ∀ j, j < (r.fields.getD i fd0).subs.length → ((r.fields.getD i fd0).subs.getD j sub0).2.length ≤ 1000000
theorem expR_eq (L : List Rec) (h : ¬ 64 < L.length) : expR L = if (catX L).2 ≠ 0 then ([], (catX L).2) else if 65536 < (catX L).1.length then ([], 4) else ((catX L).1, 0) := by
  unfold expR
  rw [if_neg h]

set_option maxHeartbeats 16000000 in
set_option maxRecDepth 100000 in
theorem pExport_any (L : List Rec) (v : Value) (w : World) (hE : Env w) (hv : RL v L w) (hok : ∀ r ∈ L, okR r) (s : List UInt8) (er : Int) (hr : expR L = (s, er)) :
    Calls Tryd.prog 16 #[v] w fun e w' => e = .returned (.tuple #[.string (S s), .int .i64 er]) ∧ Below w.heap.size w w' := by
  obtain ⟨Q, hQ⟩ : ∃ Q, (fun (e : Ending) (w' : World) => e = .returned (.tuple #[.string (S s), .int .i64 er]) ∧ Below w.heap.size w w') = Q := ⟨_, rfl⟩
  rw [hQ]
  have HQ : RowKit.Hid (∀ e w', (e = .returned (.tuple #[.string (S s), .int .i64 er]) ∧ Below w.heap.size w w') → Q e w') := by rw [← hQ]; exact fun _ _ h => h
  clear hQ
  have HV := Lib.hid hv
  have HOk := Lib.hid hok
  obtain ⟨a, cap, rfl, -, hmax⟩ := hv.length
  obtain ⟨n, hn⟩ : ∃ n, L.length = n := ⟨_, rfl⟩
  rw [hn] at HV ⊢
  have HN := Lib.hid hn
  have HE := Lib.hid hE
  clear hv hE hok
  by_cases h64 : 64 < n
  · have t1 : decide ((64 : Int) < (n : Int)) = true := decide_eq_true (by omega)
    unfold expR at hr
    rw [if_pos (by omega)] at hr
    obtain ⟨rfl, rfl⟩ := Prod.mk.inj hr
    clear hr hn h64
    go_enter Tryd.func16, Tryd.ntmps16
    go_wp2
    exact HQ.out _ _ ⟨rfl, Below.refl _ _⟩
  · have t1 : decide ((64 : Int) < (n : Int)) = false := decide_eq_false (by omega)
    have hn64 : n ≤ 64 := by omega
    rw [expR_eq L (by omega)] at hr
    have HR := Lib.hid hr
    have HD0 : RowKit.Hid (catX L = catB [] (catX (L.drop 0))) := by
      unfold RowKit.Hid
      rw [List.drop_zero]
      exact catX_nil L
    obtain ⟨W0, hW0⟩ : ∃ W0, w.alloc (.cells #[.pointer none, .slice none 0 0] 59) = W0 := ⟨_, rfl⟩
    have hbx := BX.first w w.heap.size (Nat.le_refl _)
    have hb0 := (Below.refl w.heap.size w).alloc (Nat.le_refl _) (.cells #[.pointer none, .slice none 0 0] 59)
    rw [hW0] at hbx hb0
    have HW0 := Lib.hid hW0
    have HBX := Lib.hid hbx
    have HB0 := Lib.hid hb0
    clear hr hW0 hbx hb0 hn h64
    go_enter Tryd.func16, Tryd.ntmps16
    go_upto_region 4 with fail
    rw [HW0.out]
    go_wp2
    go_loopw [14] (fun i wr => ∃ (k : Nat) (D : List UInt8) (og : Option Nat), i = .int .i64 (k : Int) ∧ k ≤ n ∧ D.length ≤ 9999 * k ∧
      RowKit.Hid (catX L = catB D (catX (L.drop k))) ∧ RowKit.Hid (BX w.heap.size w.heap.size og D wr) ∧ RowKit.Hid (Below w.heap.size w wr)) (fun i _ => n - (intOf i).toNat)
    case atStart => exact ⟨0, [], none, rfl, Nat.zero_le _, by simp, HD0, HBX, HB0⟩
    case round =>
      obtain ⟨k, D, og, rfl, hk, hDl, HD, HX, HB⟩ := hrel
      clear HD0
      by_cases hkn : k < n
      · have i1 : (0 : Int) ≤ (k : Int) := by omega
        have i2 : (k : Int) < (n : Int) := by omega
        obtain ⟨g, o, cap', u, he, hg, c0, c1, c2, c3, c4, hq⟩ := (HV.out.after HB.out).at k (by rw [HN.out]; exact hkn)
        obtain ⟨ha, -, hcp⟩ := Value.slice.inj he
        subst ha hcp
        have hLk : L[k]? = some (L.getD k rec0) := by
          rw [List.getD_eq_getElem?_getD, List.getElem?_eq_getElem (by rw [HN.out]; exact hkn)]
          rfl
        have hokr := HOk.out _ (List.mem_of_getElem? hLk)
        have HStep := Lib.hid (catX_step L k _ hLk)
        obtain ⟨r, hre⟩ : ∃ r, L.getD k rec0 = r := ⟨_, rfl⟩
        rw [hre] at c0 c1 c2 c3 hq HStep hokr
        obtain ⟨ua, uc, hue, -, -⟩ := hq.length
        obtain ⟨ul, hul⟩ : ∃ m, r.fields.length = m := ⟨_, rfl⟩
        rw [hul] at hue
        subst hue
        have hbx1 := heap_alloc_new wr (.cells #[.int .i64 r.id, .int .i64 r.ver, .int .i64 r.kind, .string (S r.lang), .slice ua ul uc] 24)
        have hbw := (Below.refl wr.heap.size wr).alloc (Nat.le_refl _) (.cells #[.int .i64 r.id, .int .i64 r.ver, .int .i64 r.kind, .string (S r.lang), .slice ua ul uc] 24)
        obtain ⟨z, hz⟩ : ∃ z, wr.alloc (.cells #[.int .i64 r.id, .int .i64 r.ver, .int .i64 r.kind, .string (S r.lang), .slice ua ul uc] 24) = z := ⟨_, rfl⟩
        rw [hz] at hbx1 hbw
        obtain ⟨⟨x0, x1, x2, x3, x4⟩, -⟩ := rcells hbx1
        have HBz : RowKit.Hid (Below w.heap.size w z) := HB.out.trans (hbw.mono HB.out.size)
        have HXz := Lib.hid (HX.out.after hbw)
        have cE := pEncode_any r (.slice ua ul uc) z (HE.out.after HBz.out) (hq.after hbw) hokr.1 hokr.2
        unfold RV at cE
        obtain ⟨es, ee, hee⟩ : ∃ es ee, encX r = (es, ee) := ⟨_, _, rfl⟩
        have hel := encX_le r
        have HNe := Lib.hid (enc_ne r)
        rw [hee] at cE HStep hel HNe
        simp only at HStep hel HNe
        have CE := Lib.hid cE
        have HZ := Lib.hid hz
        have hbs := hbw.size
        clear he hLk hokr hre hq hul hbx1 hbw hz cE hee
        go_wp2_with fail
        rw [HZ.out]
        go_wp2_with fail
        refine CE.out.mono ?_
        rintro e w2 ⟨rfl, hb2⟩
        have HB2 : RowKit.Hid (Below w.heap.size w w2) := HBz.out.trans (hb2.mono HBz.out.size)
        have HX2 := Lib.hid (HXz.out.after hb2)
        clear hb2 x0 x1 x2 x3 x4 c0 c1 c2 c3 c4
        by_cases h0 : ee = 0
        · subst h0
          have HS2 : RowKit.Hid (catX L = catB (D ++ es) (catX (L.drop (k + 1)))) := by
            unfold RowKit.Hid
            have := HStep.out
            rw [if_neg (fun h => h rfl)] at this
            rw [HD.out, this, catB_cat]
          have hlen : (D ++ es).length ≤ 9999 * (k + 1) := by rw [List.length_append]; omega
          have cW := Lib.hid (writeX w.heap.size w.heap.size og D es w2 HX2.out (HNe.out rfl) (by omega) HB2.out.size)
          have HGr := Lib.hid (fun g (h : og = some g) => (HX2.out.row g h).1)
          clear HStep HNe
          go_wp2_with fail
          refine cW.out.mono ?_
          rintro e w3 ⟨⟨vv, rfl⟩, oh, hbx3, hwr, -⟩
          have HB3 : RowKit.Hid (Below w.heap.size w w3) := HB2.out.trans (hwr.below _ HB2.out.size (Nat.le_refl _) HGr.out)
          have HX3 := Lib.hid hbx3
          clear hbx3 hwr cW HX2 HB2
          go_wp2
          go_roundw
          case rel => exact ⟨k + 1, D ++ es, oh, by go_num, by omega, hlen, HS2, HX3, HB3⟩
          case measure => simp [intOf]; omega
        · have hL : (s, er) = (([] : List UInt8), ee) := by
            rw [← HR.out, HD.out, HStep.out, if_pos h0]
            unfold catB
            simp [h0]
          obtain ⟨rfl, rfl⟩ := Prod.mk.inj hL
          have t0 : (er != 0) = true := by simpa using h0
          clear hL HStep HNe
          go_wp2
          (try refine bodyPost_ret (results_tmp2 rfl _ _ _) rfl ?_)
          exact HQ.out _ _ ⟨rfl, HB2.out⟩
      · obtain rfl : k = n := by omega
        have hC : catX L = (D, 0) := by
          rw [HD.out, List.drop_of_length_le (by rw [HN.out]; exact Nat.le_refl _)]
          simp [catX, catB]
        have hr2 := HR.out
        rw [hC] at hr2
        simp only at hr2
        rw [if_neg (fun h => h rfl)] at hr2
        have cL := Lib.hid (lenX w.heap.size w.heap.size og D wr HX.out)
        obtain ⟨dl, hdl⟩ : ∃ m, D.length = m := ⟨_, rfl⟩
        rw [hdl] at cL hDl hr2
        by_cases h6 : 65536 < dl
        · rw [if_pos h6] at hr2
          obtain ⟨rfl, rfl⟩ := Prod.mk.inj hr2
          have t6 : decide ((65536 : Int) < (dl : Int)) = true := decide_eq_true (by omega)
          clear hr2 hC HD HR hdl
          go_wp2_with fail
          refine cL.out.mono ?_
          rintro e w1 ⟨rfl, hw1⟩
          rw [hw1]
          clear hw1
          go_wp2
          (try refine bodyPost_ret (results_tmp2 rfl _ _ _) rfl ?_)
          exact HQ.out _ _ ⟨rfl, HB.out⟩
        · rw [if_neg h6] at hr2
          obtain ⟨rfl, rfl⟩ := Prod.mk.inj hr2
          have t6 : decide ((65536 : Int) < (dl : Int)) = false := decide_eq_false (by omega)
          have cO := Lib.hid (outX w.heap.size w.heap.size og D wr HX.out (by omega))
          have HGr := Lib.hid (fun g (h : og = some g) => (HX.out.row g h).1)
          clear hr2 hC HD HR hdl
          go_wp2_with fail
          refine cL.out.mono ?_
          rintro e w1 ⟨rfl, hw1⟩
          rw [hw1]
          clear hw1
          go_wp2_with fail
          refine cO.out.mono ?_
          rintro e w1 ⟨rfl, -, hwr, -⟩
          have HBf := Lib.hid (HB.out.trans (hwr.below _ HB.out.size (Nat.le_refl _) HGr.out))
          clear hwr
          go_wp2
          (try refine bodyPost_ret (results_tmp2 rfl _ _ _) rfl ?_)
          exact HQ.out _ _ ⟨rfl, HBf.out⟩
end

section
theorem catX_ok : ∀ (L : List Rec) (s : List UInt8), catX L = (s, 0) → (∀ r ∈ L, encX r = (formX r, 0)) ∧ s = L.flatMap formX
  | [], s, h => by
    obtain ⟨rfl, -⟩ := Prod.mk.inj (h : (([] : List UInt8), (0 : Int)) = (s, 0))
    exact ⟨fun r hr => (by cases hr), rfl⟩
  | r :: t, s, h => by
    unfold catX at h
    by_cases h0 : (encX r).2 ≠ 0
    · rw [if_pos h0] at h
      exact absurd (Prod.mk.inj h).2 h0
    rw [if_neg h0] at h
    by_cases h1 : (catX t).2 ≠ 0
    · rw [if_pos h1] at h
      exact absurd (Prod.mk.inj h).2 h1
    rw [if_neg h1] at h
    obtain ⟨hs, -⟩ := Prod.mk.inj h
    obtain ⟨x, e, hx⟩ : ∃ x e, encX r = (x, e) := ⟨_, _, rfl⟩
    obtain ⟨y, e2, hy⟩ : ∃ y e2, catX t = (y, e2) := ⟨_, _, rfl⟩
    have he0 : e = 0 := by rw [hx] at h0; exact Decidable.not_not.1 h0
    have he2 : e2 = 0 := by rw [hy] at h1; exact Decidable.not_not.1 h1
    subst he0 he2
    obtain ⟨hr1, hr2, hr3⟩ := enc_ok r x hx
    obtain ⟨ih1, ih2⟩ := catX_ok t y hy
    rw [hx, hy] at hs
    simp only at hs
    refine ⟨fun q hq => ?_, by rw [← hs, ih2, ← hr3]; rfl⟩
    rcases List.mem_cons.1 hq with rfl | hq
    · exact enc_of q hr1 hr2
    · exact ih1 q hq
theorem form_num (r : Rec) (h : encX r = (formX r, 0)) (t : List UInt8) : numF (formX r ++ t) 0 5 = ((formX r).length : Int) ∧ 26 ≤ (formX r).length := by
  obtain ⟨h1, h2, -⟩ := enc_ok r _ h
  have he := formX_eq r h1 h2
  have ht : 26 ≤ totX r.fields := by unfold totX baseX; omega
  refine ⟨?_, by omega⟩
  rw [he]
  refine numF_at _ 0 (totX r.fields) 4 ((formX r ++ t).drop 5) (by omega) ?_
  have hp := pad_len (totX r.fields) 4 (by omega)
  have hx : ∃ y, formX r = padI (totX r.fields) 5 ++ y := ⟨_, by unfold formX leadX; simp only [List.append_assoc]; rfl⟩
  obtain ⟨y, hy⟩ := hx
  rw [List.drop_zero, hy, List.append_assoc, List.drop_append_of_le_length (Nat.le_of_eq hp.symm), List.drop_of_length_le (Nat.le_of_eq hp), List.nil_append]
theorem split_form (r : Rec) (h : encX r = (formX r, 0)) (t : List UInt8) : splitF (formX r ++ t) = (splitF t).map (formX r :: ·) := by
  obtain ⟨h1, h2⟩ := form_num r h t
  have hne : formX r ++ t ≠ [] := by
    intro e
    have := congrArg List.length e
    rw [List.length_append] at this
    simp at this
    have h3 : (formX r).length = 0 := by rw [this.1]; rfl
    omega
  have hb : ¬ badF (formX r ++ t) := by
    unfold badF
    rw [h1, List.length_append]
    omega
  rw [splitF_go _ hne hb (formX r).length h1, List.drop_left, List.take_left]
theorem split_forms : ∀ (L : List Rec), (∀ r ∈ L, encX r = (formX r, 0)) → splitF (L.flatMap formX) = some (L.map formX)
  | [], _ => splitF_nil
  | r :: t, h => by
    rw [List.flatMap_cons, split_form r (h r (by simp)), split_forms t (fun q hq => h q (by simp [hq]))]
    rfl
theorem first_forms : ∀ (L : List Rec) (i : Nat), (∀ r ∈ L, encX r = (formX r, 0)) → firstD (L.map formX) i = (L, -1, 0)
  | [], _, _ => rfl
  | r :: t, i, h => by
    have hd : decE (formX r) = (r, 0) := (decE_iff _ _).2 (h r (by simp))
    rw [List.map_cons, firstD, hd, if_neg (fun h => h rfl), first_forms t (i + 1) (fun q hq => h q (by simp [hq]))]
    rfl
/-- What is exported is divided into the records' bytes, and imported as it was. -/
theorem exp_back (L : List Rec) (s : List UInt8) (h : expR L = (s, 0)) : (∀ r ∈ L, encX r = (formX r, 0)) ∧ splR s = (L.map formX, 0) ∧ impR s = (L, -1, 0) ∧ s.length ≤ 65536 ∧ L.length ≤ 64 := by
  unfold expR at h
  by_cases h64 : 64 < L.length
  · rw [if_pos h64] at h
    exact absurd (Prod.mk.inj h).2 (by decide)
  rw [if_neg h64] at h
  by_cases h0 : (catX L).2 ≠ 0
  · rw [if_pos h0] at h
    exact absurd (Prod.mk.inj h).2 h0
  rw [if_neg h0] at h
  by_cases h6 : 65536 < (catX L).1.length
  · rw [if_pos h6] at h
    exact absurd (Prod.mk.inj h).2 (by decide)
  rw [if_neg h6] at h
  obtain ⟨hs, -⟩ := Prod.mk.inj h
  obtain ⟨y, e2, hy⟩ : ∃ y e2, catX L = (y, e2) := ⟨_, _, rfl⟩
  have he2 : e2 = 0 := by rw [hy] at h0; exact Decidable.not_not.1 h0
  subst he2
  rw [hy] at hs h6
  simp only at hs h6
  subst hs
  obtain ⟨h1, h2⟩ := catX_ok L y hy
  have hsp := split_forms L h1
  rw [← h2] at hsp
  refine ⟨h1, by unfold splR; rw [hsp], ?_, by omega, by omega⟩
  unfold impR
  rw [hsp]
  simp only
  rw [List.length_map, if_neg h64, first_forms L 0 h1]
end

end Go.Proofs.YtiledacfdaenbaaDoor
