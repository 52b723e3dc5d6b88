/- Merged: PL10, PM10, RegEnd. -/
import Derived.Test.YtiledacfdaenbaaGreatDoorQ24
import Derived.Test.YtiledacfdaenbaaGreatDoorQ19
namespace Go.Proofs.YtiledacfdaenbaaGreatDoor

section
open Go.RowKit Go.PlainAid
/-! The records of a file. -/
def catD (D : List Rec) (x : List Rec × Int × Int) : List Rec × Int × Int := if x.2.2 ≠ 0 then ([], x.2) else (D ++ x.1, x.2)
theorem firstD_no : ∀ (P : List (List UInt8)) (i : Nat), (firstD P i).2.2 ≠ 0 → (firstD P i).1 = []
  | [], _, h => absurd rfl h
  | p :: t, i, h => by
    unfold firstD at h ⊢
    by_cases h0 : (decE p).2 ≠ 0
    · rw [if_pos h0]
    · rw [if_neg h0] at h ⊢
      revert h
      obtain ⟨L, k, e⟩ := firstD t (i + 1)
      intro h
      simp only at h ⊢
      by_cases h1 : e ≠ 0
      · rw [if_pos h1]
      · rw [if_neg h1] at h
        exact absurd h h1
theorem catD_nil (P : List (List UInt8)) (i : Nat) : firstD P i = catD [] (firstD P i) := by
  unfold catD
  by_cases h : (firstD P i).2.2 ≠ 0
  · rw [if_pos h, ← firstD_no P i h]
  · rw [if_neg h, List.nil_append]
theorem catD_cat (D : List Rec) (r : Rec) (x : List Rec × Int × Int) : catD D (catD [r] x) = catD (D ++ [r]) x := by
  unfold catD
  by_cases h : x.2.2 ≠ 0
  · rw [if_pos h, if_pos h, if_pos h]
  · rw [if_neg h, if_neg h, if_neg h, List.append_assoc]
theorem firstD_step (P : List (List UInt8)) (k : Nat) (p : List UInt8) (h : P[k]? = some p) :
    firstD (P.drop k) k = if (decE p).2 ≠ 0 then ([], (k : Int), (decE p).2) else catD [(decE p).1] (firstD (P.drop (k + 1)) (k + 1)) := by
  have hk := (List.getElem?_eq_some_iff.1 h).1
  have e : P.drop k = p :: P.drop (k + 1) := by
    rw [List.drop_eq_getElem_cons hk, (List.getElem?_eq_some_iff.1 h).2]
  rw [e, firstD]
  by_cases h0 : (decE p).2 ≠ 0
  · rw [if_pos h0, if_pos h0]
  · rw [if_neg h0, if_neg h0]
    obtain ⟨L, k, e⟩ := firstD (P.drop (k + 1)) (k + 1)
    unfold catD
    simp only
    by_cases h1 : e ≠ 0
    · rw [if_pos h1, if_pos h1]
    · rw [if_neg h1, if_neg h1]
      rfl
theorem splitF_join : ∀ (n : Nat) (l : List UInt8) (P : List (List UInt8)), l.length ≤ n → splitF l = some P → P.flatten = l
  | n, l, P, hn, h => by
    by_cases h0 : l = []
    · subst h0
      rw [splitF_nil] at h
      obtain rfl := Option.some.inj h
      rfl
    · by_cases hb : badF l
      · rw [splitF_bad l h0 hb] at h
        cases h
      · have hnn : 26 ≤ numF l 0 5 ∧ numF l 0 5 ≤ l.length := by
          unfold badF at hb
          omega
        rw [splitF_go l h0 hb (numF l 0 5).toNat (by omega)] at h
        cases n with
        | zero => exact absurd (List.eq_nil_of_length_eq_zero (by omega)) h0
        | succ m =>
          cases e : splitF (l.drop (numF l 0 5).toNat) with
          | none => rw [e] at h; cases h
          | some P2 =>
            rw [e] at h
            obtain rfl := Option.some.inj h
            have := splitF_join m _ P2 (by rw [List.length_drop]; omega) e
            rw [List.flatten_cons, this, List.take_append_drop]
theorem splitF_le (l : List UInt8) (P : List (List UInt8)) (h : splitF l = some P) (p : List UInt8) (hp : p ∈ P) : p.length ≤ l.length := by
  have h1 := splitF_join l.length l P (Nat.le_refl _) h
  rw [← h1]
  obtain ⟨s, t, rfl⟩ := List.append_of_mem hp
  simp
  omega

set_option maxHeartbeats 16000000 in
set_option maxRecDepth 100000 in
theorem pImport_any (l : List UInt8) (hz : l.length ≤ 100000) (L : List Rec) (k0 er : Int) (hr : impR l = (L, k0, er)) (w : World) (hE : Env w) :
    Calls Tryz.prog 8 #[.string (S l)] w fun e w' => ∃ v, e = .returned (.tuple #[v, .int .i64 k0, .int .i64 er]) ∧ New w.heap.size (RL v L) w' ∧ Below w.heap.size w w' := by
  obtain ⟨Q, hQ⟩ : ∃ Q, (fun (e : Ending) (w' : World) => ∃ v, e = .returned (.tuple #[v, .int .i64 k0, .int .i64 er]) ∧ New w.heap.size (RL v L) w' ∧ Below w.heap.size w w') = Q := ⟨_, rfl⟩
  rw [hQ]
  have HQ : RowKit.Hid (∀ e w', (∃ v, e = .returned (.tuple #[v, .int .i64 k0, .int .i64 er]) ∧ New w.heap.size (RL v L) w' ∧ Below w.heap.size w w') → Q e w') := by rw [← hQ]; exact fun _ _ h => h
  clear hQ
  have HNil : RowKit.Hid (∀ W : World, New w.heap.size (RL (.slice none 0 0) []) W) := fun W w' _ _ => RL.nil w'
  obtain ⟨i0, hi0, hz0, hz1, hz2⟩ := info_rec
  have HI := Lib.hid hi0
  have HZ0 := Lib.hid hz0
  have HZ1 := Lib.hid hz1
  have HZ2 := Lib.hid hz2
  clear hi0 hz0 hz1 hz2
  have HE := Lib.hid hE
  clear hE
  obtain ⟨P, se, hs⟩ : ∃ P se, splR l = (P, se) := ⟨_, _, rfl⟩
  have cS := Lib.hid (pSplit_any l (by omega) P se hs w)
  unfold impR at hr
  unfold splR at hs
  cases hsp : splitF l with
  | none =>
    rw [hsp] at hr hs
    obtain ⟨rfl, rfl⟩ := Prod.mk.inj hs
    obtain ⟨rfl, h2⟩ := Prod.mk.inj hr
    obtain ⟨rfl, rfl⟩ := Prod.mk.inj h2
    clear hr hs h2 hsp
    go_enter Tryz.func8, Tryz.ntmps8
    go_wp2_with fail
    refine cS.out.mono ?_
    rintro e w1 ⟨v, rfl, hnew, hb⟩
    obtain ⟨a, cap, rfl, -, -⟩ := hnew.here.length
    have HB := Lib.hid hb
    clear hnew hb cS
    go_wp2
    refine bodyPost_ret (results_tmp3 rfl _ _ _) rfl ?_
    exact HQ.out _ _ ⟨_, rfl, HNil.out _, HB.out⟩
  | some P2 =>
    rw [hsp] at hr hs
    obtain ⟨rfl, rfl⟩ := Prod.mk.inj hs
    have HPl := Lib.hid (splitF_le l P2 hsp)
    obtain ⟨n, hn⟩ : ∃ n, P2.length = n := ⟨_, rfl⟩
    have HN := Lib.hid hn
    simp only [hn] at hr
    clear hs hsp
    by_cases h64 : 64 < n
    · rw [if_pos h64] at hr
      obtain ⟨rfl, h2⟩ := Prod.mk.inj hr
      obtain ⟨rfl, rfl⟩ := Prod.mk.inj h2
      have t1 : decide ((64 : Int) < (n : Int)) = true := decide_eq_true (by omega)
      clear hr h2
      go_enter Tryz.func8, Tryz.ntmps8
      go_wp2_with fail
      refine cS.out.mono ?_
      rintro e w1 ⟨v, rfl, hnew, hb⟩
      obtain ⟨a, cap, rfl, -, -⟩ := hnew.here.length
      rw [hn]
      have HB := Lib.hid hb
      clear hnew hb cS hn h64
      go_wp2
      refine bodyPost_ret (results_tmp3 rfl _ _ _) rfl ?_
      exact HQ.out _ _ ⟨_, rfl, HNil.out _, HB.out⟩
    · rw [if_neg h64] at hr
      have t1 : decide ((64 : Int) < (n : Int)) = false := decide_eq_false (by omega)
      have hn64 : n ≤ 64 := by omega
      have HR := Lib.hid hr
      have HD0 : RowKit.Hid (firstD P2 0 = catD [] (firstD (P2.drop 0) 0)) := by
        unfold RowKit.Hid
        rw [List.drop_zero]
        exact catD_nil P2 0
      clear hr h64
      go_enter Tryz.func8, Tryz.ntmps8
      go_wp2_with fail
      refine cS.out.mono ?_
      rintro e w1 ⟨v, rfl, hnew, hb⟩
      have HBL := Lib.hid hnew.here
      obtain ⟨a, cap, rfl, -, -⟩ := hnew.here.length
      rw [hn] at HBL ⊢
      have HB := Lib.hid hb
      clear hnew hb cS hn
      go_wp2
      go_loopw [7, 27] (fun v i wr => ∃ (k : Nat) (D : List Rec) (ao : Option Addr) (cp : Nat), v = .slice ao k cp ∧ i = .int .i64 (k : Int) ∧ k ≤ n ∧ D.length = k ∧
        RowKit.Hid (firstD P2 0 = catD D (firstD (P2.drop k) k)) ∧ RowKit.Hid (RN w1.heap.size (.slice ao k cp) D wr) ∧ RowKit.Hid (Below w1.heap.size w1 wr)) (fun _ i _ => n - (intOf i).toNat)
      case atStart => exact ⟨0, [], none, 0, rfl, rfl, Nat.zero_le _, rfl, HD0, RN.nil _ _, Below.refl _ _⟩
      case round =>
        obtain ⟨k, D, ao, cp, rfl, rfl, hk, hDk, HD, HRow, HBw⟩ := hrel
        clear HD0
        by_cases hkn : k < n
        · have i1 : (0 : Int) ≤ (k : Int) := by omega
          have i2 : (k : Int) < (n : Int) := by omega
          have hbl := HBL.out.after HBw.out
          obtain ⟨p, hp⟩ : ∃ p, P2.getD k [] = p := ⟨_, rfl⟩
          have hPk : P2[k]? = some p := by
            rw [← hp, List.getD_eq_getElem?_getD, List.getElem?_eq_getElem (by rw [HN.out]; exact hkn)]
            rfl
          obtain ⟨g, o, hae, hg, hc⟩ : ∃ g o, a = some ⟨g, o, none⟩ ∧ g < wr.heap.size ∧ wr.cell? ⟨g, o + k, none⟩ = some (.string (S p)) := by
            obtain ⟨a', cap', he, _, _, _, hx⟩ := hbl
            obtain ⟨g, o, h1, h2, h3⟩ := hx k (by rw [HN.out]; exact hkn)
            obtain ⟨rfl, -, -⟩ := Value.slice.inj he
            rw [hp] at h3
            exact ⟨g, o, h1, h2, h3⟩
          subst hae
          have hpl := HPl.out p (List.mem_of_getElem? hPk)
          have hEr := HE.out.after (HB.out.trans (HBw.out.mono HB.out.size))
          have HStep := Lib.hid (firstD_step P2 k p hPk)
          have cD := Lib.hid (pDecode_any p wr hEr (by omega))
          clear hbl hp hPk hEr
          go_wp2_with fail
          refine cD.out.mono ?_
          rintro e w2 ⟨u, rfl, hnu, hb2⟩
          obtain ⟨r, e2, hre⟩ : ∃ r e2, decE p = (r, e2) := ⟨_, _, rfl⟩
          rw [hre] at hnu HStep ⊢
          simp only at hnu HStep ⊢
          obtain ⟨ua, uc, hue, -, -⟩ := hnu.here.length
          obtain ⟨ul, hul⟩ : ∃ m, r.fields.length = m := ⟨_, rfl⟩
          rw [hul] at hue
          subst hue
          have HNu := Lib.hid hnu
          have HB2 := Lib.hid hb2
          clear hnu hb2 hul cD hre
          unfold RV
          by_cases h0 : e2 = 0
          · subst h0
            have HS2 : RowKit.Hid (firstD (P2.drop k) k = catD [r] (firstD (P2.drop (k + 1)) (k + 1))) := by
              have := HStep.out
              rw [if_neg (fun h => h rfl)] at this
              exact this
            have HD2 : RowKit.Hid (firstD P2 0 = catD (D ++ [r]) (firstD (P2.drop (k + 1)) (k + 1))) := by
              unfold RowKit.Hid
              rw [HD.out, HS2.out, catD_cat]
            have hrow2 := HRow.out.after HB2.out
            have hsz : w1.heap.size ≤ wr.heap.size := HBw.out.size
            obtain ⟨us0, _, hown0, _⟩ := HRow.out
            have hnx : NewX w1.heap.size (Value.slice ao k cp).ownBlock (FL (.slice ua ul uc) r.fields) w2 := NewX.of HNu.out hsz (fun j hj => (hown0.lt j hj).2)
            obtain ⟨z, hz⟩ : ∃ z, (w2.alloc (.cells #[.int .i64 r.id, .int .i64 r.ver, .int .i64 r.kind, .string (S r.lang), .slice ua ul uc] 40)).alloc (.cells #[.int .i64 r.id, .int .i64 r.ver, .int .i64 r.kind, .string (S r.lang), .slice ua ul uc] 40) = z := ⟨_, rfl⟩
            have hbz : Below w2.heap.size w2 z := by
              rw [← hz]
              exact ((Below.refl _ _).alloc (Nat.le_refl _) _).alloc (by simp) _
            have hbx1 := heap_alloc_new w2 (.cells #[.int .i64 r.id, .int .i64 r.ver, .int .i64 r.kind, .string (S r.lang), .slice ua ul uc] 40)
            obtain ⟨⟨x0, x1, x2, x3, x4⟩, -⟩ := rcells hbx1
            have hrow3 := hrow2.after hbz
            have hnx3 := hnx.on (w' := z) hbz.size (fun i _ hi _ => hbz.block i hi)
            obtain ⟨xs, hxs, hpush⟩ := hrow3.open
            have HPush := Lib.hid (fun v' w' => hpush r (.slice ua ul uc) v' w' hnx3)
            rw [hDk] at hxs
            have HXs := Lib.hid hxs
            have HBz : RowKit.Hid (Below w1.heap.size w1 z) := HBw.out.trans ((HB2.out.mono hsz).trans (hbz.mono (Nat.le_trans hsz HB2.out.size)))
            have hone := encR_one r (.slice ua ul uc) rfl
            have HOne := Lib.hid hone
            have hzs : w2.heap.size + 1 + 1 = z.heap.size := by rw [← hz]; simp
            have hcz := cells_five (w2.alloc (.cells #[.int .i64 r.id, .int .i64 r.ver, .int .i64 r.kind, .string (S r.lang), .slice ua ul uc] 40)) (.int .i64 r.id) (.int .i64 r.ver) (.int .i64 r.kind) (.string (S r.lang)) (.slice ua ul uc) 40
            rw [hz, show (w2.alloc (.cells #[.int .i64 r.id, .int .i64 r.ver, .int .i64 r.kind, .string (S r.lang), .slice ua ul uc] 40)).heap.size = w2.heap.size + 1 by simp] at hcz
            have HCz := Lib.hid hcz
            have HZ := Lib.hid hz
            have hsz1 : w1.heap.size ≤ z.heap.size := HBz.out.size
            clear hrow2 hown0 hnx hbz hbx1 hrow3 hnx3 hxs hpush hone hcz hz HStep HS2
            go_wp2_with (at_builtin; go_loud (rw [HZ.out]; refine wpList_append_two _ rfl _ _ 28 rfl w1.heap.size 40 i0 (.agg #[.int .i64 0, .int .i64 0, .int .i64 0, .string ⟨#[]⟩, .slice none 0 0]) 5 64 Tryz.underlying28 HI.out HZ0.out HZ1.out HZ2.out rfl (by decide) _ _ _ rfl HXs.out ⟨w2.heap.size + 1, 0, none⟩ 1 1 (encR r (.slice ua ul uc)) (by first | rfl | simp) rfl HCz.out HOne.out (by decide) (by unfold maxLen; omega) (by omega) hsz1 ?_))
            intro fv2 w3 hown3 hg3 hnn3 hob3
            have hFN := HPush.out fv2 w3 hg3 hob3 (by rw [hDk]; exact hown3)
            have HB3 : RowKit.Hid (Below w1.heap.size w1 w3) := HBz.out.grown hg3 hsz1 (fun j hj => (HXs.out.lt j hj).1)
            obtain ⟨ao2, cp2, rfl⟩ := own_form hown3
            have HFN := Lib.hid hFN
            clear hFN hown3 hg3 hnn3 hob3 HPush HXs HOne HCz HZ x0 x1 x2 x3 x4
            go_wp2
            go_roundw
            case rel => exact ⟨k + 1, D ++ [r], _, _, by first | rfl | trivial, by go_num, by omega, by rw [List.length_append, hDk]; rfl, HD2, HFN, HB3⟩
            case measure => simp [intOf]; omega
          · have hL : (L, k0, er) = ([], (k : Int), e2) := by
              rw [← HR.out, HD.out, HStep.out, if_pos h0]
              unfold catD
              rw [if_pos h0]
            obtain ⟨rfl, h2⟩ := Prod.mk.inj hL
            obtain ⟨rfl, rfl⟩ := Prod.mk.inj h2
            have t0 : (er != 0) = true := by simpa using h0
            have HBf : RowKit.Hid (∀ x, Below w.heap.size w (w2.alloc x)) := fun x => HB.out.trans ((HBw.out.trans (HB2.out.mono HBw.out.size)).alloc (Nat.le_trans HBw.out.size HB2.out.size) x |>.mono HB.out.size)
            clear hL h2 HStep
            go_wp2
            refine bodyPost_ret (results_tmp3 rfl _ _ _) rfl ?_
            exact HQ.out _ _ ⟨_, rfl, HNil.out _, HBf.out _⟩
        · obtain rfl : k = n := by omega
          have hL : (L, k0, er) = (D, (-1 : Int), (0 : Int)) := by
            rw [← HR.out, HD.out, List.drop_of_length_le (by rw [HN.out]; exact Nat.le_refl _)]
            simp [firstD, catD]
          obtain ⟨rfl, h2⟩ := Prod.mk.inj hL
          obtain ⟨rfl, rfl⟩ := Prod.mk.inj h2
          have HNew := Lib.hid (HRow.out.new.mono HB.out.size)
          have HBf := Lib.hid (HB.out.trans (HBw.out.mono HB.out.size))
          clear hL h2
          go_wp2
          refine bodyPost_ret (results_tmp3 rfl _ _ _) rfl ?_
          exact HQ.out _ _ ⟨_, rfl, HNew.out, HBf.out⟩
end

section
open Go.RowKit Go.PlainAid
/-! Records one after the other. -/
def catB (D : List UInt8) (x : List UInt8 × Int) : List UInt8 × Int := if x.2 ≠ 0 then ([], x.2) else (D ++ x.1, x.2)
theorem catX_no : ∀ (L : List Rec), (catX L).2 ≠ 0 → (catX L).1 = []
  | [], h => absurd rfl h
  | r :: t, h => by
    unfold catX at h ⊢
    by_cases h0 : (encX r).2 ≠ 0
    · rw [if_pos h0]
    · rw [if_neg h0] at h ⊢
      by_cases h1 : (catX t).2 ≠ 0
      · rw [if_pos h1]
      · rw [if_neg h1] at h
        exact absurd rfl h
theorem catX_nil (L : List Rec) : catX L = catB [] (catX L) := by
  unfold catB
  by_cases h : (catX L).2 ≠ 0
  · rw [if_pos h, ← catX_no L h]
  · rw [if_neg h, List.nil_append]
theorem catB_cat (D s : List UInt8) (x : List UInt8 × Int) : catB D (catB s x) = catB (D ++ s) x := by
  unfold catB
  by_cases h : x.2 ≠ 0
  · rw [if_pos h, if_pos h, if_pos h]
  · rw [if_neg h, if_neg h, if_neg h, List.append_assoc]
theorem catX_step (L : List Rec) (k : Nat) (r : Rec) (h : L[k]? = some r) :
    catX (L.drop k) = if (encX r).2 ≠ 0 then ([], (encX r).2) else catB (encX r).1 (catX (L.drop (k + 1))) := by
  have hk := (List.getElem?_eq_some_iff.1 h).1
  have e : L.drop k = r :: L.drop (k + 1) := by
    rw [List.drop_eq_getElem_cons hk, (List.getElem?_eq_some_iff.1 h).2]
  rw [e, catX]
  by_cases h0 : (encX r).2 ≠ 0
  · rw [if_pos h0, if_pos h0]
  · rw [if_neg h0, if_neg h0]
    unfold catB
    by_cases h1 : (catX (L.drop (k + 1))).2 ≠ 0
    · rw [if_pos h1, if_pos h1]
    · rw [if_neg h1, if_neg h1]
      rw [Decidable.not_not.1 h1]
theorem enc_ne (r : Rec) (h : (encX r).2 = 0) : (encX r).1 ≠ [] := by
  obtain ⟨s, e, he⟩ : ∃ s e, encX r = (s, e) := ⟨_, _, rfl⟩
  rw [he] at h ⊢
  simp only at h ⊢
  subst h
  obtain ⟨_, _, rfl⟩ := enc_ok r s he
  unfold formX
  simp
def okR (r : Rec) : Prop := r.lang.length ≤ maxLen ∧ ∀ i, i < r.fields.length → ∀ j, j < (r.fields.getD i fd0).subs.length → ((r.fields.getD i fd0).subs.getD j sub0).2.length ≤ 1000000
theorem expR_eq (L : List Rec) (h : ¬ 64 < L.length) : expR L = if (catX L).2 ≠ 0 then ([], (catX L).2) else if 65536 < (catX L).1.length then ([], 4) else ((catX L).1, 0) := by
  unfold expR
  rw [if_neg h]
end

section
open Go.RowKit
theorem wp_region_end {P : Program} {id : Nat} {ops : Array Oper} {Q : Exit → Act → World → Prop} {a0 : Act} {w0 : World} (R : World → World → Prop) (htrans : ∀ u v w, R u v → R v w → R u w) (hdrew : R w0 w0.drew)
    (V : List (SPR R)) (A : (Nat → Value) → Act) (n f : Nat) (ol : Oper)
    (hm : P.follows .mixedOrders = true) (hd : distinctB (ops.toList.take n) = true) (hb : backB ops.toList 0 = true) (hA : ∀ vs, puts (ops.toList.take n) vs 0 a0 = A vs)
    (hlast : lastB ops f n = true) (hol : ops[n]? = some ol)
    (hob : ObsR R P Q ops A w0 V (ops.toList.take n) 0)
    (hfin : ∀ vs w, R w0 w → (∀ k, k < n → (V.getD k (SPR.any R)).p (vs k) w) →
      if Region.wanted ol (yielded ops (A vs).tmps) = true then Oper.wp P ol (A vs) w (fun a w' => Q .normal a w') Q else Q .normal ((A vs).put ol.dst undef) w) :
    (Code.region id ops true).wp P Q a0 w0 := by
  unfold lastB at hlast
  rw [Bool.and_eq_true, decide_eq_true_eq] at hlast
  obtain ⟨hn, hreach⟩ := hlast
  refine wp_region_any hm ?_
  refine wpAny_inv (I := fun l a w => l.size = ops.size ∧ ((l.getD n false = true ∧ (∀ k, k < ops.size → l.getD k false = true) ∧ Q .normal a w) ∨ (l.getD n false = false ∧ (∀ k o, ops[k]? = some o → l.getD k false = true → ∀ e, e ∈ o.after → Region.binds .any e = true → l.getD e.on false = true) ∧
    ∃ vs, a = A vs ∧ R w0 w ∧ ∀ k, l.getD k false = true → (V.getD k (SPR.any R)).p (vs k) w))) (fun l a w h => h.1) ?_ ?_ _ _ _ _ ?_ ?_
  · rintro l a w i ⟨hl, hI⟩ hi
    obtain ⟨h0, o, ho, hall⟩ := mem_ready.1 hi
    have hlt : i < ops.size := (Array.getElem?_eq_some_iff.1 ho).1
    have hif : l.getD i false = false := by
      have : i < l.size := by omega
      simpa [this] using h0
    rcases hI with ⟨_, hall2, _⟩ | ⟨hnf, hc, vs, rfl, hw, hk⟩
    · rw [hall2 i hlt] at hif
      cases hif
    by_cases hin : i = n
    · subst hin
      obtain rfl : o = ol := by rw [hol] at ho; exact (Option.some.inj ho).symm
      have hdone : ∀ j, j < i → l.getD j false = true := fun j hj => by
        have hr := List.all_eq_true.1 hreach j (List.mem_range.2 hj)
        exact reach_done hc f i j o ho (fun e he hx => hall e he hx) hr
      have hst := hfin vs w hw (fun k hk' => hk k (hdone k hk'))
      have hfin2 : ∀ a' w', Q .normal a' w' → (l.setIfInBounds i true).size = ops.size ∧ (((l.setIfInBounds i true).getD i false = true ∧ (∀ k, k < ops.size → (l.setIfInBounds i true).getD k false = true) ∧ Q .normal a' w') ∨ ((l.setIfInBounds i true).getD i false = false ∧ (∀ k o, ops[k]? = some o → (l.setIfInBounds i true).getD k false = true → ∀ e, e ∈ o.after → Region.binds .any e = true → (l.setIfInBounds i true).getD e.on false = true) ∧
          ∃ vs, a' = A vs ∧ R w0 w' ∧ ∀ k, (l.setIfInBounds i true).getD k false = true → (V.getD k (SPR.any R)).p (vs k) w')) := by
        intro a' w' hq
        have hself : (l.setIfInBounds i true).getD i false = true := by
          have : i < l.size := by omega
          simp [this]
        refine ⟨by simpa using hl, .inl ⟨hself, fun k hk' => ?_, hq⟩⟩
        by_cases hki : k = i
        · subst hki; exact hself
        · rw [getD_set_ne false (Ne.symm hki)]
          exact hdone k (by omega)
      unfold wpOp
      simp only [ho]
      split
      · rename_i hw'
        rw [if_pos hw'] at hst
        exact .inl (Oper.wp_mono (fun a' w' h => hfin2 a' w' h) hst)
      · rename_i hw'
        rw [if_neg hw'] at hst
        exact hfin2 _ _ hst
    · have hi2 : i < n := by omega
      have hO := ObsR.at R P Q ops A w0 V (ops.toList.take n) 0 i o hob (by rw [List.getElem?_take_of_lt hi2]; simpa using ho)
      rw [Nat.zero_add] at hO
      have hput : ∀ v, (A vs).put o.dst v = A (upd vs i v) := fun v => by
        rw [← hA, ← hA, puts_upd (ops.toList.take n) vs 0 i a0 o v hd (by rw [List.getElem?_take_of_lt hi2]; simpa using ho), Nat.zero_add]
      have hst := hO vs w hw (fun j hj => hk _ (dep_done (fun e he hx => hall e he hx) hj)) (fun a' w' => (l.setIfInBounds i true).size = ops.size ∧ (((l.setIfInBounds i true).getD n false = true ∧ (∀ k, k < ops.size → (l.setIfInBounds i true).getD k false = true) ∧ Q .normal a' w') ∨ ((l.setIfInBounds i true).getD n false = false ∧ (∀ k o, ops[k]? = some o → (l.setIfInBounds i true).getD k false = true → ∀ e, e ∈ o.after → Region.binds .any e = true → (l.setIfInBounds i true).getD e.on false = true) ∧
          ∃ vs, a' = A vs ∧ R w0 w' ∧ ∀ k, (l.setIfInBounds i true).getD k false = true → (V.getD k (SPR.any R)).p (vs k) w')))
        (by
          intro v w' hv hbw
          have hmono : ∀ j, l.getD j false = true → (l.setIfInBounds i true).getD j false = true := fun j hj => by
            by_cases hji : j = i
            · subst hji; rw [hj] at hif; cases hif
            · rw [getD_set_ne false (Ne.symm hji)]; exact hj
          refine ⟨by simpa using hl, .inr ⟨by rw [getD_set_ne false hin]; exact hnf, fun k o' ho' hk' e he hx => ?_, upd vs i v, hput v, htrans _ _ _ hw hbw, fun k hk' => ?_⟩⟩
          · by_cases hki : k = i
            · subst hki
              obtain rfl : o = o' := Option.some.inj (ho.symm.trans ho')
              exact hmono _ (hall e he hx)
            · rw [getD_set_ne false (Ne.symm hki)] at hk'
              exact hmono _ (hc k o' ho' hk' e he hx)
          · by_cases hki : k = i
            · subst hki
              have e : upd vs k v k = v := by simp [upd]
              rw [e]
              exact hv
            · have e : upd vs i v k = vs k := by unfold upd; rw [if_neg hki]
              rw [e]
              refine (V.getD k (SPR.any R)).st _ _ _ (hk k ?_) hbw
              rwa [getD_set_ne false (Ne.symm hki)] at hk')
      unfold wpOp
      simp only [ho]
      split
      · rename_i hw'
        rw [if_pos hw'] at hst
        exact .inl hst
      · rename_i hw'
        rw [if_neg hw'] at hst
        exact hst
  · rintro l a w ⟨hl, hI⟩ hr
    rcases hI with ⟨_, _, hq⟩ | ⟨hnf, _⟩
    · exact hq
    · rw [ready_all hb hl hr n (by omega)] at hnf
      cases hnf
  · simp
  · obtain ⟨vs, hvs⟩ := puts_self (ops.toList.take n) 0 a0
    have hf : ∀ k, (Array.replicate ops.size false).getD k false = false := fun k => by
      by_cases h : k < ops.size
      · simp [h]
      · simp [h]
    refine ⟨by simp, .inr ⟨hf n, fun k _ _ hk => ?_, vs, by rw [← hA, hvs], hdrew, fun k hk => ?_⟩⟩
    · rw [hf k] at hk; cases hk
    · rw [hf k] at hk; cases hk
end

end Go.Proofs.YtiledacfdaenbaaGreatDoor
