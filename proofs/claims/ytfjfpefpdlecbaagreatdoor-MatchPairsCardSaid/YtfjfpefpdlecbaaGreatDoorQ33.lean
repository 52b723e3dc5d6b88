/- Merged: KD15, KF15, KG15, KH15. -/
import Derived.Test.YtfjfpefpdlecbaaGreatDoorQ28
import Derived.Test.YtfjfpefpdlecbaaGreatDoorQ14
import Derived.BigQuiet
import Derived.WalkLawsBesides
import Derived.Test.YtfjfpefpdlecbaaGreatDoorQ29
namespace Go.Proofs.YtfjfpefpdlecbaaGreatDoor

section
open Go.RowKit Go.PlainAid
/-- A slice of texts, in every later world. -/
def BLw (w : World) (v : Value) (A : List (List UInt8)) : Prop :=
  ∃ a cap g o, v = .slice a A.length cap ∧ A.length ≤ cap ∧ cap ≤ maxLen ∧ (0 < A.length → a = some ⟨g, o, none⟩) ∧ ∀ W, Below w.heap.size w W → ∀ i, i < A.length → W.cell? ⟨g, o + i, none⟩ = some (strB (A.getD i []))
theorem blw_tail {w : World} {x : List UInt8} {A : List (List UInt8)} {g o cap n : Nat} {p : Option Addr} (hn : A.length = n) (h : ∀ W, Below w.heap.size w W → ∀ i, i < n + 1 → W.cell? ⟨g, o + i, none⟩ = some (strB ((x :: A).getD i []))) (hc : n + 1 ≤ cap) (hm : cap ≤ maxLen) (c : Nat) (he : c + 1 = cap) (hp : 0 < n → p = some ⟨g, o + 1, none⟩) : BLw w (.slice p n c) A := by
  refine ⟨p, c, g, o + 1, by rw [hn], by omega, by omega, fun h0 => hp (by omega), fun W hW i hi => ?_⟩
  have := h W hW (i + 1) (by omega)
  rw [List.getD_cons_succ] at this
  rw [show o + 1 + i = o + (i + 1) by omega]
  exact this
def lenOf15 : Value → Nat
  | .slice _ n _ => n
  | _ => 0

set_option maxHeartbeats 32000000 in
set_option maxRecDepth 100000 in
theorem pmeet_any (va vb : Value) (A B : List (List UInt8)) (w : World) (hA : BL va A w) (hB : BL vb B w) (hsA : AscO ltT A) (hsB : AscO ltT B) (r : Bool) (hr : meetL A B = r) :
    Calls Tryz.prog 70 #[va, vb] w fun e w' => e = .returned (.bool r) ∧ Below w.heap.size w w' := by
  have HA := Lib.hid (show BLw w va A from hA.opened)
  have HB := Lib.hid (show BLw w vb B from hB.opened)
  have HSA := Lib.hid hsA
  have HSB := Lib.hid hsB
  have HR := Lib.hid hr
  have HW := Lib.hid (Below.refl w.heap.size w)
  clear hA hB hsA hsB hr
  go_enter Tryz.func70, Tryz.ntmps70
  go_wp2
  go_loopw [0, 1] (fun s0 s1 wr => ∃ A' B' : List (List UInt8), RowKit.Hid (BLw w s0 A') ∧ RowKit.Hid (BLw w s1 B') ∧ RowKit.Hid (AscO ltT A') ∧ RowKit.Hid (AscO ltT B') ∧ RowKit.Hid (meetL A' B' = r) ∧ RowKit.Hid (Below w.heap.size w wr)) (fun s0 s1 _ => lenOf15 s0 + lenOf15 s1)
  case atStart => exact ⟨A, B, HA.out, HB.out, HSA.out, HSB.out, HR.out, HW.out⟩
  case round =>
    obtain ⟨A', B', HA', HB', HSA', HSB', HR', HWr⟩ := hrel
    clear HA HB HSA HSB HR HW
    obtain ⟨a, ca, g, o, rfl, hca, hma, hga, hxa⟩ := HA'.out
    obtain ⟨b, cb, g2, o2, rfl, hcb, hmb, hgb, hxb⟩ := HB'.out
    unfold maxLen at hma hmb
    obtain ⟨wq, hwq⟩ : ∃ wq, wr = wq := ⟨_, rfl⟩
    rw [hwq] at HWr ⊢
    clear hwq
    cases A' with
    | nil =>
      have hr := HR'.out
      rw [meetL_comm, meet_nil] at hr
      subst hr
      clear hxa hxb hga hgb HSA' HSB' HR'
      simp only [List.length_nil] at *
      go_wp2_with fail
      first | exact ⟨rfl, HWr.out⟩ | (go_ret; exact ⟨rfl, HWr.out⟩)
    | cons x At =>
      cases B' with
      | nil =>
        have hr := HR'.out
        rw [meet_nil] at hr
        subst hr
        clear hxa hxb hga hgb HSA' HSB' HR'
        simp only [List.length_nil, List.length_cons] at *
        generalize At.length = n at *
        go_wp2_with fail
        first | exact ⟨rfl, HWr.out⟩ | (go_ret; exact ⟨rfl, HWr.out⟩)
      | cons y Bt =>
        simp only [List.length_cons] at *
        obtain ⟨n, hn⟩ : ∃ n, At.length = n := ⟨_, rfl⟩
        obtain ⟨m, hm⟩ : ∃ m, Bt.length = m := ⟨_, rfl⟩
        rw [hn] at hca hga hxa ⊢
        rw [hm] at hcb hgb hxb ⊢
        obtain rfl := hga (by omega)
        obtain rfl := hgb (by omega)
        have c0 := hxa wq HWr.out 0 (by omega)
        have d0 := hxb wq HWr.out 0 (by omega)
        rw [List.getD_cons_zero, Nat.add_zero] at c0 d0
        have l1 := less_S x y
        have l2 := less_S y x
        have q1 := eq_S15 x y
        have HTa := Lib.hid (fun p c he hp => blw_tail (p := p) hn hxa hca (by unfold maxLen; exact hma) c he hp)
        have HTb := Lib.hid (fun p c he hp => blw_tail (p := p) hm hxb hcb (by unfold maxLen; exact hmb) c he hp)
        have HBd := Lib.hid (fun d => below_drewN15 HWr.out d)
        have HLs := Lib.hid (meet_less x y At Bt HSB'.out)
        have HMs := Lib.hid (meet_more x y At Bt HSA'.out)
        have HTA := Lib.hid (asc_head HSA'.out).2
        have HTB := Lib.hid (asc_head HSB'.out).2
        unfold strB at c0 d0
        rw [hn] at HA'
        rw [hm] at HB'
        clear hxa hxb hga hgb hn hm
        by_cases hlt : ltT x y = true
        · have hr := HR'.out
          rw [HLs.out hlt] at hr
          have HR2 := Lib.hid hr
          rw [hlt] at l1
          clear hr HR' HLs HMs hlt l2 q1 HTb
          generalize S x = sx at *
          generalize S y = sy at *
          go_upto_region 3 with fail
          go_quiet (fail)
          by_cases hc1 : ca = 1
          all_goals
            go_wp2_with fail
            go_roundw
            case rel => exact ⟨At, y :: Bt, HTa.out _ _ (by omega) (by first | (intro h0; rfl) | (intro h0; omega) | (intro h0; split <;> first | rfl | omega)), HB'.out, HTA.out, HSB'.out, HR2.out, HBd.out _⟩
            case measure => simp [lenOf15]
        · have hlf : ltT x y = false := by simpa using hlt
          rw [hlf] at l1
          by_cases hgt : ltT y x = true
          · have hr := HR'.out
            rw [HMs.out hgt] at hr
            have HR2 := Lib.hid hr
            have hne : ¬ x = y := by
              intro e
              rw [e, ltT_irr] at hgt
              cases hgt
            rw [hgt] at l2
            rw [decide_eq_false hne] at q1
            clear hr HR' HLs HMs hlt hlf hgt hne HTa
            generalize S x = sx at *
            generalize S y = sy at *
            go_upto_region 3 with fail
            go_quiet (fail)
            go_upto_region 5 with fail
            go_quiet (fail)
            by_cases hc1 : cb = 1
            all_goals
              go_wp2_with fail
              go_roundw
              case rel => exact ⟨x :: At, Bt, HA'.out, HTb.out _ _ (by omega) (by first | (intro h0; rfl) | (intro h0; omega) | (intro h0; split <;> first | rfl | omega)), HSA'.out, HTB.out, HR2.out, HBd.out _⟩
              case measure => simp [lenOf15]
          · have he : x = y := ltT_tot x y hlf (by simpa using hgt)
            subst he
            have hr := HR'.out
            rw [meet_same] at hr
            subst hr
            rw [ltT_irr] at l2
            have q1' : ((S x).toList == (S x).toList) = true := by rw [q1]; simp
            clear HR' HLs HMs hlt hlf hgt HTa HTb q1
            generalize S x = sx at *
            go_upto_region 3 with fail
            go_quiet (fail)
            go_upto_region 5 with fail
            go_quiet (fail)
            go_wp2_with fail
            first | exact ⟨rfl, below_drewN15 (HBd.out _) _⟩ | (go_ret; exact ⟨rfl, below_drewN15 (HBd.out _) _⟩)
end

section
open Go.RowKit Go.PlainAid
theorem stepT_below {og : Option Nat} (k : Nat) (hk : k ≠ 6) {u v : World} (h : Below u.heap.size u v) : stepT og k u v := by
  unfold stepT
  rw [if_neg hk]
  exact h
theorem setP15 {w : World} {b : Nat} {t : TypeId} {c0 c1 : Value} (h : w.heap[b]? = some (.cells #[c0, c1] t (0, 0))) (x : Value) : (w.setCell ⟨b, 1, none⟩ x).heap[b]? = some (.cells #[c0, x] t (0, 0)) := by
  simp [World.setCell, Array.getElem?_modify, h]
theorem setX15 {w : World} {b : Nat} {t : TypeId} {c0 c1 : Value} (h : w.heap[b]? = some (.cells #[c0, c1] t (0, 0))) (x y : Value) : ((w.setCell ⟨b, 0, none⟩ x).setCell ⟨b, 1, none⟩ y).heap[b]? = some (.cells #[x, y] t (0, 0)) := by
  simp [World.setCell, Array.getElem?_modify, h]
theorem keyM_take0 (m : MRule) (r : Rec) : (profK m r).take 0 = [] := rfl

set_option maxHeartbeats 32000000 in
set_option maxRecDepth 100000 in
theorem profileOf_any (m : MRule) (mv : Value) (r : Rec) (u : Value) (w : World) (hE : Env w) (hm : KL mv m.keys w) (hk8 : m.keys.length ≤ 8) (hN : okN m) (hu : FL u r.fields w) (ho : okR r) :
    Calls Tryz.prog 43 #[MV m mv, RV r u] w fun e w' => ∃ kv, e = .returned (PV r.id kv) ∧ New w.heap.size (KK kv (profK m r)) w' ∧ Below w.heap.size w w' := by
  obtain ⟨Q, hQ⟩ : ∃ Q, (fun (e : Ending) (w' : World) => ∃ kv, e = .returned (PV r.id kv) ∧ New w.heap.size (KK kv (profK m r)) w' ∧ Below w.heap.size w w') = Q := ⟨_, rfl⟩
  rw [hQ]
  have HQ : RowKit.Hid (∀ kv W, New w.heap.size (KK kv (profK m r)) W → Below w.heap.size w W → Q (.returned (.agg #[.int .i64 r.id, kv])) W) := by
    rw [← hQ]
    exact fun kv W h1 h2 => ⟨kv, rfl, h1, h2⟩
  obtain ⟨x, cap, g, o, rfl, hc, hmx, hga, hxa⟩ := hm.opened
  unfold maxLen at hmx
  obtain ⟨ra, rc, rfl, hrc, hrm⟩ := hu.length
  obtain ⟨W0, hW0⟩ : ∃ W0, ((w.alloc (.cells #[.slice x m.keys.length cap, .int .i64 m.need] 24)).alloc (.cells #[.int .i64 r.id, .int .i64 r.ver, .int .i64 r.kind, .string (S r.lang), .slice ra r.fields.length rc] 33)).alloc (.cells #[.int .i64 0, .slice none 0 0] 76) = W0 := ⟨_, rfl⟩
  have b0 : Below w.heap.size w W0 := by rw [← hW0]; exact (((Below.refl w.heap.size w).alloc (Nat.le_refl _) _).alloc (by simp) _).alloc (by simp; omega) _
  have hsz0 : W0.heap.size = w.heap.size + 3 := by rw [← hW0]; simp
  have hM0 : W0.heap[w.heap.size]? = some (.cells #[.slice x m.keys.length cap, .int .i64 m.need] 24 (0, 0)) := by
    rw [← hW0]
    exact ((Below.heap_alloc _ _ _ (by simp; omega)).trans (Below.heap_alloc _ _ _ (by simp))).trans (heap_alloc_new w _)
  have hR0 : W0.heap[w.heap.size + 1]? = some (.cells #[.int .i64 r.id, .int .i64 r.ver, .int .i64 r.kind, .string (S r.lang), .slice ra r.fields.length rc] 33 (0, 0)) := by
    rw [← hW0]
    refine (Below.heap_alloc _ _ _ (by simp)).trans ?_
    have := heap_alloc_new (w.alloc (.cells #[.slice x m.keys.length cap, .int .i64 m.need] 24)) (.cells #[.int .i64 r.id, .int .i64 r.ver, .int .i64 r.kind, .string (S r.lang), .slice ra r.fields.length rc] 33)
    simpa using this
  have hX0 : W0.heap[w.heap.size + 1 + 1]? = some (.cells #[.int .i64 0, .slice none 0 0] 76 (0, 0)) := by
    rw [← hW0]
    have := heap_alloc_new ((w.alloc (.cells #[.slice x m.keys.length cap, .int .i64 m.need] 24)).alloc (.cells #[.int .i64 r.id, .int .i64 r.ver, .int .i64 r.kind, .string (S r.lang), .slice ra r.fields.length rc] 33)) (.cells #[.int .i64 0, .slice none 0 0] 76)
    simpa using this
  obtain ⟨p, hp⟩ : ∃ p, W0.heap.size = p := ⟨_, rfl⟩
  obtain ⟨W1, hW1⟩ : ∃ W1, W0.alloc (.cells #[.int .i64 r.id, .slice none 0 0] 76) = W1 := ⟨_, rfl⟩
  have b1 : Below p W0 W1 := by rw [← hW1, ← hp]; exact (Below.refl _ _).alloc (Nat.le_refl _) _
  have hsz1 : W1.heap.size = p + 1 := by rw [← hW1]; simp [hp]
  have hP1 : W1.heap[p]? = some (.cells #[.int .i64 r.id, .slice none 0 0] 76 (0, 0)) := by rw [← hW1, ← hp]; exact heap_alloc_new W0 _
  have hpw : p = w.heap.size + 3 := by omega
  have HMx := Lib.hid (fun (W : World) (h : Below p W1 W) => (h.block w.heap.size (by omega)).trans ((b1.block w.heap.size (by omega)).trans hM0))
  have HRx := Lib.hid (fun (W : World) (h : Below p W1 W) => (h.block (w.heap.size + 1) (by omega)).trans ((b1.block (w.heap.size + 1) (by omega)).trans hR0))
  have HXx := Lib.hid (fun (W : World) (h : Below p W1 W) => (h.block (w.heap.size + 1 + 1) (by omega)).trans ((b1.block (w.heap.size + 1 + 1) (by omega)).trans hX0))
  have HBw := Lib.hid (fun (W : World) (h : Below p W1 W) => show Below w.heap.size w W from b0.trans ((b1.mono (by omega)).trans (h.mono (by omega))))
  have HX := Lib.hid hxa
  have HU := Lib.hid (fun (W : World) (h : Below w.heap.size w W) => hu.after h)
  have HE := Lib.hid (fun (W : World) (h : Below w.heap.size w W) => hE.after h)
  have HKy := Lib.hid (fun (k : MKey) (hk : k ∈ m.keys) (W : World) (h : Below w.heap.size w W) => pKeys_any k (hN k hk).1 (hN k hk).2 r _ W (hE.after h) (hu.after h) ho)
  have HMem := Lib.hid (fun i (h : i < m.keys.length) => getD_mem15 m.keys key0 i h)
  have HTk := Lib.hid (fun i (h : i < m.keys.length) => profK_take m r i h)
  have HT0 := Lib.hid (keyM_take0 m r)
  have HTe : RowKit.Hid ((profK m r).take m.keys.length = profK m r) := by unfold RowKit.Hid; rw [List.take_of_length_le]; unfold profK; rw [List.length_map]; exact Nat.le_refl _
  have HTl : RowKit.Hid (∀ i, ((profK m r).take i).length ≤ 1000) := fun i => by
    have h1 : (profK m r).length = m.keys.length := by unfold profK; rw [List.length_map]
    rw [List.length_take, h1]
    omega
  have HP1 := Lib.hid hP1
  have HR1 := Lib.hid (Below.refl p W1)
  have HS1 := Lib.hid hsz1
  have HPw := Lib.hid hpw
  have HW0 := Lib.hid hW0
  have HW1 := Lib.hid hW1
  have HPn := Lib.hid hp
  obtain ⟨q0, q1, q2, q3, q4⟩ := rcells5 hR0
  unfold MV RV KV at *
  clear hQ hm hu hE ho hW0 hW1 hM0 hR0 hX0 hP1 b0 b1 hsz0 hsz1 hpw hp hxa hN hrc hrm
  generalize hPK : profK m r = PK at *
  clear hPK
  generalize m.need = need at *
  generalize r.id = rid at *
  generalize r.ver = rver at *
  generalize r.kind = rkind at *
  generalize S r.lang = lg at *
  generalize r.fields.length = rn at *
  generalize hK : m.keys = MK at *
  clear hK
  generalize hn : MK.length = n at *
  clear hn
  go_enter Tryz.func43, Tryz.ntmps43
  go_upto_region 1 with fail
  rw [HW0.out]
  clear HW0
  go_upto_region 2 with fail
  rw [HW1.out, HPn.out]
  clear HW1 HPn q0 q1 q2 q3 q4
  obtain ⟨m0, m1⟩ := mcells2 (HMx.out W1 HR1.out)
  go_wp2
  clear m0 m1
  go_loopw [7, 14] (fun _ s14 wr => ∃ i v, s14 = .int .i64 ((i : Nat) : Int) ∧ i ≤ n ∧ RowKit.Hid (KN (p + 1) v (PK.take i) wr) ∧ RowKit.Hid (wr.heap[p]? = some (.cells #[.int .i64 rid, v] 76 (0, 0))) ∧ RowKit.Hid (Below p W1 wr) ∧ RowKit.Hid (p + 1 ≤ wr.heap.size)) (fun _ s14 _ => n - (intOf s14).toNat)
  case atStart => exact ⟨0, _, rfl, Nat.zero_le _, by rw [HT0.out]; exact KN.nil _ _, HP1.out, HR1.out, Nat.le_of_eq HS1.out.symm⟩
  case round =>
    obtain ⟨i, v, rfl, hi, HI, HP, HB, HZ⟩ := hrel
    clear HP1 HR1 HS1
    have i1 : (0 : Int) ≤ (i : Int) := by omega
    obtain ⟨wq, hwq⟩ : ∃ wq, wr = wq := ⟨_, rfl⟩
    rw [hwq] at HI HP HB HZ ⊢
    clear hwq
    by_cases hin : i < n
    · have i2 : (i : Int) < (n : Int) := by omega
      obtain rfl := hga (by omega)
      obtain ⟨k0, k1, k2, k3⟩ := HX.out wq (HBw.out wq HB.out) i hin
      have hmem := HMem.out i hin
      have htk := HTk.out i hin
      have hnx : ∀ k, v.ownBlock = some k → p + 1 ≤ k ∧ k < wq.heap.size := HI.out.lt
      obtain ⟨k, hk⟩ : ∃ k, MK.getD i key0 = k := ⟨_, rfl⟩
      rw [hk] at k0 k1 k2 k3 hmem htk
      obtain ⟨kb, hkb⟩ : ∃ kb, wq.heap.size = kb := ⟨_, rfl⟩
      obtain ⟨wb, hwb⟩ : ∃ wb, wq.alloc (.cells #[.string (S k.tag), .int .u8 (k.code.toNat : Int), .int .i64 k.norm, .int .i64 k.weight] 39) = wb := ⟨_, rfl⟩
      have hKb : wb.heap[kb]? = some (.cells #[.string (S k.tag), .int .u8 (k.code.toNat : Int), .int .i64 k.norm, .int .i64 k.weight] 39 (0, 0)) := by rw [← hwb, ← hkb]; exact heap_alloc_new wq _
      have hbb : Below wq.heap.size wq wb := by rw [← hwb]; exact (Below.refl _ _).alloc (Nat.le_refl _) _
      have hpl := HZ.out
      have hbl : Below p W1 wb := HB.out.trans (hbb.mono (by omega))
      have cK := Lib.hid (fun (W : World) (h : Below p W1 W) => HKy.out k hmem W (HBw.out W h))
      have HPS0 : RowKit.Hid (PS W1 p rid v kb #[.string (S k.tag), .int .u8 (k.code.toNat : Int), .int .i64 k.norm, .int .i64 k.weight] false (PK.take i) wb) :=
        ⟨hbl, (hbb.block p (by omega)).trans HP.out, hKb, fun _ => HI.out.after hbb, fun j hj => ⟨(hnx j hj).1, Nat.lt_of_lt_of_le (hnx j hj).2 hbb.size⟩, fun e => by have := (hnx _ e).2; omega, by omega⟩
      have HPS : RowKit.Hid (PS W1 p rid v kb #[.string (S k.tag), .int .u8 (k.code.toNat : Int), .int .i64 k.norm, .int .i64 k.weight] false (PK.take i) wb.drew) := by
        have h := PS.step 0 HPS0.out (stepT_below 0 (by decide) ((Below.refl wb.heap.size wb).drew))
        exact h
      obtain ⟨av, cv, hv⟩ := HI.out.form
      have HKl := Lib.hid (HTl.out i)
      have HTk1 := Lib.hid htk
      have HWb := Lib.hid hwb
      have HKb := Lib.hid hkb
      clear hmem hk htk hKb hbb hwb hpl hbl HI HP HB HZ HPS0 hkb hnx
      obtain ⟨Kt, hKt⟩ : ∃ Kt, PK.take i = Kt := ⟨_, rfl⟩
      rw [hKt] at HPS HKl HTk1 hv
      subst hv
      clear hKt
      generalize keysM k r = KA at *
      generalize S k.tag = kt at *
      generalize k.code.toNat = kc at *
      generalize k.norm = kn at *
      generalize k.weight = kw at *
      go_upto_region 5 with fail
      rw [HWb.out, HKb.out]
      clear HWb HKb k0 k1 k2 k3
      apply wp_region_fam (T := stepT (Value.slice av Kt.length cv).ownBlock) (R := fun b W => PS W1 p rid (.slice av Kt.length cv) kb #[.string kt, .int .u8 (kc : Int), .int .i64 kn, .int .i64 kw] b Kt W) (m := 6) (V := [VP.eq (.pointer (some ⟨p, 1, none⟩)), VP.eq (.slice av Kt.length cv), VP.eq (.agg #[.string kt, .int .u8 (kc : Int), .int .i64 kn, .int .i64 kw]), VP.eq (.agg #[.int .i64 rid, .int .i64 rver, .int .i64 rkind, .string lg, .slice ra rn rc]), VP.bl15 (p + 1) (Value.slice av Kt.length cv).ownBlock KA, VP.sl15 (p + 1) (Value.slice av Kt.length cv).ownBlock KA, VP.kn15 (p + 1) (Kt ++ [KA]), VP.eq (.pointer (some ⟨p, 1, none⟩))]) (n := 8) (f := 2)
      case hR => exact fun k b u W h ht => PS.step k h ht
      case hdrew => exact HPS.out
      case hst =>
        intro j k hjk x u W hx ht
        match j, hx with
        | 0, hx => exact hx
        | 1, hx => exact hx
        | 2, hx => exact hx
        | 3, hx => exact hx
        | 4, hx => exact newx_step hx ht
        | 5, hx =>
          obtain ⟨x5, b5, e5, hb5, hne5, hx5⟩ := hx
          exact ⟨x5, b5, e5, ((stepT_size ht).2 b5 (Array.getElem?_eq_some_iff.1 hb5).1 (fun e => hne5 e.symm)).trans hb5, hne5, newx_step hx5 ht⟩
        | 6, hx =>
          have hb : Below u.heap.size u W := by unfold stepT at ht; rw [if_neg (fun e => hjk e.symm)] at ht; exact ht
          exact KN.after hx hb
        | 7, hx => exact hx
        | j + 8, hx => trivial
      case hm => kernel_rfl
      case hd => kernel_rfl
      case hb => kernel_rfl
      case hmn => decide
      case hA =>
        intro vs
        simp only [puts, Act.put, List.setIfInBounds_toArray, List.set_cons_zero, List.set_cons_succ]
        exact rfl
      case hlast => kernel_rfl
      case hol => exact rfl
      case hob =>
        refine ObsF.cons _ _ _ _ _ _ _ _ ?o0 (ObsF.cons _ _ _ _ _ _ _ _ ?o1 (ObsF.cons _ _ _ _ _ _ _ _ ?o2 (ObsF.cons _ _ _ _ _ _ _ _ ?o3 (ObsF.cons _ _ _ _ _ _ _ _ ?o4 (ObsF.cons _ _ _ _ _ _ _ _ ?o5 (ObsF.cons _ _ _ _ _ _ _ _ ?o6 (ObsF.cons _ _ _ _ _ _ _ _ ?o7 (ObsF.nil _ _ _ _ _ _ _ _))))))))
        case o0 =>
          intro vs W b hbm hw hd K hK
          go_simp
          exact hK.out _ _ rfl (stepT_below 0 (by decide) (Below.refl _ _))
        case o1 =>
          intro vs W b hbm hw hd K hK
          have h0 : vs 0 = .pointer (some ⟨p, 1, none⟩) := hd 0 (by kernel_rfl)
          obtain ⟨b0, b1⟩ := mcells2 hw.box
          simp only [Nat.reduceAdd, h0] at hK ⊢
          go_simp
          exact hK.out _ _ rfl (stepT_below 1 (by decide) (Below.refl _ _))
        case o2 =>
          intro vs W b hbm hw hd K hK
          obtain ⟨y0, y1, y2, y3⟩ := kcells4 hw.key
          go_simp
          exact hK.out _ _ rfl (stepT_below 2 (by decide) (Below.refl _ _))
        case o3 =>
          intro vs W b hbm hw hd K hK
          obtain ⟨z0, z1, z2, z3, z4⟩ := rcells5 (HRx.out W hw.low)
          go_simp
          exact hK.out _ _ rfl (stepT_below 3 (by decide) (Below.refl _ _))
        case o4 =>
          intro vs W b hbm hw hd K hK
          have h2 : vs 2 = .agg #[.string kt, .int .u8 (kc : Int), .int .i64 kn, .int .i64 kw] := hd 2 (by kernel_rfl)
          have h3 : vs 3 = .agg #[.int .i64 rid, .int .i64 rver, .int .i64 rkind, .string lg, .slice ra rn rc] := hd 3 (by kernel_rfl)
          simp only [Nat.reduceAdd, h2, h3] at hK ⊢
          go_simp
          refine (cK.out W hw.low).mono ?_
          rintro e W' ⟨v4, rfl, hs4, hb4⟩
          exact hK.out _ _ (NewX.of hs4.new15 (Nat.le_of_lt (Nat.lt_of_le_of_lt hw.kge (Array.getElem?_eq_some_iff.1 hw.key).1)) (fun k hk => (hw.own k hk).2)) (stepT_below 4 (by decide) hb4)
        case o5 =>
          intro vs W b hbm hw hd K hK
          have hx : NewX (p + 1) (Value.slice av Kt.length cv).ownBlock (BL (vs 4) KA) W := hd 4 (by kernel_rfl)
          obtain ⟨a4, c4, e4, -⟩ := hx.here
          rw [e4] at hx
          simp only [Nat.reduceAdd, e4] at hK ⊢
          go_simp
          have hal := (Below.refl W.heap.size W).alloc (Nat.le_refl _) (.cells #[.slice a4 KA.length c4] 36)
          exact hK.out _ _ ⟨_, _, rfl, heap_alloc_new W _, fun e => by have := (hw.own _ e).2; omega, newx_step hx (stepT_below 5 (by decide) hal)⟩ (stepT_below 5 (by decide) hal)
        case o6 =>
          intro vs W b hbm hw hd K hK
          have h1 : vs 1 = .slice av Kt.length cv := hd 1 (by kernel_rfl)
          obtain ⟨x5, b5, e5, hb5, hne5, hx5⟩ := hd 5 (by kernel_rfl)
          obtain ⟨v6, w6, hrun, hkn6, hg6⟩ := KN.grow (hw.row (hbm rfl)) HKl.out (Nat.le_of_lt (Nat.lt_of_le_of_lt hw.kge (Array.getElem?_eq_some_iff.1 hw.key).1)) x5 KA b5 _ hb5 hx5 74
          apply step_append_run15 (d := .tmp 19) (s := .tmp 23) (t1 := 74) (t2 := 74) (u := .slice av Kt.length cv) (x := .slice (some ⟨b5, 0, none⟩) 1 1) (v := v6) (w' := w6)
          case hgd => rfl
          case ho => rfl
          case hd => simp [Act.eval, h1]
          case hs => simp [Act.eval, e5]
          case hrun => exact hrun
          case h => exact hK.out _ _ hkn6 (stepT_append hg6)
        case o7 =>
          intro vs W b hbm hw hd K hK
          go_simp
          exact hK.out _ _ rfl (stepT_below 7 (by decide) (Below.refl _ _))
      case hfin =>
        intro vs W b hw hd
        have h6 : KN (p + 1) (vs 6) (Kt ++ [KA]) W := hd 6 (by decide)
        have h7 : vs 7 = .pointer (some ⟨p, 1, none⟩) := hd 7 (by decide)
        obtain ⟨a6, c6, e6⟩ := h6.form
        rw [e6] at h6
        obtain ⟨b0, b1⟩ := mcells2 hw.box
        have s1 := Lib.frozen_of_heap hw.box 1
        have HSet := Lib.hid (setP15 hw.box (.slice a6 (Kt ++ [KA]).length c6))
        have hpW : p < W.heap.size := (Array.getElem?_eq_some_iff.1 hw.box).1
        obtain ⟨W9, hW9⟩ : ∃ W9, W.setCell ⟨p, 1, none⟩ (.slice a6 (Kt ++ [KA]).length c6) = W9 := ⟨_, rfl⟩
        rw [hW9] at HSet
        have hsz9 : W9.heap.size = W.heap.size := by rw [← hW9]; simp [World.setCell]
        have HI9 : RowKit.Hid (KN (p + 1) (.slice a6 (Kt ++ [KA]).length c6) (PK.take (i + 1)) W9) := by
          unfold RowKit.Hid
          rw [HTk1.out]
          exact h6.on (by omega) (fun j hj _ => by rw [← hW9]; exact heap_setn _ _ _ _ (by show j ≠ p; omega))
        have HB9 : RowKit.Hid (Below p W1 W9) := by
          unfold RowKit.Hid
          rw [← hW9]
          exact hw.low.setCell (p := ⟨p, 1, none⟩) (Nat.le_refl _) _
        have HW9 := Lib.hid hW9
        have HZ9 : RowKit.Hid (p + 1 ≤ W9.heap.size) := by unfold RowKit.Hid; omega
        simp only [Nat.reduceAdd, e6, h7]
        clear h6 e6 h7 hd hw hW9 hsz9 HPS cK
        generalize (Kt ++ [KA]).length = nk at *
        go_simp
        rw [HW9.out]
        clear HW9
        go_wp2
        go_roundw
        case rel => exact ⟨i + 1, _, by go_num, by omega, HI9.out, HSet.out, HB9.out, HZ9.out⟩
        case measure => simp [intOf]; omega
    · obtain rfl : i = n := by omega
      rw [HTe.out] at HI
      obtain ⟨av, cv, hv⟩ := HI.out.form
      subst hv
      have hpl := HZ.out
      have hB := HB.out
      have hP := HP.out
      have hX := HXx.out wq hB
      obtain ⟨b0, b1⟩ := mcells2 hP
      obtain ⟨r0, r1⟩ := mcells2 hX
      have s0 := Lib.frozen_of_heap hX 0
      have s1 := Lib.frozen_of_heap hX 1
      have HFin := Lib.hid (setX15 hX (.int .i64 rid) (.slice av PK.length cv))
      have HG : RowKit.Hid (Q (.returned (.agg #[.int .i64 rid, .slice av PK.length cv])) ((wq.setCell ⟨w.heap.size + 1 + 1, 0, none⟩ (.int .i64 rid)).setCell ⟨w.heap.size + 1 + 1, 1, none⟩ (.slice av PK.length cv))) := by
        refine HQ.out _ _ ?_ (((HBw.out wq hB).setCell (p := ⟨w.heap.size + 1 + 1, 0, none⟩) (by show w.heap.size ≤ w.heap.size + 1 + 1; omega) _).setCell (p := ⟨w.heap.size + 1 + 1, 1, none⟩) (by show w.heap.size ≤ w.heap.size + 1 + 1; omega) _)
        refine ((HI.out.on ?_ ?_).new).mono (by have := HPw.out; omega)
        · simp [World.setCell]
        · intro j hj _
          rw [heap_setn _ _ _ _ (by have := HPw.out; show j ≠ w.heap.size + 1 + 1; omega), heap_setn _ _ _ _ (by have := HPw.out; show j ≠ w.heap.size + 1 + 1; omega)]
      clear HI HP HB HZ hP hB hX hpl HQ
      generalize PK.length = np at *
      go_wp2
      (try simp only [Exit.inBlock, Exit.then])
      refine bodyPost_ret (results_cell_row rfl _ _ (w.heap.size + 1 + 1) _ _ _ _ rfl HFin.out Tryz.underlying76 rfl (by kernel_rfl)) rfl ?_
      exact HG.out
end

section
open Go.RowKit Go.PlainAid
/-- A profile in a row: the value of its keys, and the record that it stands for. -/
abbrev PE := Value × Rec
def encP (e : PE) : List Value := [.int .i64 e.2.id, e.1]
def cellsP15 (F : List PE) : List Value := F.flatMap encP
theorem cellsP15_len (F : List PE) : (cellsP15 F).length = F.length * 2 := by
  induction F with
  | nil => rfl
  | cons x t ih => simp [cellsP15, List.flatMap_cons, encP] at ih ⊢; omega
theorem cellsP15_snoc (F : List PE) (x : PE) : cellsP15 (F ++ [x]) = cellsP15 F ++ [.int .i64 x.2.id, x.1] := by simp [cellsP15, encP]
theorem cellsP15_at : ∀ (F : List PE) (i : Nat) (x : PE), F[i]? = some x → (cellsP15 F)[i * 2]? = some (.int .i64 x.2.id) ∧ (cellsP15 F)[i * 2 + 1]? = some x.1
  | [], i, x, h => by simp at h
  | y :: t, 0, x, h => by
    simp at h
    subst h
    simp [cellsP15, encP]
  | y :: t, i + 1, x, h => by
    have ih := cellsP15_at t i x (by simpa using h)
    have e : cellsP15 (y :: t) = Value.int .i64 y.2.id :: y.1 :: cellsP15 t := by simp [cellsP15, encP]
    rw [e, show (i + 1) * 2 = i * 2 + 1 + 1 by omega, show i * 2 + 1 + 1 + 1 = (i * 2 + 1) + 1 + 1 by omega]
    simpa using ih
/-- A row of profiles from block B on; their keys lie in other new blocks. -/
structure PN (m : MRule) (B : Nat) (v : Value) (F : List PE) (w : World) : Prop where
  row : w.ownsRow B 76 2 v F.length (cellsP15 F)
  kks : ∀ e ∈ F, NewX B v.ownBlock (KK e.1 (profK m e.2)) w
theorem PN.nil (m : MRule) (B : Nat) (w : World) : PN m B (.slice none 0 0) [] w := ⟨World.ownsRow_nil _ _ _ _, fun e he => by cases he⟩
theorem PN.on {m : MRule} {B : Nat} {v : Value} {F : List PE} {w w' : World} (h : PN m B v F w) (hs : w.heap.size ≤ w'.heap.size) (hb : ∀ i, B ≤ i → i < w.heap.size → w'.heap[i]? = w.heap[i]?) : PN m B v F w' :=
  ⟨own_same h.row hb, fun e he => (h.kks e he).on hs fun j hj hk _ => hb j hj hk⟩
theorem PN.after {m : MRule} {B : Nat} {v : Value} {F : List PE} {w w' : World} (h : PN m B v F w) (hb : Below w.heap.size w w') : PN m B v F w' := h.on hb.size fun i _ hi => hb.block i hi
theorem PN.base {m : MRule} {B B' : Nat} {v : Value} {F : List PE} {w : World} (h : PN m B' v F w) (hB : B ≤ B') : PN m B v F w := by
  refine ⟨⟨h.row.1, ?_⟩, fun e he w2 h1 h2 => h.kks e he w2 h1 fun i h3 h4 h5 => h2 i (Nat.le_trans hB h3) h4 h5⟩
  rcases h.row.2 with h0 | ⟨g, cap, cur, hv, hb, rest⟩
  · exact .inl h0
  · exact .inr ⟨g, cap, cur, hv, Nat.le_trans hB hb, rest⟩
theorem PN.opened {m : MRule} {B : Nat} {v : Value} {F : List PE} {w : World} (h : PN m B v F w) : ∃ a cap g, v = .slice a F.length cap ∧ F.length ≤ cap ∧ cap ≤ maxLen ∧ (0 < F.length → a = some ⟨g, 0, none⟩ ∧ B ≤ g ∧ g < w.heap.size) ∧
    ∀ W, Below w.heap.size w W → ∀ i e, F[i]? = some e → W.cell? ⟨g, i * 2, none⟩ = some (.int .i64 e.2.id) ∧ W.cell? ⟨g, i * 2 + 1, none⟩ = some e.1 ∧ KK e.1 (profK m e.2) W := by
  have hk : ∀ W, Below w.heap.size w W → ∀ e ∈ F, KK e.1 (profK m e.2) W := fun W hW e he => (h.kks e he).here.after hW
  rcases h.row.2 with ⟨rfl, h0⟩ | ⟨g, cap, cur, rfl, hb, hg, hc, hm, hs, ht⟩
  · have h00 : F = [] := List.eq_nil_of_length_eq_zero h0
    subst h00
    exact ⟨none, 0, 0, rfl, Nat.le_refl _, Nat.zero_le _, (fun h => by cases h), fun W _ i e hi => by simp at hi⟩
  · have hlt := (Array.getElem?_eq_some_iff.1 hg).1
    refine ⟨_, cap, g, rfl, hc, hm, fun _ => ⟨rfl, hb, hlt⟩, fun W hW i e hi => ?_⟩
    obtain ⟨c0, c1⟩ := cellsP15_at F i e hi
    have t0 := h.row.cells (g := g) rfl _ _ c0
    have t1 := h.row.cells (g := g) rfl _ _ c1
    have hadd : ∀ j, (⟨g, 0, none⟩ : Addr).add j = ⟨g, j, none⟩ := fun j => by unfold Addr.add; split <;> simp_all
    rw [hadd] at t0 t1
    exact ⟨(hW.cell (p := ⟨g, i * 2, none⟩) hlt).trans t0, (hW.cell (p := ⟨g, i * 2 + 1, none⟩) hlt).trans t1, hk W hW e (List.mem_of_getElem? hi)⟩
theorem infoPr15 : (Tryz.prog.info? 76).map (fun i => (i.zero, i.size, i.bytes)) = some (some (.agg #[.int .i64 0, .slice none 0 0]), 2, 32) := by kernel_rfl
theorem kk_one {u : Value} {L : List (List (List UInt8))} {w : World} (h : KK u L w) : u.oneCell' = true := by
  obtain ⟨a, cap, rfl, _⟩ := h
  rfl
/-- append of one profile that has just been laid to such a row. -/
theorem append_pn {ops : Array Oper} {rest : List Oper} {o : Oper} {a : Act} {Q : Exit → Act → World → Prop} (m : MRule) (w : World) (hgd : o.guard = none) (s x : Operand)
    (ho : o.op = .call { callee := .builtin .append, args := #[s, x], argTypes := #[79, 79] })
    (B : Nat) (v : Value) (F : List PE) (kv : Value) (r : Rec) (hs : a.eval s = v) (h : PN m B v F w) (hx : a.eval x = .slice (some ⟨w.heap.size, 0, none⟩) 1 1) (hz : F.length ≤ 1000000) (hB : B ≤ w.heap.size) (hkk : NewX B v.ownBlock (KK kv (profK m r)) w)
    (N : Nat) (W1 : World) (hNB : N ≤ B) (hb : Below N W1 w)
    (hk : ∀ v' w', PN m B v' (F ++ [(kv, r)]) w' → Below N W1 w' → B ≤ w'.heap.size → wpList Tryz.prog ops Q rest (a.put o.dst v') w') : wpList Tryz.prog ops Q (o :: rest) a (w.alloc (.cells #[.int .i64 r.id, kv] 76)) := by
  obtain ⟨i0, h0, h2⟩ := Option.map_eq_some_iff.1 infoPr15
  simp only [Prod.mk.injEq] at h2
  have hal := (Below.refl w.heap.size w).alloc (Nat.le_refl _) (.cells #[.int .i64 r.id, kv] 76)
  have hrow := World.ownsRow.alloc h.row (.cells #[.int .i64 r.id, kv] 76)
  refine wpList_append_own_at _ hgd s x 79 ho B 76 i0 (.agg #[.int .i64 0, .slice none 0 0]) 2 32 Tryz.underlying79 h0 h2.1 h2.2.1 h2.2.2 rfl (by decide) v F.length _ hs hrow ⟨w.heap.size, 0, none⟩ 1 1 [.int .i64 r.id, kv] hx rfl (cells_two w _ _ _) (by intro u hu; simp at hu; rcases hu with h5 | h5 <;> subst h5 <;> first | rfl | exact kk_one hkk.here) (by unfold maxLen; omega) (by omega) (by simp; omega) ?_
  intro v2 w2 hown2 hg2 hn2 hat
  have hmv : ∀ {P : World → Prop}, NewX B v.ownBlock P w → NewX B v2.ownBlock P w2 := fun hp => (hp.on hal.size fun j _ hk _ => hal.block j hk).move hg2.size (fun j _ hk hne => hg2.block j hk hne) (hat.imp id fun h => ⟨_, h, Nat.le_refl _⟩)
  refine hk v2 w2 ⟨by rw [List.length_append, cellsP15_snoc]; exact hown2, fun e he => ?_⟩ ?_ (Nat.le_trans (by simp; omega) hg2.size)
  · rcases List.mem_append.1 he with he | he
    · exact hmv (h.kks e he)
    · rw [List.mem_singleton] at he
      subst he
      exact hmv hkk
  · exact (hb.alloc (by omega) _).grown hg2 (by simp; omega) (fun j hj => Nat.le_trans hNB (hrow.lt j hj).1)

set_option maxHeartbeats 32000000 in
set_option maxRecDepth 100000 in
theorem profilesOf_any (m : MRule) (mv : Value) (l : List Rec) (u : Value) (w : World) (hE : Env w) (hm : KL mv m.keys w) (hk8 : m.keys.length ≤ 8) (hN : okN m) (hu : RL u l w) (ho : ∀ r ∈ l, okR r) (hz : l.length ≤ 1000) :
    Calls Tryz.prog 46 #[MV m mv, u] w fun e w' => ∃ v F, e = .returned v ∧ F.map (·.2) = l ∧ PN m w.heap.size v F w' ∧ Below w.heap.size w w' := by
  obtain ⟨Q, hQ⟩ : ∃ Q, (fun (e : Ending) (w' : World) => ∃ v F, e = .returned v ∧ F.map (·.2) = l ∧ PN m w.heap.size v F w' ∧ Below w.heap.size w w') = Q := ⟨_, rfl⟩
  rw [hQ]
  have HQ : RowKit.Hid (∀ v F W, F.map (·.2) = l → PN m w.heap.size v F W → Below w.heap.size w W → Q (.returned v) W) := by
    rw [← hQ]
    exact fun v F W h1 h2 h3 => ⟨v, F, rfl, h1, h2, h3⟩
  obtain ⟨mx, mc, hmv, -, -⟩ : ∃ a cap, mv = .slice a m.keys.length cap ∧ m.keys.length ≤ cap ∧ cap ≤ maxLen := by
    obtain ⟨a, cap, h1, h2, h3, _⟩ := hm
    exact ⟨a, cap, h1, h2, h3⟩
  have cP := Lib.hid (fun (r : Rec) (x : Value) (W : World) (hW : Below w.heap.size w W) (hx : FL x r.fields W) (hr : r ∈ l) => profileOf_any m mv r x W (hE.after hW) (hm.after hW) hk8 hN hx (ho r hr))
  have HU := Lib.hid (fun (W : World) (h : Below w.heap.size w W) => hu.after h)
  obtain ⟨W0, hW0⟩ : ∃ W0, w.alloc (.cells #[mv, .int .i64 m.need] 24) = W0 := ⟨_, rfl⟩
  have b0 : Below w.heap.size w W0 := by rw [← hW0]; exact (Below.refl w.heap.size w).alloc (Nat.le_refl _) _
  have hlt : w.heap.size < W0.heap.size := by rw [← hW0]; simp
  have hM0 : W0.heap[w.heap.size]? = some (.cells #[mv, .int .i64 m.need] 24 (0, 0)) := by rw [← hW0]; exact heap_alloc_new w _
  have HMx := Lib.hid (fun (W : World) (h : Below W0.heap.size W0 W) => (h.block w.heap.size hlt).trans hM0)
  have HBw := Lib.hid (fun (W : World) (h : Below W0.heap.size W0 W) => b0.trans (h.mono b0.size))
  have HSz := Lib.hid b0.size
  have HR0 := Lib.hid (Below.refl W0.heap.size W0)
  obtain ⟨a, cap, rfl, hcap, hmax⟩ := hu.length
  unfold maxLen at hmax
  have HW0 := Lib.hid hW0
  unfold MV RV PV at *
  subst hmv
  clear hQ hm hE hu ho hW0 hM0 hlt b0 hN
  generalize m.keys.length = mn at *
  generalize m.need = need at *
  obtain ⟨n, hn⟩ : ∃ n, l.length = n := ⟨_, rfl⟩
  rw [hn] at hcap hz ⊢
  have HN := Lib.hid hn
  rw [hn] at HU
  clear hn
  go_enter Tryz.func46, Tryz.ntmps46
  go_upto_region 1 with fail
  rw [HW0.out]
  clear HW0
  go_wp2
  go_loopw [5, 7, 10] (fun s5 _ s10 wr => ∃ (i : Nat) (F : List PE), s10 = .int .i64 (i : Int) ∧ i ≤ n ∧ RowKit.Hid (F.map (·.2) = l.take i) ∧ RowKit.Hid (PN m W0.heap.size s5 F wr) ∧ RowKit.Hid (Below W0.heap.size W0 wr)) (fun _ _ s10 _ => n - (intOf s10).toNat)
  case atStart => exact ⟨0, [], rfl, Nat.zero_le _, rfl, PN.nil _ _ _, HR0.out⟩
  case round =>
    obtain ⟨i, F, rfl, hi, HF, HP, HB⟩ := hrel
    clear HR0
    have i1 : (0 : Int) ≤ (i : Int) := by omega
    by_cases hin : i < n
    · have i2 : (i : Int) < (n : Int) := by omega
      obtain ⟨g, o, cap', x, he, hg, c0, c1, c2, c3, c4, hq⟩ := (HU.out wr (HBw.out wr HB.out)).at i (by rw [HN.out]; exact hin)
      obtain ⟨rfl, -, hcp⟩ := Value.slice.inj he
      subst hcp
      have hmem : l.getD i rec0 ∈ l := getD_mem15 l rec0 i (by rw [HN.out]; exact hin)
      have htk : l.take (i + 1) = l.take i ++ [l.getD i rec0] := by
        rw [List.take_succ_eq_append_getElem (by rw [HN.out]; exact hin), List.getD_eq_getElem?_getD, List.getElem?_eq_getElem (by rw [HN.out]; exact hin)]
        rfl
      obtain ⟨r, hr⟩ : ∃ r, l.getD i rec0 = r := ⟨_, rfl⟩
      rw [hr] at c0 c1 c2 c3 hq hmem htk
      obtain ⟨ax, cx, hx, -, -⟩ := hq.length
      have HFl : RowKit.Hid (F.length ≤ 1000) := by
        have := congrArg List.length HF.out
        rw [List.length_map, List.length_take] at this
        unfold RowKit.Hid
        omega
      have HF2 : RowKit.Hid (∀ kv, (F ++ [((kv, r) : PE)]).map (·.2) = l.take (i + 1)) := fun kv => by
        rw [List.map_append, HF.out, htk]
        rfl
      obtain ⟨wb, hwb⟩ : ∃ wb, wr.alloc (.cells #[.int .i64 r.id, .int .i64 r.ver, .int .i64 r.kind, .string (S r.lang), x] 33) = wb := ⟨_, rfl⟩
      obtain ⟨bx, hbx⟩ : ∃ bx, wr.heap.size = bx := ⟨_, rfl⟩
      have hXb : wb.heap[bx]? = some (.cells #[.int .i64 r.id, .int .i64 r.ver, .int .i64 r.kind, .string (S r.lang), x] 33 (0, 0)) := by rw [← hwb, ← hbx]; exact heap_alloc_new wr _
      have hbb : Below wr.heap.size wr wb := by rw [← hwb]; exact (Below.refl _ _).alloc (Nat.le_refl _) _
      have HBb := Lib.hid (HB.out.trans (hbb.mono HB.out.size))
      have HPb := Lib.hid (HP.out.after hbb)
      have cP1 := Lib.hid (cP.out r x wb (HBw.out wb HBb.out) (hq.after hbb) hmem)
      obtain ⟨y0, y1, y2, y3, y4⟩ := rcells5 hXb
      obtain ⟨m0, m1⟩ := mcells2 (HMx.out wb HBb.out)
      have HWb := Lib.hid hwb
      have HBx := Lib.hid hbx
      subst hx
      clear he hg hq hmem htk hr hwb hbx hXb hbb HP HB HF
      generalize r.fields.length = nx at *
      generalize S r.lang = lg at *
      generalize hrid : r.id = rid at *
      have HRid := Lib.hid hrid
      clear hrid
      generalize r.ver = rver at *
      generalize r.kind = rkind at *
      go_upto_region 5 with fail
      rw [HWb.out, HBx.out]
      clear HWb HBx c0 c1 c2 c3 c4
      go_wp2_with fail
      refine cP1.out.mono ?_
      rintro e w5 ⟨kv, rfl, hkk, hb5⟩
      have HB5 := Lib.hid (HBb.out.trans (hb5.mono HBb.out.size))
      have HP5 := Lib.hid (HPb.out.after hb5)
      have hown := HPb.out.row.lt
      have HK5 : RowKit.Hid (NewX W0.heap.size u5.ownBlock (KK kv (profK m r)) w5) := NewX.of hkk HBb.out.size (fun k hk => (hown k hk).2)
      obtain ⟨ak, ck, hkv, -, -⟩ := hkk.here.length
      have hsz5 := HB5.out.size
      subst hkv
      clear hkk hb5 hown HBb HPb cP1 y0 y1 y2 y3 y4 m0 m1
      rw [← HRid.out]
      go_wp2_with (at_builtin; refine append_pn m _ rfl _ _ rfl W0.heap.size u5 F _ r rfl HP5.out rfl (by have := HFl.out; omega) hsz5 HK5.out W0.heap.size W0 (Nat.le_refl _) HB5.out ?_)
      intro v7 w7 h7 hb7 _
      have HP7 := Lib.hid h7
      have HB7 := Lib.hid hb7
      have HF7 := Lib.hid (HF2.out (.slice ak (profK m r).length ck))
      clear h7 hb7 HP5 HK5 HB5 HF2
      go_wp2
      go_roundw
      case rel => exact ⟨i + 1, _, by go_num, by omega, HF7.out, HP7.out, HB7.out⟩
      case measure => simp [intOf]; omega
    · obtain rfl : i = n := by omega
      have hf := HF.out
      rw [List.take_of_length_le (by rw [HN.out]; exact Nat.le_refl _)] at hf
      have HG := Lib.hid (HQ.out u5 F wr hf (HP.out.base HSz.out) (HBw.out wr HB.out))
      clear HF HP HB HQ hf
      go_wp2
      first | exact HG.out | (go_ret; exact HG.out)
end

section
open Go.RowKit Go.PlainAid
theorem KK.opened {v : Value} {Ks : List (List (List UInt8))} {w : World} (h : KK v Ks w) : ∃ a cap g, ∃ us : Nat → Value, v = .slice a Ks.length cap ∧ Ks.length ≤ cap ∧ cap ≤ maxLen ∧ (0 < Ks.length → a = some ⟨g, 0, none⟩) ∧ ∀ W, Below w.heap.size w W → ∀ i, i < Ks.length → W.cell? ⟨g, i, none⟩ = some (us i) ∧ BL (us i) (Ks.getD i []) W := by
  obtain ⟨a, cap, rfl, hc, hm, hx⟩ := h
  by_cases h0 : 0 < Ks.length
  · obtain ⟨g, _, rfl, _⟩ := hx 0 h0
    have each : ∀ i, ∃ u, i < Ks.length → g < w.heap.size ∧ w.cell? ⟨g, i, none⟩ = some u ∧ BL u (Ks.getD i []) w := fun i => by
      by_cases hi : i < Ks.length
      · obtain ⟨g', u, e, h1, h2, h3⟩ := hx i hi
        obtain ⟨rfl, -, -⟩ := Addr.mk.inj (Option.some.inj e)
        exact ⟨u, fun _ => ⟨h1, h2, h3⟩⟩
      · exact ⟨.nilIface, fun h => absurd h hi⟩
    obtain ⟨us, hus⟩ := Classical.skolem.1 each
    refine ⟨_, cap, g, us, rfl, hc, hm, fun _ => rfl, fun W hW i hi => ?_⟩
    obtain ⟨h1, h2, h3⟩ := hus i hi
    exact ⟨(hW.cell (p := ⟨g, i, none⟩) h1).trans h2, h3.after hW⟩
  · exact ⟨a, cap, 0, fun _ => .nilIface, rfl, hc, hm, fun h => absurd h h0, fun W _ i hi => by omega⟩
theorem profK_at (m : MRule) (r : Rec) (i : Nat) (h : i < m.keys.length) : (profK m r).getD i [] = keysM (m.keys.getD i key0) r := by
  unfold profK
  rw [List.getD_eq_getElem?_getD, List.getElem?_map, List.getD_eq_getElem?_getD, List.getElem?_eq_getElem h]
  rfl
theorem profK_len (m : MRule) (r : Rec) : (profK m r).length = m.keys.length := by unfold profK; rw [List.length_map]
def SP.pv15 (id : Int) (K : List (List (List UInt8))) : SP := ⟨fun v w => ∃ kv, v = .agg #[.int .i64 id, kv] ∧ KK kv K w, fun _ _ _ h hb => by
  obtain ⟨kv, h1, h2⟩ := h
  exact ⟨kv, h1, h2.after hb⟩⟩

set_option maxHeartbeats 32000000 in
set_option maxRecDepth 100000 in
theorem pscore_any (m : MRule) (mv : Value) (a b : Rec) (ia ib : Int) (ka kb : Value) (w : World) (hm : KL mv m.keys w) (ho : okM m) (ha : KK ka (profK m a) w) (hb : KK kb (profK m b) w) :
    Calls Tryz.prog 42 #[MV m mv, PV ia ka, PV ib kb] w fun e w' => e = .returned (.int .i64 (scoreM m a b)) ∧ Below w.heap.size w w' := by
  obtain ⟨n, hg⟩ : ∃ n, m.keys.length = n := ⟨_, rfl⟩
  obtain ⟨x, cap, g, o, rfl, hc, hmx, hga, hxa⟩ := hm.opened
  obtain ⟨aa, ca, ga, ua, rfl, hca, hma, hgaa, hxaa⟩ := ha.opened
  obtain ⟨ab, cb, gb, ub, rfl, hcb, hmb, hgab, hxab⟩ := hb.opened
  rw [profK_len] at hca hgaa hxaa hcb hgab hxab ⊢
  rw [profK_len]
  rw [hg] at hc hga hxa hca hgaa hxaa hcb hgab hxab ⊢
  unfold maxLen at hmx hma hmb
  obtain ⟨W0, hW0⟩ : ∃ W0, ((w.alloc (.cells #[.slice x n cap, .int .i64 m.need] 24)).alloc (.cells #[.int .i64 ia, .slice aa n ca] 76)).alloc (.cells #[.int .i64 ib, .slice ab n cb] 76) = W0 := ⟨_, rfl⟩
  have b0 : Below w.heap.size w W0 := by rw [← hW0]; exact (((Below.refl w.heap.size w).alloc (Nat.le_refl _) _).alloc (by simp) _).alloc (by simp; omega) _
  have hsz0 : W0.heap.size = w.heap.size + 3 := by rw [← hW0]; simp
  have hM : W0.heap[w.heap.size]? = some (.cells #[.slice x n cap, .int .i64 m.need] 24 (0, 0)) := by
    rw [← hW0]
    exact ((Below.heap_alloc _ _ _ (by simp; omega)).trans (Below.heap_alloc _ _ _ (by simp))).trans (heap_alloc_new w _)
  have hA : W0.heap[w.heap.size + 1]? = some (.cells #[.int .i64 ia, .slice aa n ca] 76 (0, 0)) := by
    rw [← hW0]
    refine (Below.heap_alloc _ _ _ (by simp)).trans ?_
    have := heap_alloc_new (w.alloc (.cells #[.slice x n cap, .int .i64 m.need] 24)) (.cells #[.int .i64 ia, .slice aa n ca] 76)
    simpa using this
  have hB : W0.heap[w.heap.size + 1 + 1]? = some (.cells #[.int .i64 ib, .slice ab n cb] 76 (0, 0)) := by
    rw [← hW0]
    have := heap_alloc_new ((w.alloc (.cells #[.slice x n cap, .int .i64 m.need] 24)).alloc (.cells #[.int .i64 ia, .slice aa n ca] 76)) (.cells #[.int .i64 ib, .slice ab n cb] 76)
    simpa using this
  have HM := Lib.hid (fun (W : World) (h : Below W0.heap.size W0 W) => (h.block w.heap.size (by omega)).trans hM)
  have HA := Lib.hid (fun (W : World) (h : Below W0.heap.size W0 W) => (h.block (w.heap.size + 1) (by omega)).trans hA)
  have HB := Lib.hid (fun (W : World) (h : Below W0.heap.size W0 W) => (h.block (w.heap.size + 1 + 1) (by omega)).trans hB)
  have HBw := Lib.hid (fun (W : World) (h : Below W0.heap.size W0 W) => b0.trans (h.mono b0.size))
  have HX := Lib.hid hxa
  have HXa := Lib.hid hxaa
  have HXb := Lib.hid hxab
  have HPa := Lib.hid (fun i (h : i < n) => profK_at m a i (by rw [hg]; exact h))
  have HPb := Lib.hid (fun i (h : i < n) => profK_at m b i (by rw [hg]; exact h))
  have HSt := Lib.hid (fun i (h : i < n) => sumP_step m a b i (by rw [hg]; exact h))
  have HSb := Lib.hid (fun i => sumP_bound m a b ho i)
  have HS0 : RowKit.Hid (sumP m a b 0 = 0) := by unfold RowKit.Hid sumP; simp
  have HSe : RowKit.Hid (sumP m a b n = scoreM m a b) := by
    unfold RowKit.Hid sumP scoreM
    rw [← hg, List.take_length]
  have hn8 : n ≤ 8 := by rw [← hg]; exact ho.len
  have HRB := Lib.hid (Below.refl W0.heap.size W0)
  unfold MV PV
  have HW0 := Lib.hid hW0
  clear hW0 hM hA hB hxa hxaa hxab b0 hsz0 ho hm ha hb hg
  generalize hss : scoreM m a b = sc at *
  generalize hK : m.keys = K at *
  clear hss hK
  generalize m.need = need at *
  go_enter Tryz.func42, Tryz.ntmps42
  go_upto_region 1 with fail
  rw [HW0.out]
  clear HW0
  obtain ⟨m0, m1⟩ := mcells2 (HM.out W0 HRB.out)
  go_wp2
  clear m0 m1
  go_loopw [7, 8, 9, 13] (fun s7 _ _ s13 wr => ∃ i : Nat, s13 = .int .i64 (i : Int) ∧ i ≤ n ∧ s7 = .int .i64 (sumP m a b i) ∧ RowKit.Hid (Below W0.heap.size W0 wr)) (fun _ _ _ s13 _ => n - (intOf s13).toNat)
  case atStart => exact ⟨0, rfl, Nat.zero_le _, by rw [HS0.out], HRB.out⟩
  case round =>
    obtain ⟨i, rfl, hi, rfl, HBr⟩ := hrel
    clear HRB HS0
    have i1 : (0 : Int) ≤ (i : Int) := by omega
    obtain ⟨wq, hwq⟩ : ∃ wq, wr = wq := ⟨_, rfl⟩
    rw [hwq] at HBr ⊢
    clear hwq
    by_cases hin : i < n
    · have i2 : (i : Int) < (n : Int) := by omega
      obtain rfl := hga (by omega)
      obtain rfl := hgaa (by omega)
      obtain rfl := hgab (by omega)
      obtain ⟨k0, k1, k2, k3⟩ := HX.out wq (HBw.out wq HBr.out) i hin
      have hst := HSt.out i hin
      have hsb := HSb.out i
      have hsb2 := HSb.out (i + 1)
      have hpa := HPa.out i hin
      have hpb := HPb.out i hin
      obtain ⟨k, hk⟩ : ∃ k, K.getD i key0 = k := ⟨_, rfl⟩
      rw [hk] at k0 k1 k2 k3 hst hpa hpb
      obtain ⟨wb, hwb⟩ : ∃ wb, wq.alloc (.cells #[.string (S k.tag), .int .u8 (k.code.toNat : Int), .int .i64 k.norm, .int .i64 k.weight] 39) = wb := ⟨_, rfl⟩
      obtain ⟨bx, hbx⟩ : ∃ bx, wq.heap.size = bx := ⟨_, rfl⟩
      have hF : wb.heap[bx]? = some (.cells #[.string (S k.tag), .int .u8 (k.code.toNat : Int), .int .i64 k.norm, .int .i64 k.weight] 39 (0, 0)) := by rw [← hwb, ← hbx]; exact heap_alloc_new wq _
      have hbb : Below wq.heap.size wq wb := by rw [← hwb]; exact (Below.refl _ _).alloc (Nat.le_refl _) _
      have hltb : bx < wb.heap.size := by rw [← hwb, ← hbx]; simp
      have hBb : Below W0.heap.size W0 wb := HBr.out.trans (hbb.mono HBr.out.size)
      have HKx := Lib.hid (fun (W : World) (h : Below wb.heap.size wb W) => (h.block bx hltb).trans hF)
      have HBa := Lib.hid (fun (W : World) (h : Below wb.heap.size wb W) => hBb.trans (h.mono hBb.size))
      have Hab := Lib.hid (fun (W : World) (h : Below wb.heap.size wb W) => HA.out W (HBa.out W h))
      have Hbb := Lib.hid (fun (W : World) (h : Below wb.heap.size wb W) => HB.out W (HBa.out W h))
      have HCa := Lib.hid (fun (W : World) (h : Below wb.heap.size wb W) => (HXa.out W (HBw.out W (HBa.out W h)) i hin).1)
      have HCb := Lib.hid (fun (W : World) (h : Below wb.heap.size wb W) => (HXb.out W (HBw.out W (HBa.out W h)) i hin).1)
      have hpt : partM a b k = if meetL (keysM k a) (keysM k b) = true then k.weight else 0 := rfl
      rw [hpt] at hst
      obtain ⟨mt, hmt⟩ : ∃ mt, meetL (keysM k a) (keysM k b) = mt := ⟨_, rfl⟩
      have cM := Lib.hid (fun (W : World) (h : Below wb.heap.size wb W) => pmeet_any (ua i) (ub i) (keysM k a) (keysM k b) W (by rw [← hpa]; exact (HXa.out W (HBw.out W (HBa.out W h)) i hin).2) (by rw [← hpb]; exact (HXb.out W (HBw.out W (HBa.out W h)) i hin).2) (keysM_asc k a) (keysM_asc k b) mt hmt)
      rw [hmt] at hst
      have HX1 : RowKit.Hid (sumP m a b (i + 1) = sumP m a b i + if mt = true then k.weight else 0) := hst
      obtain ⟨xa, hxa⟩ : ∃ xa, ua i = xa := ⟨_, rfl⟩
      obtain ⟨xb, hxb⟩ : ∃ xb, ub i = xb := ⟨_, rfl⟩
      have hfa := (HXa.out wb (HBw.out wb hBb) i hin).2
      have hfb := (HXb.out wb (HBw.out wb hBb) i hin).2
      rw [hxa] at HCa cM hfa
      rw [hxb] at HCb cM hfb
      obtain ⟨va, vca, rfl, -⟩ := hfa
      obtain ⟨vb, vcb, rfl, -⟩ := hfb
      have HWb := Lib.hid hwb
      have HBx := Lib.hid hbx
      clear hst hk hpt hmt hwb hbx hF hbb hltb hBb hpa hpb HBr hxa hxb
      generalize ((profK m a).getD i []).length = la at *
      generalize ((profK m b).getD i []).length = lb at *
      generalize hz1 : sumP m a b (i + 1) = z1 at *
      have HZ1 := Lib.hid hz1
      clear hz1
      generalize sumP m a b i = z at *
      generalize S k.tag = kt at *
      generalize k.code.toNat = kc at *
      generalize k.norm = kn at *
      generalize k.weight = kw at *
      go_upto_region 5 with fail
      rw [HWb.out, HBx.out]
      clear HWb HBx k0 k1 k2 k3
      apply wp_region_inv (V := [.eq (.pointer (some ⟨w.heap.size + 1, 1, none⟩)), .eq (.slice (some ⟨ga, 0, none⟩) n ca), .eq (.int .i64 (i : Int)), .eq (.pointer (some ⟨ga, i, none⟩)), .eq (.slice va la vca), .eq (.pointer (some ⟨w.heap.size + 1 + 1, 1, none⟩)), .eq (.slice (some ⟨gb, 0, none⟩) n cb), .eq (.int .i64 (i : Int)), .eq (.pointer (some ⟨gb, i, none⟩)), .eq (.slice vb lb vcb), .eq (.bool mt)])
      case hm => kernel_rfl
      case hd => kernel_rfl
      case hb => kernel_rfl
      case hA =>
        intro vs
        simp only [puts, Act.put, List.setIfInBounds_toArray, List.set_cons_zero, List.set_cons_succ]
        exact rfl
      case hob =>
        refine Obs.cons _ _ _ _ _ _ ?o0 (Obs.cons _ _ _ _ _ _ ?o1 (Obs.cons _ _ _ _ _ _ ?o2 (Obs.cons _ _ _ _ _ _ ?o3 (Obs.cons _ _ _ _ _ _ ?o4 (Obs.cons _ _ _ _ _ _ ?o5 (Obs.cons _ _ _ _ _ _ ?o6 (Obs.cons _ _ _ _ _ _ ?o7 (Obs.cons _ _ _ _ _ _ ?o8 (Obs.cons _ _ _ _ _ _ ?o9 (Obs.cons _ _ _ _ _ _ ?o10 (Obs.nil _ _ _ _ _ _)))))))))))
        case o0 =>
          intro vs W hw hd K hK
          go_simp
          exact hK.out _ _ rfl (Below.refl _ _)
        case o1 =>
          intro vs W hw hd K hK
          have h0 : vs 0 = .pointer (some ⟨w.heap.size + 1, 1, none⟩) := hd 0 (by kernel_rfl)
          obtain ⟨p0, p1⟩ := mcells2 (Hab.out W hw)
          simp only [Nat.reduceAdd, h0] at hK ⊢
          go_simp
          exact hK.out _ _ rfl (Below.refl _ _)
        case o2 =>
          intro vs W hw hd K hK
          go_simp
          exact hK.out _ _ rfl (Below.refl _ _)
        case o3 =>
          intro vs W hw hd K hK
          have h1 : vs 1 = .slice (some ⟨ga, 0, none⟩) n ca := hd 1 (by kernel_rfl)
          have h2 : vs 2 = .int .i64 (i : Int) := hd 2 (by kernel_rfl)
          simp only [Nat.reduceAdd, h1, h2] at hK ⊢
          go_simp
          exact hK.out _ _ rfl (Below.refl _ _)
        case o4 =>
          intro vs W hw hd K hK
          have h3 : vs 3 = .pointer (some ⟨ga, i, none⟩) := hd 3 (by kernel_rfl)
          have c1 := (HCa.out W hw)
          simp only [Nat.reduceAdd, h3] at hK ⊢
          go_simp
          exact hK.out _ _ rfl (Below.refl _ _)
        case o5 =>
          intro vs W hw hd K hK
          go_simp
          exact hK.out _ _ rfl (Below.refl _ _)
        case o6 =>
          intro vs W hw hd K hK
          have h5 : vs 5 = .pointer (some ⟨w.heap.size + 1 + 1, 1, none⟩) := hd 5 (by kernel_rfl)
          obtain ⟨q0, q1⟩ := mcells2 (Hbb.out W hw)
          simp only [Nat.reduceAdd, h5] at hK ⊢
          go_simp
          exact hK.out _ _ rfl (Below.refl _ _)
        case o7 =>
          intro vs W hw hd K hK
          go_simp
          exact hK.out _ _ rfl (Below.refl _ _)
        case o8 =>
          intro vs W hw hd K hK
          have h6 : vs 6 = .slice (some ⟨gb, 0, none⟩) n cb := hd 6 (by kernel_rfl)
          have h7 : vs 7 = .int .i64 (i : Int) := hd 7 (by kernel_rfl)
          simp only [Nat.reduceAdd, h6, h7] at hK ⊢
          go_simp
          exact hK.out _ _ rfl (Below.refl _ _)
        case o9 =>
          intro vs W hw hd K hK
          have h8 : vs 8 = .pointer (some ⟨gb, i, none⟩) := hd 8 (by kernel_rfl)
          have c1 := (HCb.out W hw)
          simp only [Nat.reduceAdd, h8] at hK ⊢
          go_simp
          exact hK.out _ _ rfl (Below.refl _ _)
        case o10 =>
          intro vs W hw hd K hK
          have h4 : vs 4 = .slice va la vca := hd 4 (by kernel_rfl)
          have h9 : vs 9 = .slice vb lb vcb := hd 9 (by kernel_rfl)
          simp only [Nat.reduceAdd, h4, h9] at hK ⊢
          go_simp
          refine (cM.out W hw).mono ?_
          rintro e W' ⟨rfl, hb'⟩
          exact hK.out _ _ rfl hb'
      case hfin =>
        intro vs W hw hd
        have h10 : vs 10 = .bool mt := hd 10 (by decide)
        simp only [Nat.reduceAdd, h10]
        obtain ⟨k0, k1, k2, k3⟩ := kcells4 (HKx.out W hw)
        have HBn := Lib.hid (HBa.out W hw)
        clear hd h10 hw Hab Hbb HBa HCa HCb cM HKx
        have hst := HX1.out
        cases mt
        · rw [if_neg (by decide), Int.add_zero] at hst
          subst hst
          go_wp2
          go_roundw
          case rel => exact ⟨i + 1, by go_num, by omega, by rw [HZ1.out], HBn.out⟩
          case measure => simp [intOf]; omega
        · rw [if_pos rfl] at hst
          have hzb : -9223372036854775808 ≤ z + kw ∧ z + kw ≤ 9223372036854775807 := by omega
          subst hst
          go_wp2
          go_roundw
          case rel => exact ⟨i + 1, by go_num, by omega, by rw [HZ1.out]; try go_num, HBn.out⟩
          case measure => simp [intOf]; omega
    · obtain rfl : i = n := by omega
      rw [HSe.out]
      have HG := Lib.hid (HBw.out wq HBr.out)
      go_wp2
      first | exact ⟨rfl, HG.out⟩ | (go_ret; exact ⟨rfl, HG.out⟩)

set_option maxHeartbeats 32000000 in
set_option maxRecDepth 100000 in
theorem pScore_any (m : MRule) (mv : Value) (a b : Rec) (ua ub : Value) (w : World) (hE : Env w) (hm : KL mv m.keys w) (ho : okM m) (hN : okN m) (ha : FL ua a.fields w) (hb : FL ub b.fields w) (hoa : okR a) (hob : okR b) :
    Calls Tryz.prog 19 #[MV m mv, RV a ua, RV b ub] w fun e w' => e = .returned (.int .i64 (scoreM m a b)) ∧ Below w.heap.size w w' := by
  obtain ⟨W0, hW0⟩ : ∃ W0, ((w.alloc (.cells #[mv, .int .i64 m.need] 24)).alloc (.cells #[.int .i64 a.id, .int .i64 a.ver, .int .i64 a.kind, .string (S a.lang), ua] 33)).alloc (.cells #[.int .i64 b.id, .int .i64 b.ver, .int .i64 b.kind, .string (S b.lang), ub] 33) = W0 := ⟨_, rfl⟩
  have b0 : Below w.heap.size w W0 := by rw [← hW0]; exact (((Below.refl w.heap.size w).alloc (Nat.le_refl _) _).alloc (by simp) _).alloc (by simp; omega) _
  have hsz0 : W0.heap.size = w.heap.size + 3 := by rw [← hW0]; simp
  have hM : W0.heap[w.heap.size]? = some (.cells #[mv, .int .i64 m.need] 24 (0, 0)) := by
    rw [← hW0]
    exact ((Below.heap_alloc _ _ _ (by simp; omega)).trans (Below.heap_alloc _ _ _ (by simp))).trans (heap_alloc_new w _)
  have hA : W0.heap[w.heap.size + 1]? = some (.cells #[.int .i64 a.id, .int .i64 a.ver, .int .i64 a.kind, .string (S a.lang), ua] 33 (0, 0)) := by
    rw [← hW0]
    refine (Below.heap_alloc _ _ _ (by simp)).trans ?_
    have := heap_alloc_new (w.alloc (.cells #[mv, .int .i64 m.need] 24)) (.cells #[.int .i64 a.id, .int .i64 a.ver, .int .i64 a.kind, .string (S a.lang), ua] 33)
    simpa using this
  have hB : W0.heap[w.heap.size + 1 + 1]? = some (.cells #[.int .i64 b.id, .int .i64 b.ver, .int .i64 b.kind, .string (S b.lang), ub] 33 (0, 0)) := by
    rw [← hW0]
    have := heap_alloc_new ((w.alloc (.cells #[mv, .int .i64 m.need] 24)).alloc (.cells #[.int .i64 a.id, .int .i64 a.ver, .int .i64 a.kind, .string (S a.lang), ua] 33)) (.cells #[.int .i64 b.id, .int .i64 b.ver, .int .i64 b.kind, .string (S b.lang), ub] 33)
    simpa using this
  have HMx := Lib.hid (fun (W : World) (h : Below W0.heap.size W0 W) => (h.block w.heap.size (by omega)).trans hM)
  have HAx := Lib.hid (fun (W : World) (h : Below W0.heap.size W0 W) => (h.block (w.heap.size + 1) (by omega)).trans hA)
  have HBx := Lib.hid (fun (W : World) (h : Below W0.heap.size W0 W) => (h.block (w.heap.size + 1 + 1) (by omega)).trans hB)
  have HBw := Lib.hid (fun (W : World) (h : Below W0.heap.size W0 W) => b0.trans (h.mono b0.size))
  have cA := Lib.hid (fun (W : World) (h : Below W0.heap.size W0 W) => (profileOf_any m mv a ua W (hE.after (HBw.out W h)) (hm.after (HBw.out W h)) ho.len hN (ha.after (HBw.out W h)) hoa).mono (fun e W' (hh : ∃ kv, e = .returned (PV a.id kv) ∧ New W.heap.size (KK kv (profK m a)) W' ∧ Below W.heap.size W W') => show ∃ kv, e = .returned (.agg #[.int .i64 a.id, kv]) ∧ KK kv (profK m a) W' ∧ Below W.heap.size W W' from by
    obtain ⟨kv, h1, h2, h3⟩ := hh
    exact ⟨kv, h1, h2.here, h3⟩))
  have cB := Lib.hid (fun (W : World) (h : Below W0.heap.size W0 W) => (profileOf_any m mv b ub W (hE.after (HBw.out W h)) (hm.after (HBw.out W h)) ho.len hN (hb.after (HBw.out W h)) hob).mono (fun e W' (hh : ∃ kv, e = .returned (PV b.id kv) ∧ New W.heap.size (KK kv (profK m b)) W' ∧ Below W.heap.size W W') => show ∃ kv, e = .returned (.agg #[.int .i64 b.id, kv]) ∧ KK kv (profK m b) W' ∧ Below W.heap.size W W' from by
    obtain ⟨kv, h1, h2, h3⟩ := hh
    exact ⟨kv, h1, h2.here, h3⟩))
  have cS := Lib.hid (fun (ka kb : Value) (W : World) (h : Below W0.heap.size W0 W) (h1 : KK ka (profK m a) W) (h2 : KK kb (profK m b) W) => pscore_any m mv a b a.id b.id ka kb W (hm.after (HBw.out W h)) ho h1 h2)
  obtain ⟨mx, mc, hmv, -, -⟩ : ∃ a cap, mv = .slice a m.keys.length cap ∧ m.keys.length ≤ cap ∧ cap ≤ maxLen := by
    obtain ⟨a, cap, h1, h2, h3, _⟩ := hm
    exact ⟨a, cap, h1, h2, h3⟩
  obtain ⟨a4, a6, hua, -, -⟩ := ha.length
  obtain ⟨b4, b6, hub, -, -⟩ := hb.length
  have HW0 := Lib.hid hW0
  unfold MV RV PV at *
  subst hmv hua hub
  clear hW0 hM hA hB b0 hsz0 ho hm ha hb hoa hob hE hN
  generalize hss : scoreM m a b = sc at *
  generalize hKA : profK m a = KA at *
  generalize hKB : profK m b = KB at *
  clear hss hKA hKB
  generalize m.keys.length = mn at *
  generalize m.need = need at *
  generalize a.fields.length = a5 at *
  generalize b.fields.length = b5 at *
  generalize a.id = a0 at *
  generalize a.ver = a1 at *
  generalize a.kind = a2 at *
  generalize S a.lang = a3 at *
  generalize b.id = b0 at *
  generalize b.ver = b1 at *
  generalize b.kind = b2 at *
  generalize S b.lang = b3 at *
  go_enter Tryz.func19, Tryz.ntmps19
  go_upto_region 1 with fail
  rw [HW0.out]
  clear HW0
  apply wp_region_inv (V := [.eq (.agg #[.slice mx mn mc, .int .i64 need]), .eq (.agg #[.slice mx mn mc, .int .i64 need]), .eq (.agg #[.int .i64 a0, .int .i64 a1, .int .i64 a2, .string a3, .slice a4 a5 a6]), SP.pv15 a0 KA, .eq (.agg #[.slice mx mn mc, .int .i64 need]), .eq (.agg #[.int .i64 b0, .int .i64 b1, .int .i64 b2, .string b3, .slice b4 b5 b6]), SP.pv15 b0 KB, .eq (.int .i64 sc), .eq (.int .i64 sc)])
  case hm => kernel_rfl
  case hd => kernel_rfl
  case hb => kernel_rfl
  case hA =>
    intro vs
    simp only [puts, Act.put, List.setIfInBounds_toArray, List.set_cons_zero, List.set_cons_succ]
    exact rfl
  case hob =>
    refine Obs.cons _ _ _ _ _ _ ?o0 (Obs.cons _ _ _ _ _ _ ?o1 (Obs.cons _ _ _ _ _ _ ?o2 (Obs.cons _ _ _ _ _ _ ?o3 (Obs.cons _ _ _ _ _ _ ?o4 (Obs.cons _ _ _ _ _ _ ?o5 (Obs.cons _ _ _ _ _ _ ?o6 (Obs.cons _ _ _ _ _ _ ?o7 (Obs.cons _ _ _ _ _ _ ?o8 (Obs.nil _ _ _ _ _ _)))))))))
    case o0 =>
      intro vs W hw hd K hK
      obtain ⟨m0, m1⟩ := mcells2 (HMx.out W hw)
      go_simp
      exact hK.out _ _ rfl (Below.refl _ _)
    case o1 =>
      intro vs W hw hd K hK
      obtain ⟨m0, m1⟩ := mcells2 (HMx.out W hw)
      go_simp
      exact hK.out _ _ rfl (Below.refl _ _)
    case o2 =>
      intro vs W hw hd K hK
      obtain ⟨y0, y1, y2, y3, y4⟩ := rcells5 (HAx.out W hw)
      go_simp
      exact hK.out _ _ rfl (Below.refl _ _)
    case o3 =>
      intro vs W hw hd K hK
      have h1 : vs 1 = .agg #[.slice mx mn mc, .int .i64 need] := hd 1 (by kernel_rfl)
      have h2 : vs 2 = .agg #[.int .i64 a0, .int .i64 a1, .int .i64 a2, .string a3, .slice a4 a5 a6] := hd 2 (by kernel_rfl)
      simp only [Nat.reduceAdd, h1, h2] at hK ⊢
      go_simp
      refine (cA.out W hw).mono ?_
      rintro e W' ⟨kv, rfl, hk, hb'⟩
      exact hK.out _ _ ⟨kv, rfl, hk⟩ hb'
    case o4 =>
      intro vs W hw hd K hK
      obtain ⟨m0, m1⟩ := mcells2 (HMx.out W hw)
      go_simp
      exact hK.out _ _ rfl (Below.refl _ _)
    case o5 =>
      intro vs W hw hd K hK
      obtain ⟨z0, z1, z2, z3, z4⟩ := rcells5 (HBx.out W hw)
      go_simp
      exact hK.out _ _ rfl (Below.refl _ _)
    case o6 =>
      intro vs W hw hd K hK
      have h4 : vs 4 = .agg #[.slice mx mn mc, .int .i64 need] := hd 4 (by kernel_rfl)
      have h5 : vs 5 = .agg #[.int .i64 b0, .int .i64 b1, .int .i64 b2, .string b3, .slice b4 b5 b6] := hd 5 (by kernel_rfl)
      simp only [Nat.reduceAdd, h4, h5] at hK ⊢
      go_simp
      refine (cB.out W hw).mono ?_
      rintro e W' ⟨kv, rfl, hk, hb'⟩
      exact hK.out _ _ ⟨kv, rfl, hk⟩ hb'
    case o7 =>
      intro vs W hw hd K hK
      have h0 : vs 0 = .agg #[.slice mx mn mc, .int .i64 need] := hd 0 (by kernel_rfl)
      obtain ⟨ka, e3, hka⟩ : ∃ kv, vs 3 = .agg #[.int .i64 a0, kv] ∧ KK kv KA W := hd 3 (by kernel_rfl)
      obtain ⟨kb, e6, hkb⟩ : ∃ kv, vs 6 = .agg #[.int .i64 b0, kv] ∧ KK kv KB W := hd 6 (by kernel_rfl)
      simp only [Nat.reduceAdd, h0, e3, e6] at hK ⊢
      go_simp
      refine (cS.out ka kb W hw hka hkb).mono ?_
      rintro e W' ⟨rfl, hb'⟩
      exact hK.out _ _ rfl hb'
    case o8 =>
      intro vs W hw hd K hK
      have h7 : vs 7 = .int .i64 sc := hd 7 (by kernel_rfl)
      simp only [Nat.reduceAdd, h7] at hK ⊢
      go_simp
      exact hK.out _ _ rfl (Below.refl _ _)
  case hfin =>
    intro vs W hw hd
    have h8 : vs 8 = .int .i64 sc := hd 8 (by decide)
    simp only [Nat.reduceAdd, h8]
    have HG := Lib.hid (HBw.out W hw)
    clear hd h8 hw
    go_wp2
    first | exact ⟨rfl, HG.out⟩ | (go_ret; exact ⟨rfl, HG.out⟩)
end

end Go.Proofs.YtfjfpefpdlecbaaGreatDoor
