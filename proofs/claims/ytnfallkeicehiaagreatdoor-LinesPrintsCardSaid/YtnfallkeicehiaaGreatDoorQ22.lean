/- Merged: R11I, R11J, R11K. -/
import Derived.Test.YtnfallkeicehiaaGreatDoorQ21
namespace Go.Proofs.YtnfallkeicehiaaGreatDoor

section
open Go.RowKit Go.PlainAid
theorem results_cell_two {P : Program} {fn : Func} {p u v : Tmp} {tp : TypeId} (h : fn.results = #[.cell p tp, .tmp u, .tmp v]) (tmps : Array Value) (w : World) (g : Nat) (tg : TypeId) (cs : Array Value) (fr : Nat × Nat) (d : TypeDesc)
    (hp : tmps.getD p undef = .pointer (some ⟨g, 0, none⟩)) (hg : w.heap[g]? = some (.cells cs tg fr))
    (hu : P.underlying tp = some d) (hd : (match d with | .struct _ | .array _ _ => true | _ => false) = true) (hi : (P.info? tp).map (·.size) = some cs.size) :
    (results fn tmps).run P w = .ok (.tuple #[.agg cs, tmps.getD u undef, tmps.getD v undef]) w := by
  have e1 : (results fn tmps).run P w = ((asAddr (tmps.getD p undef)).run P w).andThen fun a w1 => ((loadVar tp a).run P w1).andThen fun x w2 => .ok (.tuple #[x, tmps.getD u undef, tmps.getD v undef]) w2 := by
    simp only [results, h]
    simp [Sem.run_bind, Result.andThen]
  rw [e1, hp]
  simp [asAddr, run_loadVar_row w g tg tp cs fr d hg hu hd hi, Result.andThen]
theorem rec_drew {w W : World} {c0 c1 c2 c3 c4 : Value} (hR : W.heap[w.heap.size]? = some (.cells #[.int .i64 0, .int .i64 0, .int .i64 0, .string ⟨#[]⟩, .slice none 0 0] 24 (0, 0))) (hB : Below w.heap.size w W) :
    (setR5 W w.heap.size c0 c1 c2 c3 c4).drew.heap[w.heap.size]? = some (.cells #[c0, c1, c2, c3, c4] 24 (0, 0)) ∧ Below w.heap.size w (setR5 W w.heap.size c0 c1 c2 c3 c4).drew := by
  have h1 := rec_set5 (x0 := c0) (x1 := c1) (x2 := c2) (x3 := c3) (x4 := c4) hR
  have h2 := rec_below (x0 := c0) (x1 := c1) (x2 := c2) (x3 := c3) (x4 := c4) hB
  generalize setR5 W w.heap.size c0 c1 c2 c3 c4 = V at h1 h2 ⊢
  exact ⟨h1, h2.drew⟩

set_option maxHeartbeats 16000000 in
set_option maxRecDepth 100000 in
theorem refParse11_any (l : List UInt8) (hl : l.length ≤ 1000000) (q : Rec) (m : Int) (er : Int) (hp : parX l = (q, m, er)) (w : World) :
    Calls Tryz.prog 12 #[.string (S l)] w fun e w' => ∃ u, e = .returned (.tuple #[RV q u, .int .i64 m, .int .i64 er]) ∧ New w.heap.size (FL u q.fields) w' ∧ Below w.heap.size w w' := by
  obtain ⟨Q, hQ⟩ : ∃ Q, (fun (e : Ending) (w' : World) => ∃ u, e = .returned (.tuple #[RV q u, .int .i64 m, .int .i64 er]) ∧ New w.heap.size (FL u q.fields) w' ∧ Below w.heap.size w w') = Q := ⟨_, rfl⟩
  rw [hQ]
  obtain ⟨q1, t1, a, e1, ho⟩ : ∃ q t a e, oneP l 1 = (q, t, a, e) := ⟨_, _, _, _, rfl⟩
  unfold parX at hp
  rw [ho] at hp
  simp only at hp
  have HErr : RowKit.Hid (∀ e : Int, (e1 ≠ 0 ∧ e = e1) ∨ (e1 = 0 ∧ t1 ≠ [] ∧ e = 3) → ∀ W, Below w.heap.size w W → Q (.returned (.tuple #[.agg #[.int .i64 0, .int .i64 0, .int .i64 0, .string ⟨#[]⟩, .slice none 0 0], .int .i64 (a : Int), .int .i64 e])) W) := by
    intro e h W hW
    rcases h with ⟨h1, rfl⟩ | ⟨rfl, h2, rfl⟩
    · rw [if_pos h1] at hp
      obtain ⟨rfl, h3⟩ := Prod.mk.inj hp
      obtain ⟨rfl, rfl⟩ := Prod.mk.inj h3
      rw [← hQ]
      exact ⟨.slice none 0 0, rfl, fl_none _ _, hW⟩
    · rw [if_neg (fun h => h rfl), if_pos h2] at hp
      obtain ⟨rfl, h3⟩ := Prod.mk.inj hp
      obtain ⟨rfl, rfl⟩ := Prod.mk.inj h3
      rw [← hQ]
      exact ⟨.slice none 0 0, rfl, fl_none _ _, hW⟩
  have HYes : RowKit.Hid (e1 = 0 → t1 = [] → ∀ u W, New w.heap.size (FL u q1.fields) W → Below w.heap.size w W → Q (.returned (.tuple #[.agg #[.int .i64 q1.id, .int .i64 q1.ver, .int .i64 q1.kind, .string (S q1.lang), u], .int .i64 0, .int .i64 0])) W) := by
    rintro rfl rfl u W hN hW
    rw [if_neg (fun h => h rfl), if_neg (fun h => h rfl)] at hp
    obtain ⟨rfl, h3⟩ := Prod.mk.inj hp
    obtain ⟨rfl, rfl⟩ := Prod.mk.inj h3
    rw [← hQ]
    exact ⟨u, rfl, hN, hW⟩
  clear hp hQ
  obtain ⟨W0, hW0⟩ : ∃ W0, w.alloc (.cells #[.int .i64 0, .int .i64 0, .int .i64 0, .string ⟨#[]⟩, .slice none 0 0] 24) = W0 := ⟨_, rfl⟩
  have b0 : Below w.heap.size w W0 := by rw [← hW0]; exact (Below.refl w.heap.size w).alloc (Nat.le_refl _) _
  have hR0 : W0.heap[w.heap.size]? = some (.cells #[.int .i64 0, .int .i64 0, .int .i64 0, .string ⟨#[]⟩, .slice none 0 0] 24 (0, 0)) := by rw [← hW0]; exact heap_alloc_new w _
  have hs0 : W0.heap.size = w.heap.size + 1 := by rw [← hW0]; simp
  have cO : Calls Tryz.prog 31 #[.string (S l), .agg #[.int .i64 0, .int .i64 1]] W0 fun e w' => ∃ (u : Value) (n : Nat), e = .returned (.tuple #[RV q1 u, .agg #[.int .i64 (n : Int), .int .i64 (a : Int)], .int .i64 e1]) ∧ New W0.heap.size (FL u q1.fields) w' ∧ Below W0.heap.size W0 w' ∧ n ≤ l.length ∧ l.drop n = t1 :=
    refOne_any l hl 0 1 (Nat.zero_le _) (by decide) q1 t1 a e1 (by rw [List.drop_zero]; exact ho) W0
  unfold RV at cO
  have CO := Lib.hid cO
  have HW0 := Lib.hid hW0
  obtain ⟨z, hz⟩ : ∃ z, l.length = z := ⟨_, rfl⟩
  have hsz : (S l).size = z := by rw [S_size, hz]
  have HZ := Lib.hid hz
  rw [hz] at hl
  clear hW0 cO ho hz
  generalize S l = st at *
  go_enter Tryz.func12, Tryz.ntmps12
  go_upto_region 1 with fail
  rw [HW0.out]
  go_wp2_with fail
  refine CO.out.mono ?_
  rintro e w1 ⟨u, n, rfl, hn, hb, hnl, hnd⟩
  obtain ⟨ua, uc, rfl, -, -⟩ := hn.here.length
  obtain ⟨ul, hul⟩ : ∃ x, q1.fields.length = x := ⟨_, rfl⟩
  rw [hul] at hn ⊢
  rw [HZ.out] at hnl
  have hbx := heap_alloc_new w1 (.cells #[.int .i64 q1.id, .int .i64 q1.ver, .int .i64 q1.kind, .string (S q1.lang), .slice ua ul uc] 24)
  have hA1 := (Below.refl w1.heap.size w1).alloc (Nat.le_refl _) (.cells #[.int .i64 q1.id, .int .i64 q1.ver, .int .i64 q1.kind, .string (S q1.lang), .slice ua ul uc] 24)
  obtain ⟨V1, hV1⟩ : ∃ W, w1.alloc (.cells #[.int .i64 q1.id, .int .i64 q1.ver, .int .i64 q1.kind, .string (S q1.lang), .slice ua ul uc] 24) = W := ⟨_, rfl⟩
  rw [hV1] at hbx hA1
  have hs1 : V1.heap.size = w1.heap.size + 1 := by rw [← hV1]; simp
  have hby := heap_alloc_new V1 (.cells #[.int .i64 (n : Int), .int .i64 (a : Int)] 67)
  have hA2 := (Below.refl V1.heap.size V1).alloc (Nat.le_refl _) (.cells #[.int .i64 (n : Int), .int .i64 (a : Int)] 67)
  obtain ⟨V2, hV2⟩ : ∃ W, V1.alloc (.cells #[.int .i64 (n : Int), .int .i64 (a : Int)] 67) = W := ⟨_, rfl⟩
  rw [hV2] at hby hA2
  rw [hs1] at hby
  have hbx2 := (hA2.block w1.heap.size (by omega)).trans hbx
  have hB2 := hb.trans ((hA1.trans (hA2.mono hA1.size)).mono hb.size)
  have hR2 := (hB2.block w.heap.size (by omega)).trans hR0
  have hBw := b0.trans (hB2.mono b0.size)
  have hN2 := (hn.after hA1).after hA2
  have HN2 := Lib.hid hN2
  have HBw := Lib.hid hBw
  have HR2 := Lib.hid hR2
  have HX2 := Lib.hid hbx2
  have HY2 := Lib.hid hby
  have HV1 := Lib.hid hV1
  have HV2 := Lib.hid hV2
  have HS0 := Lib.hid hs0
  have hge : w.heap.size + 1 ≤ w1.heap.size := by have := hb.size; omega
  obtain ⟨bx, hbb⟩ : ∃ b, w1.heap.size = b := ⟨_, rfl⟩
  rw [hbb] at HX2 HY2 hge
  have hne1 : ¬ (w.heap.size = bx + 1) := by omega
  have hne2 : ¬ (bx + 1 = w.heap.size) := by omega
  have HBb := Lib.hid hbb
  clear hn hb hbx hA1 hV1 hs1 hby hA2 hV2 hbx2 hB2 hR2 hBw hN2 hbb hul CO b0 hR0 hs0
  go_upto_region 2 with fail
  rw [HV1.out, HV2.out, HBb.out]
  by_cases h0 : e1 = 0
  · subst h0
    by_cases hnz : n = z
    · have ht : t1 = [] := by rw [← hnd]; exact List.drop_of_length_le (by rw [HZ.out, hnz]; exact Nat.le_refl _)
      have hyes := HYes.out rfl ht
      have u1 : ((n : Int) != (z : Int)) = false := by rw [hnz]; simp
      have hfin := Lib.hid (rec_set5 (x0 := .int .i64 q1.id) (x1 := .int .i64 q1.ver) (x2 := .int .i64 q1.kind) (x3 := .string (S q1.lang)) (x4 := .slice ua ul uc) HR2.out)
      have hb := Lib.hid (rec_below (x0 := .int .i64 q1.id) (x1 := .int .i64 q1.ver) (x2 := .int .i64 q1.kind) (x3 := .string (S q1.lang)) (x4 := .slice ua ul uc) HBw.out)
      have hNw : RowKit.Hid (New w.heap.size (FL (.slice ua ul uc) q1.fields) (setR5 V2 w.heap.size (.int .i64 q1.id) (.int .i64 q1.ver) (.int .i64 q1.kind) (.string (S q1.lang)) (.slice ua ul uc))) :=
        (HN2.out.on (by rw [rec_size]; exact Nat.le_refl _) (fun i hi _ => rec_other i (by have := HS0.out; omega))).mono (by have := HS0.out; omega)
      unfold setR5 at hfin hb hNw
      obtain ⟨⟨x0, x1, x2, x3, x4⟩, -⟩ := rcells HX2.out
      obtain ⟨⟨r0, r1, r2, r3, r4⟩, g0, g1, g2, g3, g4⟩ := rcells HR2.out
      obtain ⟨⟨p0, p1⟩, -⟩ := pcells HY2.out
      subst hnz
      clear ht hnd HErr HYes
      go_wp2
      (try simp only [Exit.inBlock, Exit.then])
      refine bodyPost_ret (results_cell_two rfl _ _ w.heap.size _ _ _ _ rfl hfin.out Tryz.underlying24 rfl (by kernel_rfl)) rfl ?_
      exact hyes _ _ hNw.out hb.out
    · have ht : t1 ≠ [] := by
        rw [← hnd]
        intro e
        have := congrArg List.length e
        rw [List.length_drop, HZ.out] at this
        simp at this
        omega
      have u1 : ((n : Int) != (z : Int)) = true := by simp; omega
      clear hnd hnz
      have hno := HErr.out 3 (.inr ⟨rfl, ht, rfl⟩)
      obtain ⟨fD1, fD2⟩ := rec_drew (c0 := .int .i64 0) (c1 := .int .i64 0) (c2 := .int .i64 0) (c3 := .string ⟨#[]⟩) (c4 := .slice Option.none 0 0) HR2.out HBw.out
      have FD1 := Lib.hid fD1
      have FD2 := Lib.hid fD2
      unfold setR5 at FD1 FD2
      obtain ⟨⟨r0, r1, r2, r3, r4⟩, g0, g1, g2, g3, g4⟩ := rcells HR2.out
      obtain ⟨⟨p0, p1⟩, -⟩ := pcells HY2.out
      clear fD1 fD2
      go_upto_region 5 with fail
      go_region
      go_wp2
      (try simp only [Exit.inBlock, Exit.then])
      refine bodyPost_ret (results_cell_two rfl _ _ w.heap.size _ _ _ _ rfl FD1.out Tryz.underlying24 rfl (by kernel_rfl)) rfl ?_
      exact hno _ FD2.out
  · have u1 : (e1 != 0) = true := by simpa using h0
    clear hnd
    have hno := HErr.out e1 (.inl ⟨h0, rfl⟩)
    obtain ⟨fD1, fD2⟩ := rec_drew (c0 := .int .i64 0) (c1 := .int .i64 0) (c2 := .int .i64 0) (c3 := .string ⟨#[]⟩) (c4 := .slice Option.none 0 0) HR2.out HBw.out
    have FD1 := Lib.hid fD1
    have FD2 := Lib.hid fD2
    unfold setR5 at FD1 FD2
    obtain ⟨⟨r0, r1, r2, r3, r4⟩, g0, g1, g2, g3, g4⟩ := rcells HR2.out
    obtain ⟨⟨p0, p1⟩, -⟩ := pcells HY2.out
    clear fD1 fD2
    go_upto_region 3 with fail
    go_region
    go_wp2
    (try simp only [Exit.inBlock, Exit.then])
    refine bodyPost_ret (results_cell_two rfl _ _ w.heap.size _ _ _ _ rfl FD1.out Tryz.underlying24 rfl (by kernel_rfl)) rfl ?_
    exact hno _ FD2.out
end

section
open Go.RowKit Go.PlainAid
theorem text_lines (r : Rec) : r.fields.length + 2 ≤ (textX r).length := by
  have h : ∀ F : List Fld, F.length ≤ (bodyF F).length := by
    intro F
    induction F with
    | nil => exact Nat.zero_le _
    | cons f F ih =>
      have e : (bodyF (f :: F)).length = (lineL f).length + 1 + (bodyF F).length := by simp [bodyF]; omega
      rw [e, List.length_cons]
      omega
  have := h r.fields
  unfold textX
  simp only [List.length_append, List.length_cons, List.length_nil]
  omega
/-- A row of records of the call's own; their fields lie in blocks behind block b. -/
def RB2 (B b : Nat) (v : Value) (L : List Rec) (w : World) : Prop :=
  ∃ us : List Value, us.length = L.length ∧ w.ownsRow B 24 5 v L.length (cellsR L us) ∧ v.ownBlock ≠ some b ∧ ∀ i, i < L.length → NewX (b + 1) v.ownBlock (FL (us.getD i .nilIface) (L.getD i rec0).fields) w
theorem RB2.empty (w : World) (B b : Nat) (h : B ≤ w.heap.size) (hb : b ≠ w.heap.size) : RB2 B b (.slice (some ⟨w.heap.size, 0, none⟩) 0 0) [] (w.alloc (.cells #[] 24)) :=
  ⟨[], rfl, World.ownsRow_made w #[] 0 h (Nat.zero_le _) rfl, fun e => hb (Option.some.inj e).symm, fun i hi => by cases hi⟩
theorem RB2.after {B b : Nat} {v : Value} {L : List Rec} {w w' : World} (h : RB2 B b v L w) (hb : Below w.heap.size w w') : RB2 B b v L w' := by
  obtain ⟨us, h1, h2, h3, h4⟩ := h
  exact ⟨us, h1, own_after h2 hb, h3, fun i hi => (h4 i hi).on hb.size (fun j _ hj _ => hb.block j hj)⟩
theorem own_setn {w : World} {B e size n : Nat} {v : Value} {xs : List Value} (h : w.ownsRow B e size v n xs) (p : Addr) (u : Value) (hp : v.ownBlock ≠ some p.block) : (w.setCell p u).ownsRow B e size v n xs := by
  refine ⟨h.1, ?_⟩
  rcases h.2 with hn | ⟨g, cap, cur, rfl, hB', hg, rest⟩
  · exact .inl hn
  · exact .inr ⟨g, cap, cur, rfl, hB', (heap_setn w p u g (fun e => hp (by rw [← e]; rfl))).trans hg, rest⟩
theorem RB2.put {B b : Nat} {v : Value} {L : List Rec} {w : World} (h : RB2 B b v L w) (x y : Value) : RB2 B b v L (setP2 w b x y) := by
  obtain ⟨us, h1, h2, h3, h4⟩ := h
  exact ⟨us, h1, own_setn (own_setn h2 ⟨b, 0, none⟩ x h3) ⟨b, 1, none⟩ y h3, h3, fun i hi => (h4 i hi).on (by rw [pl_size]; exact Nat.le_refl _) (fun j hj _ _ => pl_other j (by omega))⟩
theorem RB2.rl {B b : Nat} {v : Value} {L : List Rec} {w : World} (h : RB2 B b v L w) : RL v L w := by
  obtain ⟨us, hl, hown, _, hq⟩ := h
  exact row_rl hl hown fun i hi => (hq i hi) w (Nat.le_refl _) (fun _ _ _ _ => rfl)
theorem RB2.new {B b : Nat} {v : Value} {L : List Rec} {w : World} (h : RB2 B b v L w) (hb : B ≤ b) : New B (RL v L) w := fun w' hs hbl => by
  obtain ⟨us, h1, h2, h3, h4⟩ := h
  exact RB2.rl (B := B) (b := b) ⟨us, h1, own_same h2 hbl, h3, fun i hi => (h4 i hi).on hs (fun j hj hk _ => hbl j (by omega) hk)⟩
theorem RB2.open {B b : Nat} {v : Value} {L : List Rec} {w : World} (h : RB2 B b v L w) (hlt : b < w.heap.size) :
    ∃ xs : List Value, w.ownsRow B 24 5 v L.length xs ∧ ∀ (f : Rec) (u v' : Value) (w' : World), NewX (b + 1) v.ownBlock (FL u f.fields) w → w.grownBy w' v.ownBlock → (v'.ownBlock = v.ownBlock ∨ v'.ownBlock = some w.heap.size) →
      w'.ownsRow B 24 5 v' (L.length + 1) (xs ++ encR f u) → RB2 B b v' (L ++ [f]) w' := by
  obtain ⟨us, hl, hown, hob, hq⟩ := h
  refine ⟨_, hown, fun f u v' w' hu hg hb hown' => ⟨us ++ [u], by rw [List.length_append, List.length_append, hl]; rfl, ?_, ?_, fun i hi => ?_⟩⟩
  · rw [cellsR_snoc L us f u hl, List.length_append]
    exact hown'
  · rcases hb with hb | hb
    · rw [hb]; exact hob
    · rw [hb]
      intro e
      have := Option.some.inj e
      omega
  · have hmv : ∀ {P : World → Prop}, NewX (b + 1) v.ownBlock P w → NewX (b + 1) v'.ownBlock P w' := fun hp => hp.move hg.size (fun j _ hk hne => hg.block j hk hne) (hb.imp id fun h => ⟨_, h, Nat.le_refl _⟩)
    rw [getD_app, getD_appR, hl]
    by_cases h1 : i < L.length
    · rw [if_pos h1, if_pos h1]; exact hmv (hq i h1)
    · have : i = L.length := by rw [List.length_append] at hi; simp at hi; omega
      subst this
      rw [if_neg h1, if_neg h1, Nat.sub_self]
      exact hmv hu
end

section
open Go.RowKit Go.PlainAid
/-- The offset that a place holds. -/
def plN (b : Nat) (w : World) : Nat := match w.heap[b]? with
  | some (.cells cs _ _) => (intOf (cs.getD 0 undef)).toNat
  | _ => 0
theorem plN_of {w : World} {b : Nat} {n : Nat} {y : Value} (h : w.heap[b]? = some (.cells #[.int .i64 (n : Int), y] 67 (0, 0))) : plN b w = n := by
  unfold plN
  rw [h]
  simp [intOf]

set_option maxHeartbeats 16000000 in
set_option maxRecDepth 100000 in
theorem refParseAll_any (l : List UInt8) (hl : l.length ≤ 1000000) (L : List Rec) (m : Int) (er : Int) (hp : parA l = (L, m, er)) (w : World) :
    Calls Tryz.prog 18 #[.string (S l)] w fun e w' => ∃ v, e = .returned (.tuple #[v, .int .i64 m, .int .i64 er]) ∧ New w.heap.size (RL v L) w' ∧ Below w.heap.size w w' := by
  obtain ⟨Q, hQ⟩ : ∃ Q, (fun (e : Ending) (w' : World) => ∃ v, e = .returned (.tuple #[v, .int .i64 m, .int .i64 er]) ∧ New w.heap.size (RL v L) w' ∧ Below w.heap.size w w') = Q := ⟨_, rfl⟩
  rw [hQ]
  have HErr : RowKit.Hid (∀ n e : Int, parA l = ([], n, e) → ∀ W, Below w.heap.size w W → Q (.returned (.tuple #[.slice none 0 0, .int .i64 n, .int .i64 e])) W) := by
    intro n e h W hW
    rw [h] at hp
    obtain ⟨rfl, h3⟩ := Prod.mk.inj hp
    obtain ⟨rfl, rfl⟩ := Prod.mk.inj h3
    rw [← hQ]
    exact ⟨.slice none 0 0, rfl, fun _ _ _ => RL.nil _, hW⟩
  have HYes : RowKit.Hid (∀ D, parA l = (D, 0, 0) → ∀ v W, New w.heap.size (RL v D) W → Below w.heap.size w W → Q (.returned (.tuple #[v, .int .i64 0, .int .i64 0])) W) := by
    intro D h v W hN hW
    rw [h] at hp
    obtain ⟨rfl, h3⟩ := Prod.mk.inj hp
    obtain ⟨rfl, rfl⟩ := Prod.mk.inj h3
    rw [← hQ]
    exact ⟨v, rfl, hN, hW⟩
  clear hp hQ
  have HOneC := Lib.hid (fun (n : Nat) (hn : n ≤ l.length) (a : Nat) (ha : a ≤ 1000000000) q t b e ho W => refOne_any l hl n a hn ha q t b e ho W)
  obtain ⟨z, hz⟩ : ∃ z, l.length = z := ⟨_, rfl⟩
  have hsz : (S l).size = z := by rw [S_size, hz]
  by_cases hlong : 65536 < z
  · have t1 : decide ((65536 : Int) < (z : Int)) = true := decide_eq_true (by omega)
    have t1n : decide (65536 < z) = true := decide_eq_true hlong
    have hno := HErr.out 0 4 (by unfold parA; rw [if_pos (by omega)])
    clear hlong hz HOneC
    generalize S l = st at *
    go_enter Tryz.func18, Tryz.ntmps18
    go_wp2
    (try refine bodyPost_ret (results_tmp3 rfl _ _ _) rfl ?_)
    exact hno _ (Below.refl _ _)
  have t1 : decide ((65536 : Int) < (z : Int)) = false := decide_eq_false (by omega)
  have t1n : decide (65536 < z) = false := decide_eq_false hlong
  have HPA : RowKit.Hid (parA l = allP (l.drop 0) [] 1) := by
    unfold RowKit.Hid
    unfold parA
    rw [if_neg (by omega), List.drop_zero]
  obtain ⟨W0, hW0⟩ : ∃ W0, (w.alloc (.cells #[] 24)).alloc (.cells #[.int .i64 0, .int .i64 1] 67) = W0 := ⟨_, rfl⟩
  have hs1 : (w.alloc (.cells #[] 24)).heap.size = w.heap.size + 1 := by simp
  have hb1 : Below w.heap.size w (w.alloc (.cells #[] 24)) := (Below.refl _ _).alloc (Nat.le_refl _) _
  have hb2 := (Below.refl (w.alloc (.cells #[] 24)).heap.size (w.alloc (.cells #[] 24))).alloc (Nat.le_refl _) (.cells #[.int .i64 0, .int .i64 1] 67)
  have hR0 := (RB2.empty w w.heap.size (w.heap.size + 1) (Nat.le_refl _) (by omega)).after hb2
  have hX0 := heap_alloc_new (w.alloc (.cells #[] 24)) (.cells #[.int .i64 0, .int .i64 1] 67)
  have hB0 := hb1.trans (hb2.mono hb1.size)
  rw [hs1] at hX0
  rw [hW0] at hR0 hX0 hB0
  have HR0 := Lib.hid hR0
  have HX0 := Lib.hid hX0
  have HB0 := Lib.hid hB0
  have HW0 := Lib.hid hW0
  have HZ := Lib.hid hz
  have hz6 : z ≤ 1000000 := by omega
  obtain ⟨i0, hi0, hz0, hz1, hz2⟩ := info_rec
  have HI := Lib.hid hi0
  have HZ0 := Lib.hid hz0
  have HZ1 := Lib.hid hz1
  have HZ2 := Lib.hid hz2
  clear hW0 hs1 hb1 hb2 hR0 hX0 hB0 hz hlong hl hi0 hz0 hz1 hz2
  generalize S l = st at *
  go_enter Tryz.func18, Tryz.ntmps18
  go_upto_region 5 with fail
  rw [HW0.out]
  go_loopw [5] (fun v5 wr => ∃ (c n a : Nat) (D : List Rec) (ao : Option Addr) (cp : Nat), v5 = .slice ao c cp ∧ D.length = c ∧ c ≤ 64 ∧ n ≤ z ∧ a ≤ n + 1 ∧ RowKit.Hid (parA l = allP (l.drop n) D a) ∧
    RowKit.Hid (wr.heap[w.heap.size + 1]? = some (.cells #[.int .i64 (n : Int), .int .i64 (a : Int)] 67 (0, 0))) ∧ RowKit.Hid (RB2 w.heap.size (w.heap.size + 1) (.slice ao c cp) D wr) ∧ RowKit.Hid (Below w.heap.size w wr)) (fun _ wr => z - plN (w.heap.size + 1) wr)
  case atStart => exact ⟨0, 0, 1, [], _, _, rfl, rfl, by omega, by omega, by omega, HPA, HX0, HR0, HB0⟩
  case round =>
    obtain ⟨c, n, a, D, ao, cp, rfl, hDc, hc64, hn, han, HP, HBx, HR, HB⟩ := hrel
    obtain ⟨⟨p0, p1⟩, -⟩ := pcells HBx.out
    by_cases hnz : n < z
    · have t2 : decide ((n : Int) < (z : Int)) = true := decide_eq_true (by omega)
      have t2n : decide (n < z) = true := decide_eq_true hnz
      have hne : l.drop n ≠ [] := by
        intro e
        have := congrArg List.length e
        rw [List.length_drop, HZ.out] at this
        simp at this
        omega
      by_cases hc : 64 ≤ c
      · have t3 : decide ((64 : Int) ≤ (c : Int)) = true := decide_eq_true (by omega)
        have t3n : decide (64 ≤ c) = true := decide_eq_true hc
        have hno := HErr.out (a : Int) 13 (by rw [HP.out, all_full _ _ _ hne (by rw [hDc]; exact hc)])
        have hbd := Lib.hid HB.out.drew
        clear hne hc
        go_upto_region 7 with fail
        go_region
        go_wp2
        (try simp only [Exit.inBlock, Exit.then])
        (try refine bodyPost_ret (results_tmp3 rfl _ _ _) rfl ?_)
        exact hno _ hbd.out
      · have t3 : decide ((64 : Int) ≤ (c : Int)) = false := decide_eq_false (by omega)
        have t3n : decide (64 ≤ c) = false := decide_eq_false hc
        obtain ⟨q1, t1', a1, e1, ho⟩ : ∃ q t a' e, oneP (l.drop n) a = (q, t, a', e) := ⟨_, _, _, _, rfl⟩
        have cO := HOneC.out n (by rw [HZ.out]; exact hn) a (by omega) q1 t1' a1 e1 ho wr
        unfold RV at cO
        have CO := Lib.hid cO
        have HO := Lib.hid ho
        have HNe := Lib.hid hne
        clear cO ho hne
        go_wp2_with fail
        refine CO.out.mono ?_
        rintro e w1 ⟨u, n1, rfl, hn1, hb1, hnl, hnd⟩
        obtain ⟨ua, uc, rfl, -, -⟩ := hn1.here.length
        rw [HZ.out] at hnl
        have hbx := heap_alloc_new w1 (.cells #[.int .i64 q1.id, .int .i64 q1.ver, .int .i64 q1.kind, .string (S q1.lang), .slice ua q1.fields.length uc] 24)
        have hA1 := (Below.refl w1.heap.size w1).alloc (Nat.le_refl _) (.cells #[.int .i64 q1.id, .int .i64 q1.ver, .int .i64 q1.kind, .string (S q1.lang), .slice ua q1.fields.length uc] 24)
        obtain ⟨V1, hV1⟩ : ∃ W, w1.alloc (.cells #[.int .i64 q1.id, .int .i64 q1.ver, .int .i64 q1.kind, .string (S q1.lang), .slice ua q1.fields.length uc] 24) = W := ⟨_, rfl⟩
        rw [hV1] at hbx hA1
        have hs1 : V1.heap.size = w1.heap.size + 1 := by rw [← hV1]; simp
        have hby := heap_alloc_new V1 (.cells #[.int .i64 (n1 : Int), .int .i64 (a1 : Int)] 67)
        have hA2 := (Below.refl V1.heap.size V1).alloc (Nat.le_refl _) (.cells #[.int .i64 (n1 : Int), .int .i64 (a1 : Int)] 67)
        obtain ⟨V2, hV2⟩ : ∃ W, V1.alloc (.cells #[.int .i64 (n1 : Int), .int .i64 (a1 : Int)] 67) = W := ⟨_, rfl⟩
        rw [hV2] at hby hA2
        rw [hs1] at hby
        have hbx2 := (hA2.block w1.heap.size (by omega)).trans hbx
        have hB2 : Below wr.heap.size wr V2 := hb1.trans ((hA1.trans (hA2.mono hA1.size)).mono hb1.size)
        have hge : wr.heap.size ≤ w1.heap.size := hb1.size
        have hlt : w.heap.size + 1 < wr.heap.size := (Array.getElem?_eq_some_iff.1 HBx.out).1
        have hBx2 := (hB2.block _ hlt).trans HBx.out
        have HN2 := Lib.hid ((hn1.after hA1).after hA2)
        have HBw := Lib.hid (HB.out.trans (hB2.mono HB.out.size))
        have HR2 := Lib.hid (HR.out.after hB2)
        have HX2 := Lib.hid hbx2
        have HY2 := Lib.hid hby
        have HP2 := Lib.hid hBx2
        have HV1 := Lib.hid hV1
        have HV2 := Lib.hid hV2
        have hsz2 : w1.heap.size + 2 ≤ V2.heap.size := by rw [← hV2]; simp; omega
        obtain ⟨us0, _, hown0, _, _⟩ := HR.out
        have hown1 := fun j hj => (World.ownsRow.lt hown0 j hj).2
        have HOwn := Lib.hid hown1
        obtain ⟨bx, hbb⟩ : ∃ b, w1.heap.size = b := ⟨_, rfl⟩
        rw [hbb] at HX2 HY2 hge hsz2
        have HBb := Lib.hid hbb
        clear hn1 hb1 hbx hA1 hV1 hs1 hby hA2 hV2 hbx2 hB2 hBx2 hbb CO hown0 hown1 p0 p1
        go_upto_region 9 with fail
        rw [HV1.out, HV2.out, HBb.out]
        by_cases h0 : e1 = 0
        · subst h0
          obtain ⟨o1, o2, o3⟩ := one_sound _ _ _ _ _ HO.out
          have htl := text_lines q1
          have hlen := congrArg List.length o2
          rw [List.length_append, ← hnd, List.length_drop, List.length_drop, HZ.out] at hlen
          have hn1n : n < n1 := by omega
          have ha1 : a1 ≤ n1 + 1 := by omega
          have HPn : RowKit.Hid (parA l = allP (l.drop n1) (D ++ [q1]) a1) := by
            unfold RowKit.Hid
            rw [HP.out, all_go _ _ _ HNe.out (by rw [hDc]; omega) q1 t1' a1 HO.out, ← hnd]
          clear o1 o2 o3 htl hlen hnd HNe HO
          have hR3 := HR2.out.after ((Below.refl V2.heap.size V2).alloc (Nat.le_refl _) (.cells (encR q1 (.slice ua q1.fields.length uc)).toArray 24))
          have hnx : NewX (w.heap.size + 1 + 1) (Value.slice ao c cp).ownBlock (FL (.slice ua q1.fields.length uc) q1.fields) V2 := NewX.of HN2.out (by omega) (fun j hj => HOwn.out j hj)
          have hnx3 := hnx.on (w' := V2.alloc (.cells (encR q1 (.slice ua q1.fields.length uc)).toArray 24)) (by simp) (fun i _ hi _ => Below.heap_alloc _ _ _ hi)
          obtain ⟨xs, hxs, hpush⟩ := hR3.open (by simp; omega)
          have HPush := Lib.hid (fun v' w' => hpush q1 (.slice ua q1.fields.length uc) v' w' hnx3)
          rw [hDc] at hxs
          have HXs := Lib.hid hxs
          have HOneE := Lib.hid (encR_one q1 (.slice ua q1.fields.length uc) rfl)
          have HB3 := Lib.hid (HBw.out.alloc HBw.out.size (.cells (encR q1 (.slice ua q1.fields.length uc)).toArray 24))
          have HP3 := Lib.hid ((Below.heap_alloc V2 (.cells (encR q1 (.slice ua q1.fields.length uc)).toArray 24) _ (by omega)).trans HP2.out)
          have HY3 := Lib.hid ((Below.heap_alloc V2 (.cells (encR q1 (.slice ua q1.fields.length uc)).toArray 24) _ (by omega)).trans HY2.out)
          obtain ⟨⟨x0, x1, x2, x3, x4⟩, -⟩ := rcells HX2.out
          obtain ⟨us1, _, _, hob, _⟩ := HR2.out
          have HOb := Lib.hid hob
          clear hR3 hnx hnx3 hxs hpush hob HR2 HBw HP2 HY2 HX2 HN2
          go_wp2_with (at_builtin; go_loud (refine wpList_append_two _ rfl _ _ 34 rfl w.heap.size 24 i0 (.agg #[.int .i64 0, .int .i64 0, .int .i64 0, .string ⟨#[]⟩, .slice none 0 0]) 5 64 Tryz.underlying34 HI.out HZ0.out HZ1.out HZ2.out rfl (by decide) _ _ _ rfl HXs.out ⟨V2.heap.size, 0, none⟩ 1 1 (encR q1 (.slice ua q1.fields.length uc)) rfl rfl (cells_five _ _ _ _ _ _ _) HOneE.out (by decide) (by unfold maxLen; omega) (by omega) (by simp; omega) ?_))
          intro fv2 w3 hown3 hg3 hnn3 hob3
          have hRn := HPush.out fv2 w3 hg3 (by rw [show (V2.alloc (.cells (encR q1 (.slice ua q1.fields.length uc)).toArray 24)).heap.size = V2.heap.size + 1 by simp]; exact hob3) (by rw [hDc]; exact hown3)
          have hb3 : Below w.heap.size w w3 := HB3.out.grown hg3 HB3.out.size (fun j hj => (HXs.out.lt j hj).1)
          have hs3 : V2.heap.size + 1 = (V2.alloc (.cells (encR q1 (.slice ua q1.fields.length uc)).toArray 24)).heap.size := by simp
          have hp3 := (hg3.block (w.heap.size + 1) (by simp; omega) (fun e => HOb.out e.symm)).trans HP3.out
          have hy3 := (hg3.block (bx + 1) (by simp; omega) (fun e => by have := HOwn.out _ e.symm; omega)).trans HY3.out
          obtain ⟨⟨p0, p1⟩, pz0, pz1⟩ := pcells hp3
          obtain ⟨⟨y0, y1⟩, -⟩ := pcells hy3
          have hp4 := pl_set2 (x := .int .i64 (n1 : Int)) (y := .int .i64 (a1 : Int)) hp3
          have hr4 := hRn.put (.int .i64 (n1 : Int)) (.int .i64 (a1 : Int))
          have hb4 := pl_below (b := w.heap.size + 1) (x := .int .i64 (n1 : Int)) (y := .int .i64 (a1 : Int)) hb3 (by omega)
          have hm4 := plN_of hp4
          have hm0 := plN_of HBx.out
          obtain ⟨ao2, cp2, rfl⟩ := own_form hown3
          unfold setP2 at hp4 hr4 hb4 hm4
          have HP4 := Lib.hid hp4
          have HR4 := Lib.hid hr4
          have HB4 := Lib.hid hb4
          have HM4 := Lib.hid hm4
          have HM0 := Lib.hid hm0
          clear hRn hb3 hs3 hp3 hy3 hp4 hr4 hb4 hm4 hm0 hown3 hg3 hnn3 hob3 HPush HXs HOneE HB3 HP3 HY3 x0 x1 x2 x3 x4
          go_wp2
          go_roundw
          case rel => exact ⟨c + 1, n1, a1, D ++ [q1], _, _, by first | rfl | trivial, by rw [List.length_append, hDc]; rfl, by omega, hnl, ha1, HPn, HP4, HR4, HB4⟩
          case measure =>
            rw [HM4.out, HM0.out]
            omega
        · have u1 : (e1 != 0) = true := by simpa using h0
          have hno := HErr.out (a1 : Int) e1 (by rw [HP.out, all_bad _ _ _ HNe.out (by rw [hDc]; omega) q1 t1' a1 e1 HO.out h0])
          have hbd := Lib.hid HBw.out.drew
          obtain ⟨⟨y0, y1⟩, -⟩ := pcells HY2.out
          clear h0 hnd
          go_upto_region 10 with fail
          go_region
          go_wp2
          (try simp only [Exit.inBlock, Exit.then])
          (try refine bodyPost_ret (results_tmp3 rfl _ _ _) rfl ?_)
          exact hno _ hbd.out
    · obtain rfl : n = z := by omega
      have hfin : parA l = (D, 0, 0) := by
        rw [HP.out, List.drop_of_length_le (by rw [HZ.out]; exact Nat.le_refl _)]
        exact all_end D a
      have hyes := HYes.out D hfin
      have HNw := Lib.hid (HR.out.new (Nat.le_succ _))
      clear hfin
      go_wp2
      (try refine bodyPost_ret (results_tmp3 rfl _ _ _) rfl ?_)
      exact hyes _ _ HNw.out HB.out
end

end Go.Proofs.YtnfallkeicehiaaGreatDoor
