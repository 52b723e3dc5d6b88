/- Merged: KL15. -/
import Derived.Test.YtfjfpefpdlecbaaGreatDoorQ33
import Derived.Test.YtfjfpefpdlecbaaGreatDoorQ34
import Derived.Test.YtfjfpefpdlecbaaGreatDoorQ35
import Derived.Test.YtfjfpefpdlecbaaGreatDoorQ36
namespace Go.Proofs.YtfjfpefpdlecbaaGreatDoor

section
open Go.RowKit Go.PlainAid
/-- A row of pairs of the call's own. -/
def cellsPr (L : List (Int × Int)) : List Value := L.flatMap fun p => [.int .i64 p.1, .int .i64 p.2]
theorem cellsPr_snoc (L : List (Int × Int)) (x : Int × Int) : cellsPr (L ++ [x]) = cellsPr L ++ [.int .i64 x.1, .int .i64 x.2] := by simp [cellsPr]
theorem cellsPr_at : ∀ (L : List (Int × Int)) (i : Nat), i < L.length → (cellsPr L)[i * 2]? = some (.int .i64 (L.getD i (0, 0)).1) ∧ (cellsPr L)[i * 2 + 1]? = some (.int .i64 (L.getD i (0, 0)).2)
  | [], i, h => by cases h
  | y :: t, 0, _ => by simp [cellsPr]
  | y :: t, i + 1, h => by
    have ih := cellsPr_at t i (by simpa using h)
    have e : cellsPr (y :: t) = Value.int .i64 y.1 :: Value.int .i64 y.2 :: cellsPr t := by simp [cellsPr]
    rw [e, show (i + 1) * 2 = i * 2 + 1 + 1 by omega, show i * 2 + 1 + 1 + 1 = (i * 2 + 1) + 1 + 1 by omega]
    simpa using ih
def PRw (B : Nat) (v : Value) (L : List (Int × Int)) (w : World) : Prop := w.ownsRow B 59 2 v L.length (cellsPr L)
theorem PRw.nil (B : Nat) (w : World) : PRw B (.slice none 0 0) [] w := World.ownsRow_nil _ _ _ _
theorem PRw.after {B : Nat} {v : Value} {L : List (Int × Int)} {w w' : World} (h : PRw B v L w) (hb : Below w.heap.size w w') : PRw B v L w' := own_same h fun i _ hi => hb.block i hi
theorem PRw.pl {B : Nat} {v : Value} {L : List (Int × Int)} {w : World} (h : PRw B v L w) : PL v L w := by
  rcases h.2 with ⟨rfl, h0⟩ | ⟨g, cap, cur, rfl, hb, hg, hc, hm, hs, ht⟩
  · have : L = [] := List.eq_nil_of_length_eq_zero h0
    subst this
    exact ⟨none, 0, rfl, Nat.le_refl _, Nat.zero_le _, fun _ => rfl, fun i hi => by cases hi⟩
  · have hadd : ∀ j, (⟨g, 0, none⟩ : Addr).add j = ⟨g, j, none⟩ := fun j => by unfold Addr.add; split <;> simp_all
    refine ⟨_, cap, rfl, hc, hm, (fun h => by cases h), fun i hi => ?_⟩
    obtain ⟨c0, c1⟩ := cellsPr_at L i hi
    have t0 := World.ownsRow.cells h (g := g) rfl _ _ c0
    have t1 := World.ownsRow.cells h (g := g) rfl _ _ c1
    rw [hadd] at t0 t1
    exact ⟨g, 0, rfl, (Array.getElem?_eq_some_iff.1 hg).1, by rw [Nat.zero_add]; exact t0, by rw [Nat.zero_add]; exact t1⟩
theorem infoTwo15 : (Tryz.prog.info? 59).map (fun i => (i.zero, i.size, i.bytes)) = some (some (.agg #[.int .i64 0, .int .i64 0]), 2, 16) := by kernel_rfl
/-- append of one pair that has just been laid to such a row. -/
theorem append_prw {ops : Array Oper} {rest : List Oper} {o : Oper} {a : Act} {Q : Exit → Act → World → Prop} (w : World) (hgd : o.guard = none) (s x : Operand)
    (ho : o.op = .call { callee := .builtin .append, args := #[s, x], argTypes := #[50, 50] })
    (B : Nat) (v : Value) (M : List (Int × Int)) (p q : Int) (hs : a.eval s = v) (h : PRw B v M w) (hx : a.eval x = .slice (some ⟨w.heap.size, 0, none⟩) 1 1) (hz : M.length ≤ 1000000) (hB : B ≤ w.heap.size)
    (N : Nat) (W1 : World) (hNB : N ≤ B) (hb : Below N W1 w)
    (hk : ∀ v' w', PRw B v' (M ++ [(p, q)]) w' → Below N W1 w' → B ≤ w'.heap.size → (∀ g, g < w.heap.size → v.ownBlock ≠ some g → w'.heap[g]? = w.heap[g]? ∧ v'.ownBlock ≠ some g) → wpList Tryz.prog ops Q rest (a.put o.dst v') w') : wpList Tryz.prog ops Q (o :: rest) a (w.alloc (.cells #[.int .i64 p, .int .i64 q] 59)) := by
  obtain ⟨i0, h0, h2⟩ := Option.map_eq_some_iff.1 infoTwo15
  simp only [Prod.mk.injEq] at h2
  have hrow := World.ownsRow.alloc h (.cells #[.int .i64 p, .int .i64 q] 59)
  refine wpList_append_own_at _ hgd s x 50 ho B 59 i0 (.agg #[.int .i64 0, .int .i64 0]) 2 16 Tryz.underlying50 h0 h2.1 h2.2.1 h2.2.2 rfl (by decide) v M.length _ hs hrow ⟨w.heap.size, 0, none⟩ 1 1 [.int .i64 p, .int .i64 q] hx rfl (cells_two w _ _ _) (by intro u hu; simp at hu; rcases hu with h5 | h5 <;> subst h5 <;> rfl) (by unfold maxLen; omega) (by omega) (by simp; omega) ?_
  intro v2 w2 hown2 hg2 hn2 hat
  refine hk v2 w2 (by unfold PRw; rw [List.length_append, cellsPr_snoc]; exact hown2) ?_ (Nat.le_trans (by simp; omega) hg2.size) ?_
  · exact (hb.alloc (by omega) _).grown hg2 (by simp; omega) (fun j hj => Nat.le_trans hNB (hrow.lt j hj).1)
  · intro g hg hne
    have hsz : (w.alloc (.cells #[.int .i64 p, .int .i64 q] 59)).heap.size = w.heap.size + 1 := by simp
    refine ⟨(hg2.block g (by omega) (fun e => hne e.symm)).trans (Below.heap_alloc _ _ g hg), ?_⟩
    rcases hat with e | e
    · rw [e]; exact hne
    · rw [e, hsz]
      intro e2
      have := Option.some.inj e2
      omega

/-! The list as two loops build it. -/
theorem pairsA_cons (m : MRule) (a x : Rec) (Q : List Rec) : pairsA m a (x :: Q) = (if m.need ≤ scoreM m a x then [(a.id, x.id)] else []) ++ pairsA m a Q := by
  unfold pairsA
  by_cases h : m.need ≤ scoreM m a x
  · rw [if_pos h]; simp [h]
  · rw [if_neg h]; simp [h]
theorem pairsA_len (m : MRule) (a : Rec) (Q : List Rec) : (pairsA m a Q).length ≤ Q.length := by
  unfold pairsA
  rw [List.length_map]
  exact List.length_filter_le _ _
theorem pairsP_len (m : MRule) : ∀ P : List Rec, (pairsP m P).length ≤ P.length * P.length
  | [] => Nat.le_refl _
  | a :: P => by
    have h1 := pairsA_len m a P
    have h2 := pairsP_len m P
    rw [pairsP, List.length_append, List.length_cons]
    have : (P.length + 1) * (P.length + 1) = P.length * P.length + P.length + P.length + 1 := by rw [Nat.add_mul, Nat.mul_add]; omega
    omega
theorem drop_rec (P : List Rec) (i : Nat) (h : i < P.length) : P.drop i = P.getD i rec0 :: P.drop (i + 1) := by
  rw [List.drop_eq_getElem_cons h, List.getD_eq_getElem?_getD, List.getElem?_eq_getElem h]
  rfl
/-- The rows of profiles with their keys' values written out. -/
def toPE (s : SE) : PE := (.slice s.1.1 s.1.2.1 s.1.2.2, s.2)
theorem cellsPE_SE : ∀ G : List SE, cellsP15 (G.map toPE) = cellsF15 G
  | [] => rfl
  | s :: G => by
    have ih := cellsPE_SE G
    have e1 : cellsP15 ((s :: G).map toPE) = [.int .i64 s.2.id, .slice s.1.1 s.1.2.1 s.1.2.2] ++ cellsP15 (G.map toPE) := by simp [cellsP15, encP, toPE]
    have e2 : cellsF15 (s :: G) = [.int .i64 s.2.id, .slice s.1.1 s.1.2.1 s.1.2.2] ++ cellsF15 G := by simp [cellsF15, encE15]
    rw [e1, e2, ih]
theorem pe_form {m : MRule} : ∀ (F : List PE) (w : World), (∀ e ∈ F, KK e.1 (profK m e.2) w) → ∃ G : List SE, F = G.map toPE
  | [], _, _ => ⟨[], rfl⟩
  | e :: F, w, h => by
    obtain ⟨G, hG⟩ := pe_form F w fun x hx => h x (List.mem_cons_of_mem _ hx)
    obtain ⟨a, cap, hv, -, -⟩ := (h e List.mem_cons_self).length
    refine ⟨((a, (profK m e.2).length, cap), e.2) :: G, ?_⟩
    rw [hG, List.map_cons]
    congr 1
    exact Prod.ext hv rfl

set_option maxHeartbeats 32000000 in
set_option maxRecDepth 100000 in
theorem pPairs_any (m : MRule) (mv : Value) (l : List Rec) (u : Value) (w : World) (hE : Env w) (hm : KL mv m.keys w) (hM : okM m) (hN : okN m) (hu : RL u l w) (ho : ∀ x ∈ l, okR x) (hz : l.length ≤ 8) (hnd : (idsOf l).Nodup) :
    Calls Tryz.prog 26 #[MV m mv, u] w fun e w' => ∃ v, e = .returned v ∧ PL v (pairsM m l) w' ∧ Below w.heap.size w w' := by
  obtain ⟨Q, hQ⟩ : ∃ Q, (fun (e : Ending) (w' : World) => ∃ v, e = .returned v ∧ PL v (pairsM m l) w' ∧ Below w.heap.size w w') = Q := ⟨_, rfl⟩
  rw [hQ]
  have HQ : RowKit.Hid (∀ v W, PL v (pairsM m l) W → Below w.heap.size w W → Q (.returned v) W) := by
    rw [← hQ]
    exact fun v W h1 h2 => ⟨v, rfl, h1, h2⟩
  obtain ⟨mx, mc, hmv, -, -⟩ : ∃ a cap, mv = .slice a m.keys.length cap ∧ m.keys.length ≤ cap ∧ cap ≤ maxLen := by
    obtain ⟨a, cap, h1, h2, h3, _⟩ := hm
    exact ⟨a, cap, h1, h2, h3⟩
  obtain ⟨ua, uc, huu, -, -⟩ := hu.length
  obtain ⟨W0, hW0⟩ : ∃ W0, w.alloc (.cells #[mv, .int .i64 m.need] 24) = W0 := ⟨_, rfl⟩
  have b0 : Below w.heap.size w W0 := by rw [← hW0]; exact (Below.refl w.heap.size w).alloc (Nat.le_refl _) _
  have hlt0 : w.heap.size < W0.heap.size := by rw [← hW0]; simp
  have hM0 : W0.heap[w.heap.size]? = some (.cells #[mv, .int .i64 m.need] 24 (0, 0)) := by rw [← hW0]; exact heap_alloc_new w _
  have HMx := Lib.hid (fun (W : World) (h : Below W0.heap.size W0 W) => (h.block w.heap.size hlt0).trans hM0)
  have HBw := Lib.hid (fun (W : World) (h : Below W0.heap.size W0 W) => b0.trans (h.mono b0.size))
  have HR0 := Lib.hid (Below.refl W0.heap.size W0)
  have cL := Lib.hid (profilesOf_any m mv l u W0 (hE.after b0) (hm.after b0) hM.len hN (hu.after b0) ho (by omega))
  have cS := Lib.hid (fun (x y : Rec) (ia ib : Int) (ka kb : Value) (W : World) (h : Below w.heap.size w W) (h1 : KK ka (profK m x) W) (h2 : KK kb (profK m y) W) => pscore_any m mv x y ia ib ka kb W (hm.after h) hM h1 h2)
  have HPd := Lib.hid (fun (P : List Rec) (hp : P.Perm l) (hs : P.Pairwise fun a b => ltI b a = false) => pairs_sorted m l hnd P hp hs)
  have HPc := Lib.hid (fun a x Q => pairsA_cons m a x Q)
  have HW0 := Lib.hid hW0
  unfold MV PV at *
  subst hmv huu
  clear hQ hm hE hu ho hW0 hM0 b0 hlt0 hN hM hnd
  generalize m.keys.length = mn at *
  generalize hnd2 : m.need = need at *
  clear hnd2
  obtain ⟨n, hn⟩ : ∃ n, l.length = n := ⟨_, rfl⟩
  rw [hn] at hz cL ⊢
  have HNn := Lib.hid hn
  clear hn
  go_enter Tryz.func26, Tryz.ntmps26
  go_upto_region 1 with fail
  rw [HW0.out]
  clear HW0
  obtain ⟨m0, m1⟩ := mcells2 (HMx.out W0 HR0.out)
  go_wp2_with fail
  refine cL.out.mono ?_
  rintro e w3 ⟨v3, F, rfl, hF, hPN, hb3⟩
  obtain ⟨G, hG⟩ := pe_form F w3 fun e he => (hPN.kks e he).here
  have hrow := hPN.row
  rw [hG, cellsPE_SE, List.length_map] at hrow
  have hGl : G.length = n := by rw [← HNn.out, ← hF, hG, List.length_map, List.length_map]
  have cO := Lib.hid (sortF15_any W0.heap.size v3 G w3 hrow (by omega))
  have HPn := Lib.hid hPN
  have HB3 := Lib.hid hb3
  have HGF := Lib.hid hG
  have HF := Lib.hid hF
  have HGl := Lib.hid hGl
  obtain ⟨fa0, fc0, hv3⟩ := own_form15 hrow
  subst hv3
  clear hF hPN hb3 hG hrow hGl cL m0 m1
  generalize G.length = n0 at *
  go_wp2_with fail
  refine cO.out.mono ?_
  rintro e w5 ⟨rfl, G', hp, hpw, ⟨fa, fc, fg, hfv, hfc, hfm, hfa, hfx⟩, hg⟩
  obtain ⟨rfl, hn0, rfl⟩ := Value.slice.inj hfv
  have hl' : G'.length = n := by rw [← hn0]; exact HGl.out
  have hn0' : n0 = n := HGl.out
  subst hn0'
  rw [hl'] at hfc hfa
  unfold maxLen at hfm
  have hown := HPn.out.row.lt
  have hB5 : Below W0.heap.size W0 w5 := HB3.out.grown hg HB3.out.size (fun j hj => (hown j hj).1)
  have hKK : ∀ W, Below w5.heap.size w5 W → ∀ s ∈ G', KK (.slice s.1.1 s.1.2.1 s.1.2.2) (profK m s.2) W := fun W hW s hs => by
    have hmem : toPE s ∈ F := by rw [HGF.out]; exact List.mem_map.2 ⟨s, hp.mem_iff.1 hs, rfl⟩
    have h1 := HPn.out.kks (toPE s) hmem
    have h2 : NewX W0.heap.size _ (KK (toPE s).1 (profK m (toPE s).2)) w5 := h1.on hg.size fun i _ hi hne => hg.block i hi hne
    exact h2.here.after hW
  obtain ⟨P, hP⟩ : ∃ P, G'.map (·.2) = P := ⟨_, rfl⟩
  have hPp : P.Perm l := by
    rw [← hP, ← HF.out, HGF.out, List.map_map]
    exact hp.map _
  have hPs : P.Pairwise fun a b => ltI b a = false := by
    rw [← hP, List.pairwise_map]
    refine hpw.imp fun {a b} h => ?_
    unfold ltI
    have h := of_decide_eq_false h
    unfold cfS at h
    rw [cmpI_neg] at h
    exact decide_eq_false h
  have hPd := HPd.out P hPp hPs
  have hPl : P.length = n0 := by rw [← hP, List.length_map, hl']
  have hRl : (pairsP m P).length ≤ 64 := by
    have h1 := pairsP_len m P
    have h2 : P.length * P.length ≤ 8 * 8 := Nat.mul_le_mul (by rw [hPl]; exact hz) (by rw [hPl]; exact hz)
    omega
  have HX : RowKit.Hid (∀ i, i < n0 → ∃ s : SE, s.2 = P.getD i rec0 ∧ ∀ W, Below w5.heap.size w5 W → W.cell? ⟨fg, i * 2, none⟩ = some (.int .i64 s.2.id) ∧ W.cell? ⟨fg, i * 2 + 1, none⟩ = some (.slice s.1.1 s.1.2.1 s.1.2.2) ∧ KK (.slice s.1.1 s.1.2.1 s.1.2.2) (profK m s.2) W) := by
    intro i hi
    have hlt : i < G'.length := by omega
    have hgs : G'[i]? = some G'[i] := List.getElem?_eq_getElem hlt
    obtain ⟨c0, c1⟩ := hfx i _ hgs
    have hgb := (hfa (by omega)).2
    refine ⟨G'[i], ?_, fun W hW => ⟨(hW.cell (p := ⟨fg, i * 2, none⟩) hgb).trans c0, (hW.cell (p := ⟨fg, i * 2 + 1, none⟩) hgb).trans c1, hKK W hW _ (List.getElem_mem _)⟩⟩
    rw [← hP, List.getD_eq_getElem?_getD, List.getElem?_map, hgs]
    rfl
  have HPl := Lib.hid hPl
  have HPd2 := Lib.hid hPd
  have HRl := Lib.hid hRl
  have HB5 := Lib.hid hB5
  have HR5 := Lib.hid (Below.refl w5.heap.size w5)
  have hfa1 : 0 < n0 → fa0 = some ⟨fg, 0, none⟩ := fun h => (hfa h).1
  have HBb := Lib.hid (fun (W : World) (h : Below w5.heap.size w5 W) => show Below W0.heap.size W0 W from HB5.out.trans (h.mono HB5.out.size))
  have HL0 : RowKit.Hid (∃ M, PRw w5.heap.size (.slice none 0 0) M w5 ∧ M ++ pairsP m (P.drop 0) = pairsP m P) := ⟨[], PRw.nil _ _, rfl⟩
  have HDr := Lib.hid (fun i (h : i < n0) => drop_rec P i (by rw [hPl]; exact h))
  have HDe : RowKit.Hid (P.drop n0 = []) := List.drop_of_length_le (by rw [hPl]; exact Nat.le_refl _)
  clear hp hpw hfv hfx hfa hg hn0 hl' hown hB5 hKK hP hPp hPs hPd hPl hRl cO HPn HB3 HGF HF HGl HNn HPd
  go_wp2
  go_loopw [6, 7, 8, 10, 18] (fun s6 _ _ _ s18 wr => ∃ (i : Nat), s18 = .int .i64 (i : Int) ∧ i ≤ n0 ∧ RowKit.Hid (∃ M, PRw w5.heap.size s6 M wr ∧ M ++ pairsP m (P.drop i) = pairsP m P) ∧ RowKit.Hid (Below w5.heap.size w5 wr)) (fun _ _ _ _ s18 _ => n0 - (intOf s18).toNat)
  case atStart => exact ⟨0, rfl, Nat.zero_le _, HL0.out, HR5.out⟩
  case round =>
    obtain ⟨i, rfl, hi, HL, HB⟩ := hrel
    clear HL0 HR5
    have i1 : (0 : Int) ≤ (i : Int) := by omega
    by_cases hin : i < n0
    · have i2 : (i : Int) < (n0 : Int) := by omega
      obtain rfl := hfa1 (by omega)
      obtain ⟨s, hs, hsx⟩ := HX.out i hin
      obtain ⟨⟨aa, an, ac⟩, x⟩ := s
      dsimp only at hs hsx
      obtain ⟨c0, c1, -⟩ := hsx wr HB.out
      have hdr := HDr.out i hin
      rw [← hs] at hdr
      obtain ⟨wb, hwb⟩ : ∃ wb, wr.alloc (.cells #[.int .i64 x.id, .slice aa an ac] 76) = wb := ⟨_, rfl⟩
      obtain ⟨bx, hbx⟩ : ∃ bx, wr.heap.size = bx := ⟨_, rfl⟩
      have hXb : wb.heap[bx]? = some (.cells #[.int .i64 x.id, .slice aa an ac] 76 (0, 0)) := by rw [← hwb, ← hbx]; exact heap_alloc_new wr _
      have hbb : Below wr.heap.size wr wb := by rw [← hwb]; exact (Below.refl _ _).alloc (Nat.le_refl _) _
      have HBq := Lib.hid (HB.out.trans (hbb.mono HB.out.size))
      have HXa := Lib.hid hXb
      have HKa := Lib.hid (fun (W : World) (h : Below w5.heap.size w5 W) => (hsx W h).2.2)
      have HLb : RowKit.Hid (∃ M, PRw w5.heap.size u6 M wb ∧ u6.ownBlock ≠ some bx ∧ M ++ (pairsA m x (P.drop (i + 1 + 0)) ++ pairsP m (P.drop (i + 1))) = pairsP m P) := by
        obtain ⟨M, h1, h2⟩ := HL.out
        refine ⟨M, h1.after hbb, fun e => ?_, ?_⟩
        · have := (World.ownsRow.lt h1 bx e).2
          omega
        · rw [← h2, hdr]
          rfl
      have HWb := Lib.hid hwb
      have HBx := Lib.hid hbx
      clear hs hsx hdr hwb hbx hXb hbb HL HB
      generalize hxi : x.id = aid at *
      have HXi := Lib.hid hxi
      clear hxi
      go_upto_region 7 with fail
      rw [HWb.out, HBx.out]
      clear HWb HBx c0 c1
      obtain ⟨k, hk⟩ : ∃ k, i + 1 + k = n0 := ⟨n0 - (i + 1), by omega⟩
      have hkz : n0 - (i + 1) = k := by omega
      have hic : i + 1 ≤ fc0 := by omega
      have hin1 : i + 1 ≤ n0 := by omega
      by_cases hck : fc0 = i + 1
      · skip
        go_wp2
        rw [← hck]
        have HCk := Lib.hid hck
        clear hck
        go_loopw [6, 10, 28] (fun s6 _ s28 wr => ∃ (j : Nat), s28 = .int .i64 (j : Int) ∧ j ≤ k ∧ RowKit.Hid (∃ M, PRw w5.heap.size s6 M wr ∧ s6.ownBlock ≠ some bx ∧ M ++ (pairsA m x (P.drop (i + 1 + j)) ++ pairsP m (P.drop (i + 1))) = pairsP m P) ∧ RowKit.Hid (Below w5.heap.size w5 wr) ∧ RowKit.Hid (wr.heap[bx]? = some (.cells #[.int .i64 aid, .slice aa an ac] 76 (0, 0)))) (fun _ _ s28 _ => k - (intOf s28).toNat)
        case atStart => exact ⟨0, rfl, Nat.zero_le _, HLb.out, HBq.out, HXa.out⟩
        case round =>
          obtain ⟨j, rfl, hj, HLj, HBj, HAj⟩ := hrel
          clear HLb HBq HXa
          have j1 : (0 : Int) ≤ (j : Int) := by omega
          by_cases hjk : j < k
          · exfalso
            have := HCk.out
            omega
          · obtain rfl : j = k := by omega
            have HL9 : RowKit.Hid (∃ M, PRw w5.heap.size u6 M wr ∧ M ++ pairsP m (P.drop (i + 1)) = pairsP m P) := by
              obtain ⟨M, h1, -, h2⟩ := HLj.out
              refine ⟨M, h1, ?_⟩
              rw [hk, HDe.out] at h2
              exact h2
            clear HLj HAj
            go_wp2
            go_roundw
            case rel => exact ⟨i + 1, by go_num, by omega, HL9.out, HBj.out⟩
            case measure => simp [intOf]; omega
      · skip
        go_wp2
        go_loopw [6, 10, 28] (fun s6 _ s28 wr => ∃ (j : Nat), s28 = .int .i64 (j : Int) ∧ j ≤ k ∧ RowKit.Hid (∃ M, PRw w5.heap.size s6 M wr ∧ s6.ownBlock ≠ some bx ∧ M ++ (pairsA m x (P.drop (i + 1 + j)) ++ pairsP m (P.drop (i + 1))) = pairsP m P) ∧ RowKit.Hid (Below w5.heap.size w5 wr) ∧ RowKit.Hid (wr.heap[bx]? = some (.cells #[.int .i64 aid, .slice aa an ac] 76 (0, 0)))) (fun _ _ s28 _ => k - (intOf s28).toNat)
        case atStart => exact ⟨0, rfl, Nat.zero_le _, HLb.out, HBq.out, HXa.out⟩
        case round =>
          obtain ⟨j, rfl, hj, HLj, HBj, HAj⟩ := hrel
          clear HLb HBq HXa
          have j1 : (0 : Int) ≤ (j : Int) := by omega
          by_cases hjk : j < k
          · have j2 : (j : Int) < (k : Int) := by omega
            obtain ⟨t, ht, htx⟩ := HX.out (i + 1 + j) (by omega)
            obtain ⟨⟨ba, bn, bc⟩, y⟩ := t
            dsimp only at ht htx
            obtain ⟨c0, c1, -⟩ := htx wr HBj.out
            rw [show (i + 1 + j) * 2 = (i + 1) * 2 + j * 2 by omega] at c0 c1
            have hdr := HDr.out (i + 1 + j) (by omega)
            rw [← ht] at hdr
            obtain ⟨M, h1, h2, h3⟩ := HLj.out
            rw [hdr, HPc.out] at h3
            have hml : M.length ≤ 64 := by
              have := congrArg List.length h3
              rw [List.length_append] at this
              have := HRl.out
              omega
            obtain ⟨wc, hwc⟩ : ∃ wc, wr.alloc (.cells #[.int .i64 y.id, .slice ba bn bc] 76) = wc := ⟨_, rfl⟩
            obtain ⟨bz, hbz⟩ : ∃ bz, wr.heap.size = bz := ⟨_, rfl⟩
            have hZ : wc.heap[bz]? = some (.cells #[.int .i64 y.id, .slice ba bn bc] 76 (0, 0)) := by rw [← hwc, ← hbz]; exact heap_alloc_new wr _
            have hbb : Below wr.heap.size wr wc := by rw [← hwc]; exact (Below.refl _ _).alloc (Nat.le_refl _) _
            have hlz : bz < wc.heap.size := by rw [← hwc, ← hbz]; simp
            have hlx : bx < wr.heap.size := (Array.getElem?_eq_some_iff.1 HAj.out).1
            have hBc := HBj.out.trans (hbb.mono HBj.out.size)
            have HBc := Lib.hid (fun (W : World) (h : Below wc.heap.size wc W) => show Below w5.heap.size w5 W from hBc.trans (h.mono hBc.size))
            have HAb := Lib.hid (fun (W : World) (h : Below wc.heap.size wc W) => (h.block bx (Nat.lt_of_lt_of_le hlx hbb.size)).trans ((hbb.block bx hlx).trans HAj.out))
            have HZb := Lib.hid (fun (W : World) (h : Below wc.heap.size wc W) => (h.block bz hlz).trans hZ)
            have HMb := Lib.hid (fun (W : World) (h : Below wc.heap.size wc W) => HMx.out W (HBb.out W (HBc.out W h)))
            have HPr := Lib.hid (fun (W : World) (h : Below wc.heap.size wc W) => show PRw w5.heap.size u6 M W from (PRw.after h1 hbb).after h)
            have HLx := Lib.hid (fun (W : World) (h : Below wc.heap.size wc W) => show bx < W.heap.size from Nat.lt_of_lt_of_le (Nat.lt_of_lt_of_le hlx hbb.size) h.size)
            have cS1 := Lib.hid (fun (W : World) (h : Below wc.heap.size wc W) => cS.out x y aid y.id (.slice aa an ac) (.slice ba bn bc) W (HBw.out W (HBb.out W (HBc.out W h))) (HKa.out W (HBc.out W h)) (htx W (HBc.out W h)).2.2)
            rw [HXi.out] at h3
            obtain ⟨sc, hsc⟩ : ∃ sc, scoreM m x y = sc := ⟨_, rfl⟩
            rw [hsc] at cS1 h3
            obtain ⟨bb, hbd⟩ : ∃ bb, decide (need ≤ sc) = bb := ⟨_, rfl⟩
            have HBb1 := Lib.hid hbd
            have h3' : M ++ (((if bb = true then [(aid, y.id)] else []) ++ pairsA m x (P.drop (i + 1 + (j + 1)))) ++ pairsP m (P.drop (i + 1))) = pairsP m P := by
              rw [← h3, ← hbd]
              simp only [decide_eq_true_eq]
              rfl
            have H3 := Lib.hid h3'
            have H2 := Lib.hid h2
            have HMl := Lib.hid hml
            have HWc := Lib.hid hwc
            have HBz := Lib.hid hbz
            clear ht htx hdr h1 h2 h3 h3' hml hwc hbz hZ hbb hlz hlx hBc hsc hbd HLj HBj HAj
            generalize y.id = bid at *
            go_upto_region 10 with fail
            rw [HWc.out, HBz.out]
            clear HWc HBz c0 c1
            apply wp_region_inv (V := [.eq (.agg #[.slice mx mn mc, .int .i64 need]), .eq (.agg #[.int .i64 aid, .slice aa an ac]), .eq (.agg #[.int .i64 bid, .slice ba bn bc]), .eq (.int .i64 sc), .eq (.pointer (some ⟨w.heap.size, 1, none⟩)), .eq (.int .i64 need), .eq (.bool bb)])
            case hm => kernel_rfl
            case hd => kernel_rfl
            case hb => kernel_rfl
            case hA =>
              intro vs
              simp only [puts, Act.put, List.setIfInBounds_toArray, List.set_cons_zero, List.set_cons_succ]
              exact rfl
            case hob =>
              refine Obs.cons _ _ _ _ _ _ ?o0 (Obs.cons _ _ _ _ _ _ ?o1 (Obs.cons _ _ _ _ _ _ ?o2 (Obs.cons _ _ _ _ _ _ ?o3 (Obs.cons _ _ _ _ _ _ ?o4 (Obs.cons _ _ _ _ _ _ ?o5 (Obs.cons _ _ _ _ _ _ ?o6 (Obs.nil _ _ _ _ _ _)))))))
              case o0 =>
                intro vs W hw hd K hK
                obtain ⟨m0, m1⟩ := mcells2 (HMb.out W hw)
                go_simp
                exact hK.out _ _ rfl (Below.refl _ _)
              case o1 =>
                intro vs W hw hd K hK
                obtain ⟨y0, y1⟩ := mcells2 (HAb.out W hw)
                go_simp
                exact hK.out _ _ rfl (Below.refl _ _)
              case o2 =>
                intro vs W hw hd K hK
                obtain ⟨z0, z1⟩ := mcells2 (HZb.out W hw)
                go_simp
                exact hK.out _ _ rfl (Below.refl _ _)
              case o3 =>
                intro vs W hw hd K hK
                have h0 : vs 0 = .agg #[.slice mx mn mc, .int .i64 need] := hd 0 (by kernel_rfl)
                have h1 : vs 1 = .agg #[.int .i64 aid, .slice aa an ac] := hd 1 (by kernel_rfl)
                have h2 : vs 2 = .agg #[.int .i64 bid, .slice ba bn bc] := hd 2 (by kernel_rfl)
                simp only [Nat.reduceAdd, h0, h1, h2] at hK ⊢
                go_simp
                refine (cS1.out W hw).mono ?_
                rintro e W' ⟨rfl, hb'⟩
                exact hK.out _ _ rfl hb'
              case o4 =>
                intro vs W hw hd K hK
                go_simp
                exact hK.out _ _ rfl (Below.refl _ _)
              case o5 =>
                intro vs W hw hd K hK
                have h4 : vs 4 = .pointer (some ⟨w.heap.size, 1, none⟩) := hd 4 (by kernel_rfl)
                obtain ⟨m0, m1⟩ := mcells2 (HMb.out W hw)
                simp only [Nat.reduceAdd, h4] at hK ⊢
                go_simp
                exact hK.out _ _ rfl (Below.refl _ _)
              case o6 =>
                intro vs W hw hd K hK
                have h3 : vs 3 = .int .i64 sc := hd 3 (by kernel_rfl)
                have h5 : vs 5 = .int .i64 need := hd 5 (by kernel_rfl)
                have t2 := HBb1.out
                simp only [Nat.reduceAdd, h3, h5] at hK ⊢
                go_simp
                exact hK.out _ _ rfl (Below.refl _ _)
            case hfin =>
              intro vs W hw hd
              have h6 : vs 6 = .bool bb := hd 6 (by decide)
              simp only [Nat.reduceAdd, h6]
              have HB6 := Lib.hid (HBc.out W hw)
              have HA6 := Lib.hid (HAb.out W hw)
              have HP6 := Lib.hid (HPr.out W hw)
              have HL6 := Lib.hid (HLx.out W hw)
              obtain ⟨y0, y1⟩ := mcells2 (HAb.out W hw)
              obtain ⟨z0, z1⟩ := mcells2 (HZb.out W hw)
              clear hd h6 hw HAb HZb HMb HPr HLx cS1 HBc HBb1
              cases bb
              · have HL9 : RowKit.Hid (∃ M, PRw w5.heap.size u6 M W ∧ u6.ownBlock ≠ some bx ∧ M ++ (pairsA m x (P.drop (i + 1 + (j + 1))) ++ pairsP m (P.drop (i + 1))) = pairsP m P) := by
                  refine ⟨M, HP6.out, H2.out, ?_⟩
                  have := H3.out
                  rwa [if_neg (by decide), List.nil_append] at this
                clear H3 HP6
                go_wp2
                go_roundw
                case rel => exact ⟨j + 1, by go_num, by omega, HL9.out, HB6.out, HA6.out⟩
                case measure => simp [intOf]; omega
              · have hsz6 := HB6.out.size
                go_wp2_with (at_builtin; refine append_prw _ rfl _ _ rfl w5.heap.size u6 M aid bid rfl HP6.out rfl (by have := HMl.out; omega) hsz6 w5.heap.size w5 (Nat.le_refl _) HB6.out ?_)
                intro v7 w7 h7 hb7 _ hg7
                have HL9 : RowKit.Hid (∃ M, PRw w5.heap.size v7 M w7 ∧ v7.ownBlock ≠ some bx ∧ M ++ (pairsA m x (P.drop (i + 1 + (j + 1))) ++ pairsP m (P.drop (i + 1))) = pairsP m P) := by
                  refine ⟨_, h7, (hg7 bx HL6.out H2.out).2, ?_⟩
                  have := H3.out
                  first | rw [if_pos rfl] at this | rw [if_pos trivial] at this
                  rw [← this]
                  simp [List.append_assoc]
                have HA7 := Lib.hid ((hg7 bx HL6.out H2.out).1.trans HA6.out)
                have HB7 := Lib.hid hb7
                clear h7 hb7 hg7 H3 HP6 HB6 HA6 y0 y1 z0 z1
                go_wp2
                go_roundw
                case rel => exact ⟨j + 1, by go_num, by omega, HL9.out, HB7.out, HA7.out⟩
                case measure => simp [intOf]; omega
          · obtain rfl : j = k := by omega
            have HL9 : RowKit.Hid (∃ M, PRw w5.heap.size u6 M wr ∧ M ++ pairsP m (P.drop (i + 1)) = pairsP m P) := by
              obtain ⟨M, h1, -, h2⟩ := HLj.out
              refine ⟨M, h1, ?_⟩
              rw [hk, HDe.out] at h2
              exact h2
            clear HLj HAj
            go_wp2
            go_roundw
            case rel => exact ⟨i + 1, by go_num, by omega, HL9.out, HBj.out⟩
            case measure => simp [intOf]; omega
    · obtain rfl : i = n0 := by omega
      obtain ⟨M, h1, h2⟩ := HL.out
      rw [HDe.out, pairsP, List.append_nil, HPd2.out] at h2
      subst h2
      have HG := Lib.hid (HQ.out u6 wr h1.pl (HBw.out wr (HBb.out wr HB.out)))
      clear h1 HL HB HQ
      go_wp2
      first | exact HG.out | (go_ret; exact HG.out)
end

end Go.Proofs.YtfjfpefpdlecbaaGreatDoor
