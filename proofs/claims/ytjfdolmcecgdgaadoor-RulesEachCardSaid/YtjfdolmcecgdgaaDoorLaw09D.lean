/- The statement RulesEach of layer 9 over this translation: it returns true. -/
import Derived.Test.YtjfdolmcecgdgaaDoorLaw09C
import Derived.Test.YtjfdolmcecgdgaaDoorOW09
namespace Go.Proofs.YtjfdolmcecgdgaaDoor
-- plain words: a field's problems are those that it has alone

theorem ownL_app (idx : Int) (A B : List Prb) : ownL idx (A ++ B) = ownL idx A ++ ownL idx B := by
  unfold ownL
  rw [List.flatMap_append]
theorem ownL_none (idx : Int) : ∀ A : List Prb, (∀ x ∈ A, x.kind = 1 ∨ x.kind = 3 ∨ x.index ≠ idx) → ownL idx A = []
  | [], _ => rfl
  | x :: t, h => by
    have h0 := h x (List.mem_cons_self ..)
    have ht := ownL_none idx t (fun y hy => h y (List.mem_cons_of_mem _ hy))
    unfold ownL at ht ⊢
    rw [List.flatMap_cons, ht, List.append_nil]
    unfold ownP
    rw [if_neg (by rcases h0 with h0 | h0 | h0 <;> (intro h'; omega))]
theorem ownL_range (idx : Int) (f : Nat → List Prb) : ∀ n, ownL idx ((List.range n).flatMap f) = (List.range n).flatMap fun k => ownL idx (f k)
  | 0 => rfl
  | n + 1 => by
    rw [range_flat, range_flat, ownL_app, ownL_range idx f n]
theorem ownL_one (i kd : Int) (g : List UInt8) (c : UInt8) (h1 : kd ≠ 1) (h3 : kd ≠ 3) : ownL i [⟨kd, i, g, c⟩] = [⟨kd, 0, g, c⟩] := by
  unfold ownL
  rw [List.flatMap_cons, List.flatMap_nil, List.append_nil]
  unfold ownP
  rw [if_pos ⟨h1, h3, rfl⟩]
theorem own_sub (t : Rul) (f : Fld) (i : Int) (k : Nat) : ownL i (subP t f i k) = ownL 0 (subP t f 0 k) := by
  unfold subP
  split
  · rw [ownL_one i 4 _ _ (by decide) (by decide), ownL_one 0 4 _ _ (by decide) (by decide)]
  · split
    · rw [ownL_one i 5 _ _ (by decide) (by decide), ownL_one 0 5 _ _ (by decide) (by decide)]
    · rfl
theorem own_need (t : Rul) (f : Fld) (i : Int) (k : Nat) : ownL i (needP t f i k) = ownL 0 (needP t f 0 k) := by
  unfold needP
  split
  · rw [ownL_one i 6 _ _ (by decide) (by decide), ownL_one 0 6 _ _ (by decide) (by decide)]
  · rfl
theorem own_one (l : List Rul) (f : Fld) (i : Int) (a b : Bool) : ownL i (oneL l f i a) = ownL 0 (oneL l f 0 b) := by
  unfold oneL
  split
  · rw [ownL_one i 2 _ _ (by decide) (by decide), ownL_one 0 2 _ _ (by decide) (by decide)]
  · unfold ruledL
    rw [ownL_app, ownL_app, ownL_app, ownL_app, ownL_app, ownL_app]
    have h3 : ∀ (j : Int) (c : Bool), ownL j (if (!(findR l f.tag).1.rep && c) = true then [(⟨3, j, f.tag, 0⟩ : Prb)] else []) = [] := by
      intro j c
      split
      · exact ownL_none _ _ (fun x hx => by rw [List.mem_singleton.1 hx]; exact .inr (.inl rfl))
      · rfl
    have h7 : ∀ j : Int, ownL j (if f.auth ≠ 0 ∧ (findR l f.tag).1.auth = 0 then [(⟨7, j, f.tag, 0⟩ : Prb)] else []) = if f.auth ≠ 0 ∧ (findR l f.tag).1.auth = 0 then [⟨7, 0, f.tag, 0⟩] else [] := by
      intro j
      split
      · rw [ownL_one j 7 _ _ (by decide) (by decide)]
      · rfl
    have hs : ∀ j : Int, ownL j (subsL (findR l f.tag).1 f j f.subs.length) = (List.range f.subs.length).flatMap fun k => ownL 0 (subP (findR l f.tag).1 f 0 k) := fun j => by
      unfold subsL
      rw [ownL_range]
      congr 1
      exact funext fun k => own_sub _ f j k
    have hn : ∀ j : Int, ownL j (needsL (findR l f.tag).1 f j (findR l f.tag).1.needs.length) = (List.range (findR l f.tag).1.needs.length).flatMap fun k => ownL 0 (needP (findR l f.tag).1 f 0 k) := fun j => by
      unfold needsL
      rw [ownL_range]
      congr 1
      exact funext fun k => own_need _ f j k
    rw [h3, h3, h7, h7, hs, hs, hn, hn]
theorem one_index (l : List Rul) (f : Fld) (i : Int) (a : Bool) : ∀ x ∈ oneL l f i a, x.index = i := by
  intro x hx
  unfold oneL ruledL subsL needsL at hx
  split at hx
  · rw [List.mem_singleton.1 hx]
  · rw [List.mem_append, List.mem_append, List.mem_append] at hx
    rcases hx with hx | hx | hx | hx
    · split at hx
      · rw [List.mem_singleton.1 hx]
      · cases hx
    · obtain ⟨k, _, hk⟩ := List.mem_flatMap.1 hx
      unfold subP at hk
      split at hk
      · rw [List.mem_singleton.1 hk]
      · split at hk
        · rw [List.mem_singleton.1 hk]
        · cases hk
    · obtain ⟨k, _, hk⟩ := List.mem_flatMap.1 hx
      unfold needP at hk
      split at hk
      · rw [List.mem_singleton.1 hk]
      · cases hk
    · split at hx
      · rw [List.mem_singleton.1 hx]
      · cases hx
theorem own_must (idx : Int) (l : List Rul) (fs : List Fld) : ownL idx (mustL l fs) = [] := by
  refine ownL_none _ _ fun x hx => ?_
  unfold mustL at hx
  obtain ⟨t, _, ht⟩ := List.mem_flatMap.1 hx
  unfold mustP at ht
  split at ht
  · rw [List.mem_singleton.1 ht]; exact .inl rfl
  · cases ht
theorem own_fields (l : List Rul) (fs : List Fld) (i : Nat) : ∀ m, ownL (i : Int) (fieldsP l fs m) = if i < m then ownL (i : Int) (fieldAt l fs i) else []
  | 0 => rfl
  | m + 1 => by
    rw [fieldsP_succ, ownL_app, own_fields l fs i m]
    rcases Nat.lt_trichotomy i m with h | h | h
    · rw [if_pos h, if_pos (by omega), ownL_none _ (fieldAt l fs m) (fun x hx => .inr (.inr (by
        rw [one_index l _ _ _ x hx]
        omega))), List.append_nil]
    · subst h
      rw [if_neg (by omega), if_pos (by omega), List.nil_append]
    · rw [if_neg (by omega), if_neg (by omega), List.nil_append]
      exact ownL_none _ (fieldAt l fs m) (fun x hx => .inr (.inr (by
        rw [one_index l _ _ _ x hx]
        omega)))
theorem own_each (l : List Rul) (fs : List Fld) (i : Nat) (hi : i < fs.length) : ownL (i : Int) (checkL l fs) = ownL 0 (checkL l [fs.getD i fd0]) := by
  unfold checkL
  rw [ownL_app, ownL_app, own_must, own_must, own_fields, if_pos hi]
  show _ = [] ++ ownL ((0 : Nat) : Int) (fieldsP l [fs.getD i fd0] 1)
  rw [own_fields, if_pos (by decide), List.nil_append, List.nil_append]
  exact own_one l (fs.getD i fd0) (i : Int) _ _
open Go.RowKit Go.PlainAid

theorem check_le (l : List Rul) (fs : List Fld) (h : Fits l fs) : (checkL l fs).length ≤ 900000 := by
  unfold checkL
  have h1 := mustL_le fs l
  have h2 := fieldsP_le l fs h fs.length (Nat.le_refl _)
  have h3 := h.ln
  have h4 : fs.length * 2002 ≤ 100 * 2002 := Nat.mul_le_mul_right _ h.fn
  rw [List.length_append]
  omega
theorem one_fld (l : List Rul) (fs : List Fld) (h : Fits l fs) (k : Nat) (hk : k < fs.length) : Fits l [fs.getD k fd0] := by
  refine ⟨h.ln, by show 1 ≤ 100; decide, h.tl, fun i hi => ?_, fun i hi => ?_, h.nd⟩
  · obtain rfl : i = 0 := by simpa using hi
    exact h.tf k hk
  · obtain rfl : i = 0 := by simpa using hi
    exact h.sf k hk

set_option maxHeartbeats 2400000 in
set_option maxRecDepth 100000 in
theorem lawEach_any (v : Value) (l : List Rul) (r : Rec) (u : Value) (w : World) (hS : ST w) (hv : TL v l w) (hu : FL u r.fields w) :
    Calls Tryd.prog 9 #[v, RV r u] w fun e w' => e = .returned (.bool true) ∧ Below w.heap.size w w' := by
  have b0 := (Below.refl w.heap.size w).alloc (Nat.le_refl _) (.cells #[.int .i64 r.id, .int .i64 r.ver, .int .i64 r.kind, .string (S r.lang), u] 36)
  have hX := RB9.new hu
  have hv0 := hv.after b0
  have hS0 := hS.after b0
  have CA := Lib.hid alive_any
  have CSm := Lib.hid (fun W (h : TL v l W) (h2 : FL u r.fields W) => refSmall9_any l v r u W h h2)
  obtain ⟨er, her⟩ : ∃ er, rightL l = er := ⟨_, rfl⟩
  have CR := Lib.hid (fun (hb : Bnd l r.fields) W (h : TL v l W) => refRight9_any l v W h (fun i hi => bnd_small hb i hi) er her)
  have CU := Lib.hid (fun (hb : Bnd l r.fields) W (h : TL v l W) (h2 : FL u r.fields W) => uCheck_any l v r u W h h2 hb.fits)
  obtain ⟨P, hP⟩ : ∃ P, checkL l r.fields = P := ⟨_, rfl⟩
  have HC := Lib.hid (fun b W (h : RB9 b r u W) => h.cells)
  have HOwn := Lib.hid (fun k (hk : k < r.fields.length) => own_each l r.fields k hk)
  have CO0 := Lib.hid (fun (hb : Bnd l r.fields) x k W (hx : PL x P W) => own_any P x k W hx (by rw [← hP]; exact check_le _ _ hb.fits))
  have CO10 := Lib.hid (fun (hb : Bnd l r.fields) k (hk : k < r.fields.length) x W (hx : PL x (checkL l [r.fields.getD k fd0]) W) => own_any (checkL l [r.fields.getD k fd0]) x 0 W hx (check_le _ _ (one_fld _ _ hb.fits k hk)))
  have CU10 := Lib.hid (fun (hb : Bnd l r.fields) k (hk : k < r.fields.length) y W (h : TL v l W) (h2 : FL y [r.fields.getD k fd0] W) => uCheck_any l v ⟨r.id, r.ver, r.kind, r.lang, [r.fields.getD k fd0]⟩ y W h h2 (one_fld _ _ hb.fits k hk))
  rw [hP] at CU HOwn
  obtain ⟨a, cp, rfl, _, _⟩ := hv.length
  obtain ⟨au, cu, rfl, hcu, hmax⟩ := hu.length
  unfold maxLen at hmax
  unfold RV at CSm CU CU10 ⊢
  dsimp only at CU10
  obtain ⟨W0, hW0⟩ : ∃ W0, w.alloc (.cells #[.int .i64 r.id, .int .i64 r.ver, .int .i64 r.kind, .string (S r.lang), .slice au r.fields.length cu] 36) = W0 := ⟨_, rfl⟩
  rw [hW0] at b0 hX hv0 hS0
  have HW0 := Lib.hid hW0
  obtain ⟨m, hm⟩ : ∃ m, P.length = m := ⟨_, rfl⟩
  have HM := Lib.hid hm
  obtain ⟨k0, k1, k2, k3, k4⟩ := hX.cells
  clear hW0 her hP hm hv hu hS
  obtain ⟨n, hn⟩ : ∃ n, r.fields.length = n := ⟨_, rfl⟩
  have HN := Lib.hid hn
  rw [hn] at HW0 HOwn CO10 CU10 CU CSm HC hX hcu k4 ⊢
  clear hn
  generalize r.id = vi at *
  generalize r.ver = vv at *
  generalize r.kind = vk at *
  generalize S r.lang = vl at *
  generalize l.length = nl at *
  go_enter Tryd.func9, Tryd.ntmps9
  go_wp2_with fail
  rw [HW0.out]
  clear HW0
  refine (CA.out W0 hS0).mono ?_
  rintro e w1 ⟨rfl, c⟩
  have b1 := b0.trans (c.mono b0.size)
  have hT1 := hv0.after c
  have hX1 := hX.after c
  clear b0 c hv0 hX hS0 k0 k1 k2 k3 k4 CA
  obtain ⟨k0, k1, k2, k3, k4⟩ := HC.out _ _ hX1
  go_wp2_with fail
  refine (CSm.out w1 hT1 hX1.q).mono ?_
  rintro e w2 ⟨b, rfl, hb, c⟩
  have b2 := b1.trans (c.mono b1.size)
  have hT2 := hT1.after c
  have hX2 := hX1.after c
  have HB := Lib.hid hb
  clear b1 c hT1 hX1 hb k0 k1 k2 k3 k4 CSm
  cases b
  · go_wp2
    go_ret
    exact ⟨rfl, b2⟩
  have CR2 := Lib.hid (CR.out (HB.out (by trivial)))
  have CU2 := Lib.hid (CU.out (HB.out (by trivial)))
  have CO := Lib.hid (CO0.out (HB.out (by trivial)))
  have CO1 := Lib.hid (CO10.out (HB.out (by trivial)))
  have CU1 := Lib.hid (CU10.out (HB.out (by trivial)))
  clear CR CU CO0 CO10 CU10 HB
  go_wp2_with fail
  refine (CR2.out w2 hT2).mono ?_
  rintro e w3 ⟨rfl, c⟩
  have b3 := b2.trans (c.mono b2.size)
  have hT3 := hT2.after c
  have hX3 := hX2.after c
  clear b2 c hT2 hX2 CR2
  by_cases h0 : er = 0
  rotate_left
  · have t0 : (er != 0) = true := by simpa using h0
    clear h0
    go_wp2
    go_ret
    exact ⟨rfl, b3⟩
  subst h0
  obtain ⟨k0, k1, k2, k3, k4⟩ := HC.out _ _ hX3
  go_wp2_with fail
  refine (CU2.out w3 hT3 hX3.q).mono ?_
  rintro e w4 ⟨x, rfl, hP, c⟩
  have b4 := b3.trans (c.mono b3.size)
  have hT4 := hT3.after c
  have hX4 := hX3.after c
  obtain ⟨ap, cq, rfl, _, _⟩ := hP.length
  rw [HM.out] at hP ⊢
  clear b3 c hT3 hX3 k0 k1 k2 k3 k4 CU2
  have HT4 := Lib.hid hT4
  have HX4 := Lib.hid hX4
  have HP4 := Lib.hid hP
  have HB4 := Lib.hid b4
  have HRef := Lib.hid (Below.refl w4.heap.size w4)
  clear hT4 hX4 hP b4
  go_wp2
  go_loopw [6] (fun i wr => ∃ k : Nat, k ≤ n ∧ i = .int .i64 (k : Int) ∧ Below w4.heap.size w4 wr) (fun i _ => n - (intOf i).toNat)
  case atStart => exact ⟨0, Nat.zero_le _, rfl, HRef.out⟩
  case round =>
    obtain ⟨k, hk, rfl, hbw⟩ := hrel
    have hXr := HX4.out.after hbw
    obtain ⟨k0, k1, k2, k3, k4⟩ := HC.out _ _ hXr
    by_cases hkn : k < n
    · obtain ⟨g', o, cap', y, he, hg, c0, c1, c2, c3, hql⟩ := hXr.q.at k (by rw [HN.out]; exact hkn)
      have he' := he
      rw [HN.out] at he'
      obtain ⟨ha, -, hcp⟩ := Value.slice.inj he'
      subst ha hcp
      clear he he'
      obtain ⟨ax, cx, hx, _, _⟩ := hql.length
      subst hx
      have i1 : (0 : Int) ≤ (k : Int) := by omega
      have i2 : (k : Int) < (n : Int) := by omega
      have hltb : w.heap.size < wr.heap.size := hXr.lt
      have hOw := HOwn.out k hkn
      have hCO1 := Lib.hid (fun x W hx => CO1.out k hkn x W hx)
      have hCU1 := Lib.hid (fun y W h h2 => CU1.out k hkn y W h h2)
      obtain ⟨f, hfk⟩ : ∃ f, r.fields.getD k fd0 = f := ⟨_, rfl⟩
      rw [hfk] at c0 c1 c2 c3 hql hOw hCO1 hCU1
      obtain ⟨P1, hP1⟩ : ∃ P1, checkL l [f] = P1 := ⟨_, rfl⟩
      rw [hP1] at hOw hCO1 hCU1
      have CSP := Lib.hid (fun x y W hx hy => refSameP_any (ownL (k : Int) P) (ownL 0 P1) x y W hx hy true ⟨fun _ => hOw, fun _ => rfl⟩)
      have D1 := Lib.hid (fun x W hx => hCO1.out x W hx)
      have HBx := Lib.hid hbw
      obtain ⟨wn, hwn⟩ : ∃ wn, (wr.alloc (.cells #[.int .i64 vi, .int .i64 vv, .int .i64 vk, .string vl, .slice (some ⟨wr.heap.size + 1, 0, none⟩) 1 1] 36)).alloc (.cells #[.string (S f.tag), .string (S f.ind), .slice ax f.subs.length cx, .int .i64 f.auth] 47) = wn := ⟨_, rfl⟩
      have hbn : Below wr.heap.size wr wn := by rw [← hwn]; exact ((Below.refl wr.heap.size wr).alloc (Nat.le_refl _) _).alloc (by simp) _
      have hrb : wn.heap[wr.heap.size]? = some (.cells #[.int .i64 vi, .int .i64 vv, .int .i64 vk, .string vl, .slice (some ⟨wr.heap.size + 1, 0, none⟩) 1 1] 36 (0, 0)) := by
        rw [← hwn, Below.heap_alloc _ _ _ (by simp)]
        exact heap_alloc_new wr _
      have hfb : wn.heap[wr.heap.size + 1]? = some (.cells #[.string (S f.tag), .string (S f.ind), .slice ax f.subs.length cx, .int .i64 f.auth] 47 (0, 0)) := by
        rw [← hwn]
        have := heap_alloc_new (wr.alloc (.cells #[.int .i64 vi, .int .i64 vv, .int .i64 vk, .string vl, .slice (some ⟨wr.heap.size + 1, 0, none⟩) 1 1] 36)) (.cells #[.string (S f.tag), .string (S f.ind), .slice ax f.subs.length cx, .int .i64 f.auth] 47)
        simpa using this
      have hsq : FL (.slice (some ⟨wr.heap.size + 1, 0, none⟩) 1 1) [f] wn := by
        refine ⟨some ⟨wr.heap.size + 1, 0, none⟩, 1, rfl, Nat.le_refl _, by unfold maxLen; decide, (fun h => by cases h), fun i hi => ?_⟩
        obtain rfl : i = 0 := by simpa using hi
        refine ⟨wr.heap.size + 1, 0, .slice ax f.subs.length cx, rfl, (Array.getElem?_eq_some_iff.1 hfb).1, ?_, ?_, ?_, ?_, hql.after hbn⟩ <;> (rw [Lib.cell_of_heap hfb]; rfl)
      have HSq := Lib.hid (fun W (h : Below wn.heap.size wn W) => hsq.after h)
      have HSc : RowKit.Hid (∀ W, Below wn.heap.size wn W → W.cell? ⟨wr.heap.size, 0, none⟩ = some (.int .i64 vi) ∧ W.cell? ⟨wr.heap.size, 1, none⟩ = some (.int .i64 vv) ∧ W.cell? ⟨wr.heap.size, 2, none⟩ = some (.int .i64 vk) ∧ W.cell? ⟨wr.heap.size, 3, none⟩ = some (.string vl) ∧ W.cell? ⟨wr.heap.size, 4, none⟩ = some (.slice (some ⟨wr.heap.size + 1, 0, none⟩) 1 1)) := by
        intro W h
        have hh := (h.block _ (Array.getElem?_eq_some_iff.1 hrb).1).trans hrb
        refine ⟨?_, ?_, ?_, ?_, ?_⟩ <;> (rw [Lib.cell_of_heap hh]; rfl)
      have hB4 : Below w4.heap.size w4 wn := hbw.trans (hbn.mono hbw.size)
      have HT := Lib.hid (fun W (h : Below wn.heap.size wn W) => HT4.out.after (hB4.trans (h.mono hB4.size)))
      have HPp := Lib.hid (fun W (h : Below wn.heap.size wn W) => HP4.out.after (hB4.trans (h.mono hB4.size)))
      have HBn := Lib.hid hB4
      have HWN := Lib.hid hwn
      have D0 := Lib.hid (fun W h => CO.out (.slice ap m cq) (k : Int) W h)
      have DU := Lib.hid (fun W h h2 => hCU1.out (.slice (some ⟨wr.heap.size + 1, 0, none⟩) 1 1) W h h2)
      clear hwn hbn hrb hfb hsq hB4 hOw hP1 hfk hql hbw hCO1 hCU1 CO CO1 CU1 HP4 HT4 HX4 HB4 HOwn HRef HC hXr
      obtain ⟨st, hst⟩ : ∃ s, S f.tag = s := ⟨_, rfl⟩
      obtain ⟨si, hsi⟩ : ∃ s, S f.ind = s := ⟨_, rfl⟩
      obtain ⟨ns, hns⟩ : ∃ s, f.subs.length = s := ⟨_, rfl⟩
      obtain ⟨va, hva⟩ : ∃ s, f.auth = s := ⟨_, rfl⟩
      rw [hst] at c0 HWN
      rw [hsi] at c1 HWN
      rw [hns] at c2 HWN
      rw [hva] at c3 HWN
      clear hst hsi hns hva
      go_upto_region 11 with fail
      rw [HWN.out]
      clear HWN c0 c1 c2 c3 k0 k1 k2 k3 k4
      apply wp_region_inv (V := [.eq (.slice ap m cq), .eq (.int .i64 (k : Int)), .pl (ownL (k : Int) P), .eq (.slice a nl cp), .eq (.agg #[.int .i64 vi, .int .i64 vv, .int .i64 vk, .string vl, .slice (some ⟨wr.heap.size + 1, 0, none⟩) 1 1]), .pl P1, .pl (ownL 0 P1), .eq (.bool true), .eq (.bool false)])
      case hm => kernel_rfl
      case hd => kernel_rfl
      case hb => kernel_rfl
      case hA =>
        intro vs
        simp only [puts, Act.put, List.setIfInBounds_toArray, List.set_cons_zero, List.set_cons_succ]
        exact rfl
      case hob =>
        refine Obs.cons _ _ _ _ _ _ ?o0 (Obs.cons _ _ _ _ _ _ ?o1 (Obs.cons _ _ _ _ _ _ ?o2 (Obs.cons _ _ _ _ _ _ ?o3 (Obs.cons _ _ _ _ _ _ ?o4 (Obs.cons _ _ _ _ _ _ ?o5 (Obs.cons _ _ _ _ _ _ ?o6 (Obs.cons _ _ _ _ _ _ ?o7 (Obs.cons _ _ _ _ _ _ ?o8 (Obs.nil _ _ _ _ _ _)))))))))
        case o0 =>
          intro vs W hw hd K hK
          go_simp
          exact hK.out _ _ rfl (Below.refl _ _)
        case o1 =>
          intro vs W hw hd K hK
          go_simp
          exact hK.out _ _ rfl (Below.refl _ _)
        case o2 =>
          intro vs W hw hd K hK
          have h0 : vs 0 = .slice ap m cq := hd 0 (by kernel_rfl)
          have h1 : vs 1 = .int .i64 (k : Int) := hd 1 (by kernel_rfl)
          simp only [Nat.reduceAdd, h0, h1] at hK ⊢
          go_simp
          refine (D0.out W (HPp.out W hw)).mono ?_
          rintro e W' ⟨v', rfl, hP', hb'⟩
          exact hK.out _ _ hP' hb'
        case o3 =>
          intro vs W hw hd K hK
          go_simp
          exact hK.out _ _ rfl (Below.refl _ _)
        case o4 =>
          intro vs W hw hd K hK
          obtain ⟨k0, k1, k2, k3, k4⟩ := HSc.out W hw
          go_simp
          exact hK.out _ _ rfl (Below.refl _ _)
        case o5 =>
          intro vs W hw hd K hK
          have h3 : vs 3 = .slice a nl cp := hd 3 (by kernel_rfl)
          have h4 : vs 4 = .agg #[.int .i64 vi, .int .i64 vv, .int .i64 vk, .string vl, .slice (some ⟨wr.heap.size + 1, 0, none⟩) 1 1] := hd 4 (by kernel_rfl)
          simp only [Nat.reduceAdd, h3, h4] at hK ⊢
          go_simp
          refine (DU.out W (HT.out W hw) (HSq.out W hw)).mono ?_
          rintro e W' ⟨v', rfl, hP', hb'⟩
          exact hK.out _ _ hP' hb'
        case o6 =>
          intro vs W hw hd K hK
          have q5 : PL (vs 5) P1 W := hd 5 (by kernel_rfl)
          simp only [Nat.reduceAdd] at hK ⊢
          go_simp
          refine (D1.out _ W q5).mono ?_
          rintro e W' ⟨v', rfl, hP', hb'⟩
          exact hK.out _ _ hP' hb'
        case o7 =>
          intro vs W hw hd K hK
          have q2 : PL (vs 2) (ownL (k : Int) P) W := hd 2 (by kernel_rfl)
          have q6 : PL (vs 6) (ownL 0 P1) W := hd 6 (by kernel_rfl)
          simp only [Nat.reduceAdd] at hK ⊢
          go_simp
          refine (CSP.out _ _ W q2 q6).mono ?_
          rintro e W' ⟨rfl, hb'⟩
          exact hK.out _ _ rfl hb'
        case o8 =>
          intro vs W hw hd K hK
          have h7 : vs 7 = .bool true := hd 7 (by kernel_rfl)
          simp only [Nat.reduceAdd, h7] at hK ⊢
          go_simp
          exact hK.out _ _ rfl (Below.refl _ _)
      case hfin =>
        intro vs W hw hv'
        have hk : vs 8 = .bool false := hv' 8 (by decide)
        simp only [Nat.reduceAdd, hk]
        have b4 := HBn.out.trans (hw.mono HBn.out.size)
        clear hv' HT HSq HSc HPp D0 D1 DU CSP
        go_wp2
        go_roundw
        case rel => exact ⟨k + 1, by omega, by go_num, b4⟩
        case measure => simp [intOf]; omega
    · obtain rfl : k = n := by omega
      have hbf := HB4.out.trans (hbw.mono HB4.out.size)
      go_wp2
      go_ret
      exact ⟨rfl, hbf⟩
end Go.Proofs.YtjfdolmcecgdgaaDoor
