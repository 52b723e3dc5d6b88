/- Merged: RJ10, RK10, ArgsQ. -/
import Derived.Test.YtiledacfdaenbaaDoorQ30
import Derived.Test.YtiledacfdaenbaaDoorQ03
import Derived.Test.YtiledacfdaenbaaDoorQ01
import Derived.Test.YtiledacfdaenbaaDoorRows
import Derived.SliceStrings
import Derived.Lib.SmallJoins
import Derived.Carry
namespace Go.Proofs.YtiledacfdaenbaaDoor

section
open Go.RowKit Go.PlainAid
theorem subG_le : ∀ (n : Nat) (l : List UInt8) (M : List Sub), l.length ≤ n → subG l = some M → ∀ s ∈ M, s.2.length ≤ l.length
  | n, l, M, hn, h, s, hs => by
    by_cases h0 : l.length = 0 ∨ l.getD 0 0 ≠ 31
    · rw [subG_end l h0] at h
      obtain rfl := Option.some.inj h
      cases hs
    · by_cases h1 : l.length ≤ stopF (l.drop 2) + 2
      · rw [subG_bad l h0 h1] at h
        cases h
      · rw [subG_go l h0 h1] at h
        cases n with
        | zero => exact absurd (.inl (by omega)) h0
        | succ m =>
          cases e : subG (l.drop (stopF (l.drop 2) + 2)) with
          | none => rw [e] at h; cases h
          | some M2 =>
            rw [e] at h
            obtain rfl := Option.some.inj h
            rcases List.mem_cons.1 hs with rfl | hs
            · show ((l.drop 2).take _).length ≤ _
              rw [List.length_take, List.length_drop]
              omega
            · have := subG_le m _ M2 (by rw [List.length_drop]; omega) e s hs
              rw [List.length_drop] at this
              omega
theorem fldG_le (tag b : List UInt8) (f : Fld) (h : fldG tag b = some f) : ∀ s ∈ f.subs, s.2.length ≤ b.length := by
  unfold fldG at h
  cases e : subG (b.drop 6) with
  | none => rw [e] at h; cases h
  | some M =>
    rw [e] at h
    obtain rfl := Option.some.inj h
    intro s hs
    have := subG_le _ (b.drop 6) M (Nat.le_refl _) e s hs
    rw [List.length_drop] at this
    omega
theorem dirG_le (s : List UInt8) (base : Nat) : ∀ (n i : Nat) (F : List Fld), base - i ≤ n → dirG s base i = some F → ∀ f ∈ F, ∀ x ∈ f.subs, x.2.length ≤ s.length
  | n, i, F, hn, h, f, hf, x, hx => by
    by_cases h0 : base ≤ i + 12
    · rw [dirG, dif_pos h0] at h
      obtain rfl := Option.some.inj h
      cases hf
    · by_cases hb : numF s (i + 3) 4 < 7 ∨ numF s (i + 7) 5 < 0 ∨ (s.length : Int) < (base : Int) + numF s (i + 7) 5 + numF s (i + 3) 4
      · rw [dirG_none s base i h0 hb] at h
        cases h
      · cases e : fldG ((s.drop i).take 3) ((s.drop (base + (numF s (i + 7) 5).toNat)).take (numF s (i + 3) 4).toNat) with
        | none =>
          rw [dirG_badf s base i h0 hb e] at h
          cases h
        | some g =>
          rw [dirG_go s base i h0 hb g e] at h
          cases n with
          | zero => omega
          | succ m =>
            cases e2 : dirG s base (i + 12) with
            | none => rw [e2] at h; cases h
            | some F2 =>
              rw [e2] at h
              obtain rfl := Option.some.inj h
              rcases List.mem_cons.1 hf with rfl | hf
              · have := fldG_le _ _ _ e x hx
                rw [List.length_take, List.length_drop] at this
                omega
              · exact dirG_le s base m (i + 12) F2 (by omega) e2 f hf x hx
theorem recG_le (l : List UInt8) (r : Rec) (h : recG l = some r) : r.lang.length ≤ 3 ∧ ∀ i, i < r.fields.length → ∀ j, j < (r.fields.getD i fd0).subs.length → ((r.fields.getD i fd0).subs.getD j sub0).2.length ≤ l.length := by
  unfold recG at h
  split at h
  · cases h
  · split at h
    · cases h
    · cases e : dirG l (numF l 11 5).toNat 24 with
      | none => rw [e] at h; cases h
      | some F =>
        rw [e] at h
        obtain rfl := Option.some.inj h
        refine ⟨by show ((l.drop 8).take 3).length ≤ 3; rw [List.length_take]; omega, fun i hi j hj => ?_⟩
        have hi : i < F.length := hi
        have hm : F.getD i fd0 ∈ F := by
          rw [List.getD_eq_getElem?_getD, List.getElem?_eq_getElem hi]
          exact List.getElem_mem _
        have hj : j < (F.getD i fd0).subs.length := hj
        have hs : (F.getD i fd0).subs.getD j sub0 ∈ (F.getD i fd0).subs := by
          rw [List.getD_eq_getElem?_getD (l := (F.getD i fd0).subs), List.getElem?_eq_getElem hj]
          exact List.getElem_mem _
        exact dirG_le l _ _ 24 F (Nat.le_refl _) e _ hm _ hs
theorem refRead2 (l : List UInt8) (hz : l.length ≤ 100000) (w : World) :
    Calls Tryd.prog 27 #[.string (S l)] w fun e w' => ∃ r u ok, e = .returned (.tuple #[RV r u, .bool ok]) ∧ Below w.heap.size w w' ∧ New w.heap.size (FL u r.fields) w' ∧ ((recG l = none ∧ ok = false) ∨ (recG l = some r ∧ ok = true)) :=
  (refRead_any l hz w).mono fun e w' h => by
    obtain ⟨r, u, ok, h1, h2, h3, h4⟩ := h
    exact ⟨r, u, ok, h1, h2, h3, h4.symm⟩
theorem refEncode2 (r : Rec) (u : Value) (w : World) (hu : FL u r.fields w) (_hlz : r.lang.length ≤ maxLen) (hz : ∀ i, i < r.fields.length → ∀ j, j < (r.fields.getD i fd0).subs.length → ((r.fields.getD i fd0).subs.getD j sub0).2.length ≤ 1000000) :
    Calls Tryd.prog 11 #[RV r u] w fun e w' => e = .returned (.tuple #[.string (S (encX r).1), .int .i64 (encX r).2]) ∧ Below w.heap.size w w' := refEncode_any r u w hu hz

set_option maxHeartbeats 16000000 in
set_option maxRecDepth 100000 in
theorem refDecode_any (l : List UInt8) (w : World) (hE : Env w) (hz : l.length ≤ 100000) :
    Calls Tryd.prog 13 #[.string (S l)] w fun e w' => ∃ u, e = .returned (.tuple #[RV (decG l).1 u, .int .i64 (decG l).2]) ∧ New w.heap.size (FL u (decG l).1.fields) w' ∧ Below w.heap.size w w' := by
  obtain ⟨q, er, hd⟩ : ∃ q er, decG l = (q, er) := ⟨_, _, rfl⟩
  rw [hd]
  obtain ⟨Q, hQ⟩ : ∃ Q, (fun (e : Ending) (w' : World) => ∃ u, e = .returned (.tuple #[RV q u, .int .i64 er]) ∧ New w.heap.size (FL u q.fields) w' ∧ Below w.heap.size w w') = Q := ⟨_, rfl⟩
  show Calls _ _ _ _ (fun (e : Ending) (w' : World) => ∃ u, e = .returned (.tuple #[RV q u, .int .i64 er]) ∧ New w.heap.size (FL u q.fields) w' ∧ Below w.heap.size w w')
  rw [hQ]
  have HQ : RowKit.Hid (∀ e w', (∃ u, e = .returned (.tuple #[RV q u, .int .i64 er]) ∧ New w.heap.size (FL u q.fields) w' ∧ Below w.heap.size w w') → Q e w') := by rw [← hQ]; exact fun _ _ h => h
  clear hQ
  have hR0 : (w.alloc (.cells #[.int .i64 0, .int .i64 0, .int .i64 0, .string ⟨#[]⟩, .slice none 0 0] 24)).heap[w.heap.size]? = some (.cells #[.int .i64 0, .int .i64 0, .int .i64 0, .string ⟨#[]⟩, .slice none 0 0] 24 (0, 0)) := heap_alloc_new w _
  have b0 : Below w.heap.size w (w.alloc (.cells #[.int .i64 0, .int .i64 0, .int .i64 0, .string ⟨#[]⟩, .slice none 0 0] 24)) := (Below.refl w.heap.size w).alloc (Nat.le_refl _) _
  obtain ⟨W0, hW0⟩ : ∃ W0, w.alloc (.cells #[.int .i64 0, .int .i64 0, .int .i64 0, .string ⟨#[]⟩, .slice none 0 0] 24) = W0 := ⟨_, rfl⟩
  rw [hW0] at hR0 b0
  have hlt0 : w.heap.size < W0.heap.size := by rw [← hW0]; simp
  have HW0 := Lib.hid hW0
  have B0 := Lib.hid b0
  have HR0 := Lib.hid hR0
  have HEW : RowKit.Hid (∀ W, Below W0.heap.size W0 W → Env W) := fun W hW => hE.after (b0.trans (hW.mono b0.size))
  have hsz := S_size l
  have hne : ∀ x, S_eq x l = S_eq x l := fun _ => rfl
  clear hW0 b0 hE hne
  have HD : RowKit.Hid ((match recG l with | none => (rec0, 3) | some r => if encX r = (l, 0) then (r, 0) else (rec0, 3)) = (q, er)) := by
    unfold RowKit.Hid
    rw [← hd]
    rfl
  have c1 := Lib.hid (refRead2 l hz W0)
  have hln := hz
  clear hd hR0 
  go_enter Tryd.func13, Tryd.ntmps13
  go_wp2_with fail
  rw [HW0.out]
  refine c1.out.mono ?_
  rintro e w1 ⟨r, u, ok, rfl, b1, hnew, hcase⟩
  obtain ⟨ua, uc, hu, -, -⟩ := hnew.here.length
  subst hu
  have hb2 := b1.alloc (w := w1) b1.size (.cells #[.int .i64 r.id, .int .i64 r.ver, .int .i64 r.kind, .string (S r.lang), .slice ua r.fields.length uc] 24)
  have hR2 : (w1.alloc (.cells #[.int .i64 r.id, .int .i64 r.ver, .int .i64 r.kind, .string (S r.lang), .slice ua r.fields.length uc] 24)).heap[w.heap.size]? = some (.cells #[.int .i64 0, .int .i64 0, .int .i64 0, .string ⟨#[]⟩, .slice none 0 0] 24 (0, 0)) := (hb2.block w.heap.size hlt0).trans HR0.out
  have hX2 : (w1.alloc (.cells #[.int .i64 r.id, .int .i64 r.ver, .int .i64 r.kind, .string (S r.lang), .slice ua r.fields.length uc] 24)).heap[w1.heap.size]? = some (.cells #[.int .i64 r.id, .int .i64 r.ver, .int .i64 r.kind, .string (S r.lang), .slice ua r.fields.length uc] 24 (0, 0)) := heap_alloc_new w1 _
  have hn2 := hnew.after ((Below.refl w1.heap.size w1).alloc (Nat.le_refl _) (.cells #[.int .i64 r.id, .int .i64 r.ver, .int .i64 r.kind, .string (S r.lang), .slice ua r.fields.length uc] 24))
  have hlt1 : w.heap.size < w1.heap.size := Nat.lt_of_lt_of_le hlt0 b1.size
  have hlt2 : w1.heap.size < (w1.alloc (.cells #[.int .i64 r.id, .int .i64 r.ver, .int .i64 r.kind, .string (S r.lang), .slice ua r.fields.length uc] 24)).heap.size := by simp
  obtain ⟨W2, hW2⟩ : ∃ W2, w1.alloc (.cells #[.int .i64 r.id, .int .i64 r.ver, .int .i64 r.kind, .string (S r.lang), .slice ua r.fields.length uc] 24) = W2 := ⟨_, rfl⟩
  rw [hW2] at hb2 hR2 hX2 hn2 hlt2
  have HW2 := Lib.hid hW2
  have HX2 := Lib.hid hX2
  have HR2 := Lib.hid hR2
  have HN2 := Lib.hid hn2
  have B2 := Lib.hid (B0.out.trans (hb2.mono B0.out.size))
  have HE2 := Lib.hid (HEW.out W2 hb2)
  clear hb2 hX2 hn2 hW2 hnew b1 hR2 c1
  unfold RV
  rcases hcase with ⟨hrec, rfl⟩ | ⟨hrec, rfl⟩
  · have hH := HD.out
    rw [hrec] at hH
    obtain ⟨rfl, rfl⟩ := Prod.mk.inj hH
    obtain ⟨⟨r0, r1, r2, r3, r4⟩, g0, g1, g2, g3, g4⟩ := rcells HR2.out
    have hfin := Lib.hid (rec_set5 (x0 := .int .i64 0) (x1 := .int .i64 0) (x2 := .int .i64 0) (x3 := .string ⟨#[]⟩) (x4 := .slice Option.none 0 0) HR2.out)
    have hb := Lib.hid (rec_below (x0 := .int .i64 0) (x1 := .int .i64 0) (x2 := .int .i64 0) (x3 := .string ⟨#[]⟩) (x4 := .slice Option.none 0 0) B2.out)
    unfold setR5 at hfin hb
    clear hH hrec HD
    go_upto_if 14 with fail
    rw [HW2.out]
    go_wp2
    (try simp only [Exit.inBlock, Exit.then])
    refine bodyPost_ret (results_row_tmp10 rfl _ _ w.heap.size _ _ _ _ rfl hfin.out Tryd.underlying24 rfl (by kernel_rfl)) rfl ?_
    exact HQ.out _ _ ⟨_, rfl, fl_none _ _, hb.out⟩
  have hle := recG_le l r hrec
  have cE := refEncode2 r (.slice ua r.fields.length uc) W2 HN2.out.here (by have := hle.1; unfold maxLen; omega) (fun i hi j hj => by have := hle.2 i hi j hj; omega)
  obtain ⟨es, ee, hee⟩ : ∃ es ee, encX r = (es, ee) := ⟨_, _, rfl⟩
  rw [hee] at cE
  unfold RV at cE
  have CE := Lib.hid cE
  have HH : RowKit.Hid ((if (es, ee) = (l, (0 : Int)) then (r, (0 : Int)) else (rec0, 3)) = (q, er)) := by
    have hH := HD.out
    rw [hrec] at hH
    simp only [hee] at hH
    exact hH
  obtain ⟨⟨x0, x1, x2, x3, x4⟩, -⟩ := rcells HX2.out
  clear cE hee hle HD hrec
  go_wp2_with fail
  rw [HW2.out]
  refine CE.out.mono ?_
  rintro e w3 ⟨rfl, b3⟩
  have hR3 := (b3.block w.heap.size (Nat.lt_trans hlt1 hlt2)).trans HR2.out
  have hX3 := (b3.block w1.heap.size hlt2).trans HX2.out
  have B3 := Lib.hid (B2.out.trans (b3.mono B2.out.size))
  have HN3 := Lib.hid (HN2.out.after b3)
  clear b3 CE x0 x1 x2 x3 x4
  obtain ⟨⟨r0, r1, r2, r3, r4⟩, g0, g1, g2, g3, g4⟩ := rcells hR3
  obtain ⟨⟨x0, x1, x2, x3, x4⟩, -⟩ := rcells hX3
  have hq := S_eq es l
  by_cases hok : es = l ∧ ee = 0
  · obtain ⟨rfl, rfl⟩ := hok
    have hH := HH.out
    rw [if_pos rfl] at hH
    obtain ⟨rfl, rfl⟩ := Prod.mk.inj hH
    rw [decide_eq_true rfl] at hq
    have hfin := Lib.hid (rec_set5 (x0 := .int .i64 r.id) (x1 := .int .i64 r.ver) (x2 := .int .i64 r.kind) (x3 := .string (S r.lang)) (x4 := .slice ua r.fields.length uc) hR3)
    have hb := Lib.hid (rec_below (x0 := .int .i64 r.id) (x1 := .int .i64 r.ver) (x2 := .int .i64 r.kind) (x3 := .string (S r.lang)) (x4 := .slice ua r.fields.length uc) B3.out)
    have hnn : New W0.heap.size (FL (.slice ua r.fields.length uc) r.fields) (setR5 w3 w.heap.size (.int .i64 r.id) (.int .i64 r.ver) (.int .i64 r.kind) (.string (S r.lang)) (.slice ua r.fields.length uc)) :=
      HN3.out.on (by rw [rec_size]; exact Nat.le_refl _) (fun i hi _ => rec_other i (by omega))
    have HNN := Lib.hid (hnn.mono (B := w.heap.size) (Nat.le_of_lt hlt0))
    unfold setR5 at hfin hb HNN
    clear hH HH hR3 hX3 hnn
    generalize S es = ses at *
    go_wp2
    (try simp only [Exit.inBlock, Exit.then])
    refine bodyPost_ret (results_row_tmp10 rfl _ _ w.heap.size _ _ _ _ rfl hfin.out Tryd.underlying24 rfl (by kernel_rfl)) rfl ?_
    exact HQ.out _ _ ⟨_, rfl, HNN.out, hb.out⟩
  · have hH := HH.out
    rw [if_neg (fun h => hok ⟨(Prod.mk.inj h).1, (Prod.mk.inj h).2⟩)] at hH
    obtain ⟨rfl, rfl⟩ := Prod.mk.inj hH
    have hfin := Lib.hid (rec_set5 (x0 := .int .i64 0) (x1 := .int .i64 0) (x2 := .int .i64 0) (x3 := .string ⟨#[]⟩) (x4 := .slice none 0 0) hR3)
    have hb := Lib.hid (rec_below (x0 := .int .i64 0) (x1 := .int .i64 0) (x2 := .int .i64 0) (x3 := .string ⟨#[]⟩) (x4 := .slice none 0 0) B3.out)
    unfold setR5 at hfin hb
    clear hH HH hR3 hX3
    by_cases h0 : ee = 0
    · rw [decide_eq_false (fun h => hok ⟨h, h0⟩)] at hq
      subst h0
      clear hok
      generalize S es = ses at *
      go_wp2
      (try simp only [Exit.inBlock, Exit.then])
      refine bodyPost_ret (results_row_tmp10 rfl _ _ w.heap.size _ _ _ _ rfl hfin.out Tryd.underlying24 rfl (by kernel_rfl)) rfl ?_
      exact HQ.out _ _ ⟨_, rfl, fl_none _ _, hb.out⟩
    · have t0 : (ee != 0) = true := by simpa using h0
      clear hq hok h0
      go_wp2
      (try simp only [Exit.inBlock, Exit.then])
      refine bodyPost_ret (results_row_tmp10 rfl _ _ w.heap.size _ _ _ _ rfl hfin.out Tryd.underlying24 rfl (by kernel_rfl)) rfl ?_
      exact HQ.out _ _ ⟨_, rfl, fl_none _ _, hb.out⟩
end

section
open Go.RowKit Go.PlainAid
set_option maxHeartbeats 16000000 in
set_option maxRecDepth 100000 in
theorem refExport_any (L : List Rec) (v : Value) (w : World) (hv : RL v L w) (hok : ∀ r ∈ L, okR r) (s : List UInt8) (er : Int) (hr : expR L = (s, er)) :
    Calls Tryd.prog 17 #[v] w fun e w' => e = .returned (.tuple #[.string (S s), .int .i64 er]) ∧ Below w.heap.size w w' := by
  obtain ⟨Q, hQ⟩ : ∃ Q, (fun (e : Ending) (w' : World) => e = .returned (.tuple #[.string (S s), .int .i64 er]) ∧ Below w.heap.size w w') = Q := ⟨_, rfl⟩
  rw [hQ]
  have HQ : RowKit.Hid (∀ e w', (e = .returned (.tuple #[.string (S s), .int .i64 er]) ∧ Below w.heap.size w w') → Q e w') := by rw [← hQ]; exact fun _ _ h => h
  clear hQ
  have HV := Lib.hid hv
  have HOk := Lib.hid hok
  obtain ⟨a, cap, rfl, -, hmax⟩ := hv.length
  obtain ⟨n, hn⟩ : ∃ n, L.length = n := ⟨_, rfl⟩
  rw [hn] at HV ⊢
  have HN := Lib.hid hn
  clear hv hok
  by_cases h64 : 64 < n
  · have t1 : decide ((64 : Int) < (n : Int)) = true := decide_eq_true (by omega)
    unfold expR at hr
    rw [if_pos (by omega)] at hr
    obtain ⟨rfl, rfl⟩ := Prod.mk.inj hr
    clear hr hn h64
    go_enter Tryd.func17, Tryd.ntmps17
    go_wp2
    exact HQ.out _ _ ⟨rfl, Below.refl _ _⟩
  · have t1 : decide ((64 : Int) < (n : Int)) = false := decide_eq_false (by omega)
    have hn64 : n ≤ 64 := by omega
    rw [expR_eq L (by omega)] at hr
    have HR := Lib.hid hr
    have HD0 : RowKit.Hid (catX L = catB [] (catX (L.drop 0))) := by
      unfold RowKit.Hid
      rw [List.drop_zero]
      exact catX_nil L
    clear hr hn h64
    go_enter Tryd.func17, Tryd.ntmps17
    go_wp2
    go_loopw [4, 5] (fun sv i wr => ∃ (k : Nat) (D : List UInt8), sv = .string (S D) ∧ i = .int .i64 (k : Int) ∧ k ≤ n ∧ D.length ≤ 9999 * k ∧ RowKit.Hid (catX L = catB D (catX (L.drop k))) ∧ RowKit.Hid (Below w.heap.size w wr)) (fun _ i _ => n - (intOf i).toNat)
    case atStart => exact ⟨0, [], rfl, rfl, Nat.zero_le _, by simp, HD0, Below.refl _ _⟩
    case round =>
      obtain ⟨k, D, rfl, rfl, hk, hDl, HD, HB⟩ := hrel
      clear HD0
      by_cases hkn : k < n
      · have i1 : (0 : Int) ≤ (k : Int) := by omega
        have i2 : (k : Int) < (n : Int) := by omega
        obtain ⟨g, o, cap', u, he, hg, c0, c1, c2, c3, c4, hq⟩ := (HV.out.after HB.out).at k (by rw [HN.out]; exact hkn)
        obtain ⟨ha, -, hcp⟩ := Value.slice.inj he
        subst ha hcp
        have hLk : L[k]? = some (L.getD k rec0) := by
          rw [List.getD_eq_getElem?_getD, List.getElem?_eq_getElem (by rw [HN.out]; exact hkn)]
          rfl
        have hokr := HOk.out _ (List.mem_of_getElem? hLk)
        have HStep := Lib.hid (catX_step L k _ hLk)
        obtain ⟨r, hre⟩ : ∃ r, L.getD k rec0 = r := ⟨_, rfl⟩
        rw [hre] at c0 c1 c2 c3 hq HStep hokr
        obtain ⟨ua, uc, hue, -, -⟩ := hq.length
        obtain ⟨ul, hul⟩ : ∃ m, r.fields.length = m := ⟨_, rfl⟩
        rw [hul] at hue
        subst hue
        have cE := refEncode_any r (.slice ua ul uc) wr hq hokr.2
        unfold RV at cE
        obtain ⟨es, ee, hee⟩ : ∃ es ee, encX r = (es, ee) := ⟨_, _, rfl⟩
        have hel := encX_le r
        rw [hee] at cE HStep hel
        simp only at HStep hel
        have CE := Lib.hid cE
        clear he hLk hokr hre hq hul cE hee
        go_wp2_with fail
        refine CE.out.mono ?_
        rintro e w2 ⟨rfl, hb2⟩
        have HB2 : RowKit.Hid (Below w.heap.size w w2) := HB.out.trans (hb2.mono HB.out.size)
        clear hb2 c0 c1 c2 c3 c4 CE
        by_cases h0 : ee = 0
        · subst h0
          have HS2 : RowKit.Hid (catX L = catB (D ++ es) (catX (L.drop (k + 1)))) := by
            unfold RowKit.Hid
            have := HStep.out
            rw [if_neg (fun h => h rfl)] at this
            rw [HD.out, this, catB_cat]
          have hlen : (D ++ es).length ≤ 9999 * (k + 1) := by rw [List.length_append]; omega
          have HLen := Lib.hid hlen
          have HApp := Lib.hid (S_append D es)
          have hz1 := S_size D
          have hz2 := S_size es
          obtain ⟨dl, hdl⟩ : ∃ x, D.length = x := ⟨_, rfl⟩
          obtain ⟨el, hel2⟩ : ∃ x, es.length = x := ⟨_, rfl⟩
          rw [hdl] at hz1 hDl
          rw [hel2] at hz2 hel
          have hbig : ¬ 9223372036854775807 < dl + el := by omega
          clear HStep hlen hdl hel2
          go_wp2
          go_roundw
          case rel => exact ⟨k + 1, D ++ es, congrArg Value.string HApp.out, by go_num, by omega, HLen.out, HS2, HB2⟩
          case measure => simp [intOf]; omega
        · have hL : (s, er) = (([] : List UInt8), ee) := by
            rw [← HR.out, HD.out, HStep.out, if_pos h0]
            unfold catB
            simp [h0]
          obtain ⟨rfl, rfl⟩ := Prod.mk.inj hL
          have t0 : (er != 0) = true := by simpa using h0
          clear hL HStep
          go_wp2
          (try refine bodyPost_ret (results_tmp2 rfl _ _ _) rfl ?_)
          exact HQ.out _ _ ⟨rfl, HB2.out⟩
      · obtain rfl : k = n := by omega
        have hC : catX L = (D, 0) := by
          rw [HD.out, List.drop_of_length_le (by rw [HN.out]; exact Nat.le_refl _)]
          simp [catX, catB]
        have hr2 := HR.out
        rw [hC] at hr2
        simp only at hr2
        rw [if_neg (fun h => h rfl)] at hr2
        have hz1 := S_size D
        obtain ⟨dl, hdl⟩ : ∃ m, D.length = m := ⟨_, rfl⟩
        rw [hdl] at hz1 hDl hr2
        by_cases h6 : 65536 < dl
        · rw [if_pos h6] at hr2
          obtain ⟨rfl, rfl⟩ := Prod.mk.inj hr2
          have t6 : decide ((65536 : Int) < (dl : Int)) = true := decide_eq_true (by omega)
          clear hr2 hC HD HR hdl
          go_wp2
          (try refine bodyPost_ret (results_tmp2 rfl _ _ _) rfl ?_)
          exact HQ.out _ _ ⟨rfl, HB.out⟩
        · rw [if_neg h6] at hr2
          obtain ⟨rfl, rfl⟩ := Prod.mk.inj hr2
          have t6 : decide ((65536 : Int) < (dl : Int)) = false := decide_eq_false (by omega)
          clear hr2 hC HD HR hdl
          go_wp2
          (try refine bodyPost_ret (results_tmp2 rfl _ _ _) rfl ?_)
          exact HQ.out _ _ ⟨rfl, HB.out⟩
end

section
open Go.RowKit Go.Lib Go.ChangeShapes Go.WideShapes
theorem laidOut : laidOutB Tryd.prog = true := by kernel_rfl
theorem cells_string : Tryd.prog.cellsOf 9 = 1 := by kernel_rfl
theorem cells_byte : Tryd.prog.cellsOf 5 = 1 := by kernel_rfl
theorem cells_int1 : Tryd.prog.cellsOf 3 = 1 := by kernel_rfl
theorem cells_slice1 : Tryd.prog.cellsOf 47 = 1 := by kernel_rfl
theorem cells_sub : Tryd.prog.cellsOf 46 = 2 := by kernel_rfl

set_option maxRecDepth 100000 in
/-- A subfield's two cells. -/
theorem open_sub {H : Type} {enc : TypeId × Value → H} {W : World} {fuel : Nat} {cs : List Value} {x : DataW H × List MemPlace}
    (hf : DataW.trod enc Tryd.prog W 0 (fun _ => true) true fuel 46 cs = some x) : ∃ s : Sub, cs.take 2 = [.int .u8 (s.1.toNat : Int), .string (S s.2)] := by
  obtain ⟨xs, n, _, _, _, hxl, hfl⟩ := DataW.trod_struct Tryd.underlying46 hf
  have key : ∀ j, j < 2 → ∃ y, xs[j]? = some y := by
    intro j hj
    have hxl2 : xs.length = 2 := hxl.trans rfl
    exact ⟨xs[j]'(by omega), List.getElem?_eq_getElem (by omega)⟩
  have f0 := hfl 0 _ rfl
  have f1 := hfl 1 _ rfl
  obtain ⟨y0, e0⟩ := key 0 (by decide)
  obtain ⟨y1, e1⟩ := key 1 (by decide)
  rw [e0] at f0
  rw [e1] at f1
  change DataW.trod enc Tryd.prog W 0 (fun _ => true) true n 5 ((cs.drop 0).take (Tryd.prog.cellsOf 5)) = some y0 at f0
  rw [cells_byte] at f0
  change DataW.trod enc Tryd.prog W 0 (fun _ => true) true n 9 ((cs.drop 1).take (Tryd.prog.cellsOf 9)) = some y1 at f1
  rw [cells_string] at f1
  obtain ⟨z, a0, _, hw⟩ := DataW.trod_int Tryd.underlying5 f0
  obtain ⟨s1, a1, _, _⟩ := DataW.trod_string Tryd.underlying9 f1
  have hz : 0 ≤ z ∧ z ≤ 255 := by simpa [Lit.wf, IntKind.min, IntKind.max, IntKind.signed, IntKind.bits] using hw
  refine ⟨(UInt8.ofNat z.toNat, s1.data.toList), ?_⟩
  have ez : ((UInt8.ofNat z.toNat).toNat : Int) = z := by
    rw [UInt8.toNat_ofNat']
    omega
  show cs.take 2 = [.int .u8 ((UInt8.ofNat z.toNat).toNat : Int), .string (S s1.data.toList)]
  rw [ez, show S s1.data.toList = s1 from rfl]
  match cs, a0, a1 with
  | [], a0, _ => simp at a0
  | [_], _, a1 => simp at a1
  | c0 :: c1 :: r, a0, a1 =>
    simp at a0 a1
    simp [a0, a1]

set_option maxRecDepth 100000 in
/-- A slice of subfields. -/
theorem open_ql {H : Type} {enc : TypeId × Value → H} {W : World} {c : Value} {fuel : Nat} {x : DataW H × List MemPlace}
    (hf : DataW.trod enc Tryd.prog W 0 (fun _ => true) true fuel 47 [c] = some x) : ∃ L : List Sub, QL c L W := by
  rcases DataW.trod_slice Tryd.underlying47 hf with ⟨hcs, _⟩ | ⟨a, len, cap, elems, rest, n, _, hcs, _, _, hl, hm, hlen, hel, _, _⟩
  · simp only [List.cons.injEq, and_true] at hcs
    subst hcs
    exact ⟨[], none, 0, rfl, Nat.le_refl _, Nat.zero_le _, fun _ => rfl, fun i hi => by cases hi⟩
  · simp only [List.cons.injEq, and_true] at hcs
    subst hcs
    obtain ⟨b, off, spot⟩ := a
    have each : ∀ i, i < len → ∃ s : Sub, W.cell? ((⟨b, off, spot⟩ : Addr).add (i * 2)) = some (.int .u8 (s.1.toNat : Int)) ∧ W.cell? (((⟨b, off, spot⟩ : Addr).add (i * 2)).add 1) = some (.string (S s.2)) := by
      intro i hi
      have h := hel i hi
      rw [cells_sub] at h
      have hsome : ∃ y, elems[i]? = some y := ⟨elems[i]'(by omega), List.getElem?_eq_getElem (by omega)⟩
      obtain ⟨y, hy⟩ := hsome
      rw [hy, Option.bind_eq_some_iff] at h
      obtain ⟨cs', hcs, hy'⟩ := h
      obtain ⟨_, hl2, hat⟩ := World.cells?_some hcs
      obtain ⟨s, hs⟩ := open_sub hy'
      rw [List.take_of_length_le (by omega)] at hs
      subst hs
      have a0 := hat 0 (by decide)
      have a1 := hat 1 (by decide)
      have e0 : ((⟨b, off, spot⟩ : Addr).add (i * 2)).add 0 = (⟨b, off, spot⟩ : Addr).add (i * 2) := by
        unfold Addr.add
        split <;> simp_all
      rw [e0] at a0
      exact ⟨s, a0, a1⟩
    obtain ⟨F, hF⟩ : ∃ F : Nat → Sub, ∀ i, i < len → W.cell? ((⟨b, off, spot⟩ : Addr).add (i * 2)) = some (.int .u8 ((F i).1.toNat : Int)) ∧ W.cell? (((⟨b, off, spot⟩ : Addr).add (i * 2)).add 1) = some (.string (S (F i).2)) :=
      ⟨fun i => if h : i < len then (each i h).choose else sub0, fun i hi => by
        have := (each i hi).choose_spec
        simp only [dif_pos hi]
        exact this⟩
    have hl2 : ((List.range len).map F).length = len := by simp
    refine ⟨(List.range len).map F, some ⟨b, off, spot⟩, cap, by rw [hl2], by omega, hm, (fun h => by cases h), fun i hi => ?_⟩
    rw [hl2] at hi
    have hspot : spot = none := by simpa [Addr.add] using World.cell?_spot (hF 0 (by omega)).1
    subst hspot
    have hg : ((List.range len).map F).getD i sub0 = F i := by
      rw [List.getD_eq_getElem?_getD, List.getElem?_map, List.getElem?_range hi]
      rfl
    obtain ⟨c0, c1⟩ := hF i hi
    have hadd : (⟨b, off, none⟩ : Addr).add (i * 2) = ⟨b, off + i * 2, none⟩ := by unfold Addr.add; split <;> simp_all
    have hadd2 : (⟨b, off + i * 2, none⟩ : Addr).add 1 = ⟨b, off + i * 2 + 1, none⟩ := by unfold Addr.add; split <;> simp_all
    rw [hadd] at c0 c1
    rw [hadd2] at c1
    refine ⟨b, off, rfl, ?_, by rw [hg]; exact c0, by rw [hg]; exact c1⟩
    rcases Nat.lt_or_ge b W.heap.size with hh | hh
    · exact hh
    · simp [World.cell?, Array.getElem?_eq_none hh] at c0

set_option maxRecDepth 100000 in
/-- A field. -/
theorem open_field {H : Type} {enc : TypeId × Value → H} {W : World} {base : Nat} {v : Value} {d : DataW H} {p : List MemPlace} (hv : Value.okWide Tryd.prog W .any base 49 v)
    (h : DataW.Trod enc Tryd.prog W 0 (fun _ => true) true 49 v d p) : ∃ (f : Fld) (u : Value), v = FV f u ∧ QL u f.subs W := by
  have hv2 : ∃ cs, v = .agg cs ∧ cs.size = Tryd.prog.cellsOf 49 := by
    unfold Value.okWide at hv
    rw [Tryd.underlying49] at hv
    obtain ⟨cs, h1, h2, _⟩ := hv
    exact ⟨cs, h1, h2⟩
  obtain ⟨cs, rfl, hsz⟩ := hv2
  have hsz4 : cs.size = 4 := hsz.trans (by kernel_rfl)
  obtain ⟨c0, c1, c2, c3, rfl⟩ : ∃ c0 c1 c2 c3, cs = #[c0, c1, c2, c3] := by
    obtain ⟨l⟩ := cs
    match l, hsz4 with
    | [c0, c1, c2, c3], _ => exact ⟨c0, c1, c2, c3, rfl⟩
  obtain ⟨fuel, hf⟩ := h
  obtain ⟨xs, n, _, _, _, hxl, hfl⟩ := DataW.trod_struct Tryd.underlying49 hf
  have key : ∀ j, j < 4 → ∃ y, xs[j]? = some y := by
    intro j hj
    have hxl4 : xs.length = 4 := hxl.trans rfl
    exact ⟨xs[j]'(by omega), List.getElem?_eq_getElem (by omega)⟩
  have f0 := hfl 0 _ rfl
  have f1 := hfl 1 _ rfl
  have f2 := hfl 2 _ rfl
  have f3 := hfl 3 _ rfl
  obtain ⟨y0, e0⟩ := key 0 (by decide)
  obtain ⟨y1, e1⟩ := key 1 (by decide)
  obtain ⟨y2, e2⟩ := key 2 (by decide)
  obtain ⟨y3, e3⟩ := key 3 (by decide)
  rw [e0] at f0
  rw [e1] at f1
  rw [e2] at f2
  rw [e3] at f3
  change DataW.trod enc Tryd.prog W 0 (fun _ => true) true n 9 (([c0, c1, c2, c3].drop 0).take (Tryd.prog.cellsOf 9)) = some y0 at f0
  rw [cells_string] at f0
  change DataW.trod enc Tryd.prog W 0 (fun _ => true) true n 9 (([c0, c1, c2, c3].drop 1).take (Tryd.prog.cellsOf 9)) = some y1 at f1
  rw [cells_string] at f1
  change DataW.trod enc Tryd.prog W 0 (fun _ => true) true n 47 (([c0, c1, c2, c3].drop 2).take (Tryd.prog.cellsOf 47)) = some y2 at f2
  rw [cells_slice1] at f2
  change DataW.trod enc Tryd.prog W 0 (fun _ => true) true n 3 (([c0, c1, c2, c3].drop 3).take (Tryd.prog.cellsOf 3)) = some y3 at f3
  rw [cells_int1] at f3
  obtain ⟨s0, a0, _, _⟩ := DataW.trod_string Tryd.underlying9 f0
  obtain ⟨s1, a1, _, _⟩ := DataW.trod_string Tryd.underlying9 f1
  obtain ⟨z3, a3, _, _⟩ := DataW.trod_int Tryd.underlying3 f3
  obtain ⟨L, hL⟩ := open_ql (c := c2) f2
  simp at a0 a1 a3
  exact ⟨⟨s0.data.toList, s1.data.toList, L, z3⟩, c2, by rw [a0, a1, a3]; rfl, hL⟩
end

end Go.Proofs.YtiledacfdaenbaaDoor
