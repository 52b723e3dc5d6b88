/- Merged: GG10, PH10, PI10. -/
import Derived.Test.YtiledacfdaenbaaDoorQ22
import Derived.Defers
import Derived.Recover
import Derived.Test.YtiledacfdaenbaaDoorQ20
namespace Go.Proofs.YtiledacfdaenbaaDoor

section
open Go.RowKit Go.PlainAid
theorem catch_panicking (p : Addr) (x : Bool) (u : TypeId) (pv : Value) (older : List PanicEntry) (w : World) (hc : w.cell? p = some (.bool x)) (hz : w.frozen? p = false) :
    CallsD Tryd.prog 39 #[.pointer (some p)] (.panicking ({ v := .iface u pv, recovered := false } :: older)) w fun e u' w' =>
      e = .returned (.tuple #[]) ∧ u' = .panicking ({ v := .iface u pv, recovered := true } :: older) ∧ w' = w.setCell p (.bool false) := by
  refine callsD_of_wpS Tryd.func39 rfl fun c₀ cs hu => ?_
  apply wpS_region
  simp [wpOpsS, go_sem, recoverD, hu, Tryd.ntmps39, hc, hz, bodyPostS, results, Tryd.results39]

theorem catch_idle (p : Addr) (x : Bool) (w : World) (hc : w.cell? p = some (.bool x)) (hz : w.frozen? p = false) :
    CallsD Tryd.prog 39 #[.pointer (some p)] .returning w fun e u' w' => e = .returned (.tuple #[]) ∧ u' = .returning ∧ w' = w.setCell p (.bool true) := by
  refine callsD_of_wpS Tryd.func39 rfl fun c₀ cs hu => ?_
  apply wpS_region
  simp [wpOpsS, go_sem, recoverD, hu, Tryd.ntmps39, hc, hz, bodyPostS, results, Tryd.results39]
  cases c₀
  simp_all

theorem results_cells {P : Program} {fn : Func} {p q : Tmp} {tp tq : TypeId} (h : fn.results = #[.cell p tp, .cell q tq]) (tmps : Array Value) (w : World) :
    (results fn tmps).run P w = ((asAddr (tmps.getD p undef)).run P w).andThen fun a w1 => ((loadVar tp a).run P w1).andThen fun v w2 => ((asAddr (tmps.getD q undef)).run P w2).andThen fun a' w3 => ((loadVar tq a').run P w3).andThen fun v' w4 => .ok (.tuple #[v, v']) w4 := by
  simp only [results, h]
  simp [Sem.run_bind, Result.andThen]
theorem results_two {P : Program} {fn : Func} {p q : Tmp} {tp tq : TypeId} (h : fn.results = #[.cell p tp, .cell q tq]) (tmps : Array Value) (w : World) (g k : Nat) (u v : Value)
    (hp : tmps.getD p undef = .pointer (some ⟨g, 0, none⟩)) (hq : tmps.getD q undef = .pointer (some ⟨k, 0, none⟩)) (hg : (loadVar tp ⟨g, 0, none⟩).run P w = .ok u w) (hk : (loadVar tq ⟨k, 0, none⟩).run P w = .ok v w) :
    (results fn tmps).run P w = .ok (.tuple #[u, v]) w := by
  rw [results_cells h, hp, hq]
  simp [asAddr, Result.andThen, hg, hk]

/-- What read returns. -/
def GEnd (w : World) (R : Option Rec) (e : Ending) (w' : World) : Prop :=
  ∃ r u ok, e = .returned (.tuple #[RV r u, .bool ok]) ∧ Below w.heap.size w w' ∧ New w.heap.size (FL u r.fields) w' ∧ ((R = none ∧ ok = false) ∨ (R = some r ∧ ok = true))

set_option maxHeartbeats 16000000 in
set_option maxRecDepth 100000 in
theorem read_any (l : List UInt8) (w : World) (hE : Env w) (hz : l.length ≤ 100000) :
    Calls Tryd.prog 26 #[.string (S l)] w fun e w' => GEnd w (recE l) e w' := by
  have hmf : ∀ (fn : Fn) (first cap : Array Value) (w : World), (Instr.makeFunc fn first cap).run Tryd.prog w = .ok (.func fn first cap) w := fun _ _ _ _ => rfl
  obtain ⟨Q, hQ⟩ : ∃ Q, (fun e w' => GEnd w (recE l) e w') = Q := ⟨_, rfl⟩
  rw [hQ]
  have HQ : RowKit.Hid (∀ e w', GEnd w (recE l) e w' → Q e w') := by rw [← hQ]; exact fun _ _ h => h
  clear hQ
  have b0 : Below w.heap.size w (((w.alloc (.cells #[.int .i64 0, .int .i64 0, .int .i64 0, .string ⟨#[]⟩, .slice none 0 0] 24)).alloc (.cells #[.bool false] 4)).alloc (.cells #[.string (S l)] 72)) :=
    (((Below.refl w.heap.size w).alloc (Nat.le_refl _) _).alloc (by simp) _).alloc (by simp; omega) _
  have r0 : RD (w.heap.size + 1 + 1) l (((w.alloc (.cells #[.int .i64 0, .int .i64 0, .int .i64 0, .string ⟨#[]⟩, .slice none 0 0] 24)).alloc (.cells #[.bool false] 4)).alloc (.cells #[.string (S l)] 72)) := by
    have := heap_alloc_new ((w.alloc (.cells #[.int .i64 0, .int .i64 0, .int .i64 0, .string ⟨#[]⟩, .slice none 0 0] 24)).alloc (.cells #[.bool false] 4)) (.cells #[.string (S l)] 72)
    unfold RD
    simpa using this
  have k0 : (((w.alloc (.cells #[.int .i64 0, .int .i64 0, .int .i64 0, .string ⟨#[]⟩, .slice none 0 0] 24)).alloc (.cells #[.bool false] 4)).alloc (.cells #[.string (S l)] 72)).heap[w.heap.size]? = some (.cells #[.int .i64 0, .int .i64 0, .int .i64 0, .string ⟨#[]⟩, .slice none 0 0] 24 (0, 0)) :=
    (Below.heap_alloc _ _ _ (by simp; omega)).trans ((Below.heap_alloc _ _ _ (by simp)).trans (heap_alloc_new w _))
  have k1 : (((w.alloc (.cells #[.int .i64 0, .int .i64 0, .int .i64 0, .string ⟨#[]⟩, .slice none 0 0] 24)).alloc (.cells #[.bool false] 4)).alloc (.cells #[.string (S l)] 72)).heap[w.heap.size + 1]? = some (.cells #[.bool false] 4 (0, 0)) := by
    refine (Below.heap_alloc _ _ _ (by simp)).trans ?_
    have := heap_alloc_new (w.alloc (.cells #[.int .i64 0, .int .i64 0, .int .i64 0, .string ⟨#[]⟩, .slice none 0 0] 24)) (.cells #[.bool false] 4)
    simpa using this
  obtain ⟨W0, hW0⟩ : ∃ W0, (((w.alloc (.cells #[.int .i64 0, .int .i64 0, .int .i64 0, .string ⟨#[]⟩, .slice none 0 0] 24)).alloc (.cells #[.bool false] 4)).alloc (.cells #[.string (S l)] 72)) = W0 := ⟨_, rfl⟩
  rw [hW0] at b0 r0 k0 k1
  have HW0 := Lib.hid hW0
  have c := Lib.hid (record_any (w.heap.size + 1 + 1) l W0 (fun W hW => hE.after (b0.trans (hW.mono (by omega)))) r0 hz)
  have hlt := r0.lt
  have B0 := Lib.hid b0
  have K0 := Lib.hid k0
  have K1 := Lib.hid k1
  clear hW0 b0 r0 k0 k1 hE
  go_enter_defers Tryd.func26, Tryd.ntmps26
  go_wp2_with fail
  rw [HW0.out]
  refine c.out.mono ?_
  rintro e w1 ⟨hx, hres⟩
  have b1 := B0.out.trans (hx.bel.mono (by omega))
  have k0 := (hx.rest w.heap.size (by omega) (by omega)).trans K0.out
  have k1 := (hx.rest (w.heap.size + 1) (by omega) (by omega)).trans K1.out
  have c1 : w1.cell? ⟨w.heap.size + 1, 0, none⟩ = some (.bool false) := by rw [Lib.cell_of_heap k1]; rfl
  have z1 := Lib.frozen_of_heap k1 0
  rcases hres with ⟨hn, rfl⟩ | ⟨r, u, hs, rfl, hnew⟩
  · have HN := Lib.hid hn
    have B1 := Lib.hid b1
    have HK0 := Lib.hid k0
    clear hn b1 hx k0 k1
    go_wp2
    refine leaves_cons (f := 39) (args := #[.pointer (some ⟨w.heap.size + 1, 0, none⟩)]) (by simp) (by simp [go_sem]) ?_
    refine (catch_panicking ⟨w.heap.size + 1, 0, none⟩ false _ _ [] _ c1 z1).mono ?_
    rintro e u' w'' ⟨rfl, rfl, rfl⟩
    have h0 : (w1.setCell ⟨w.heap.size + 1, 0, none⟩ (.bool false)).heap[w.heap.size]? = _ := (heap_set_ne _ _ _ _ (by simp)).trans HK0.out
    have hk : (loadVar 4 ⟨w.heap.size + 1, 0, none⟩).run Tryd.prog (w1.setCell ⟨w.heap.size + 1, 0, none⟩ (.bool false)) = .ok (.bool false) (w1.setCell ⟨w.heap.size + 1, 0, none⟩ (.bool false)) := by
      simp [go_sem, c1]
    have hr := results_two (P := Tryd.prog) (fn := Tryd.f26) rfl (#[Value.string (S l), undef, Value.pointer (some ⟨w.heap.size, 0, none⟩), Value.pointer (some ⟨w.heap.size + 1, 0, none⟩), Value.pointer (some ⟨w.heap.size + 1 + 1, 0, none⟩), Value.func (Fn.func 39) #[] #[Value.pointer (some ⟨w.heap.size + 1, 0, none⟩)], Value.string (S l), Value.agg #[Value.string (S l)], undef]) _ w.heap.size (w.heap.size + 1) _ (.bool false) rfl rfl (run_loadVar_row _ w.heap.size _ _ _ _ _ h0 Tryd.underlying24 rfl (by kernel_rfl)) hk
    refine ⟨_, hr, HQ.out _ _ ⟨rec0, .slice none 0 0, false, rfl, B1.out.setCell (p := ⟨w.heap.size + 1, 0, none⟩) (Nat.le_succ _) _, ?_, .inl ⟨HN.out, rfl⟩⟩⟩
    exact fun _ _ _ => ⟨none, 0, rfl, Nat.le_refl _, Nat.zero_le _, fun _ => rfl, fun i hi => by cases hi⟩
  · obtain ⟨au, cu, hu, _⟩ := hnew.here.length
    subst hu
    obtain ⟨⟨r0, r1, r2, r3, r4⟩, ⟨y0, y1, y2, y3, y4⟩⟩ := rcells k0
    obtain ⟨W9, hW9⟩ : ∃ W9, (((((w1.setCell ⟨w.heap.size, 0, none⟩ (.int .i64 r.id)).setCell ⟨w.heap.size, 1, none⟩ (.int .i64 r.ver)).setCell ⟨w.heap.size, 2, none⟩ (.int .i64 r.kind)).setCell ⟨w.heap.size, 3, none⟩ (.string (S r.lang))).setCell ⟨w.heap.size, 4, none⟩ (.slice au r.fields.length cu)).setCell ⟨w.heap.size + 1, 0, none⟩ (.bool true) = W9 := ⟨_, rfl⟩
    have h0 : W9.heap[w.heap.size]? = some (.cells #[.int .i64 r.id, .int .i64 r.ver, .int .i64 r.kind, .string (S r.lang), .slice au r.fields.length cu] 24 (0, 0)) := by
      rw [← hW9]
      simp [World.setCell, Array.getElem?_modify, k0]
    have h1 : W9.heap[w.heap.size + 1]? = some (.cells #[.bool true] 4 (0, 0)) := by
      rw [← hW9]
      simp [World.setCell, Array.getElem?_modify, k1]
    have hne : ∀ i, i ≠ w.heap.size → i ≠ w.heap.size + 1 → W9.heap[i]? = w1.heap[i]? := fun i n0 n1 => by
      rw [← hW9, heap_set_ne _ _ _ _ n1, heap_set_ne _ _ _ _ n0, heap_set_ne _ _ _ _ n0, heap_set_ne _ _ _ _ n0, heap_set_ne _ _ _ _ n0, heap_set_ne _ _ _ _ n0]
    have hb9 : Below w.heap.size w W9 := by
      rw [← hW9]
      exact (((((b1.setCell (p := ⟨w.heap.size, 0, none⟩) (Nat.le_refl _) _).setCell (p := ⟨w.heap.size, 1, none⟩) (Nat.le_refl _) _).setCell (p := ⟨w.heap.size, 2, none⟩) (Nat.le_refl _) _).setCell (p := ⟨w.heap.size, 3, none⟩) (Nat.le_refl _) _).setCell (p := ⟨w.heap.size, 4, none⟩) (Nat.le_refl _) _).setCell (p := ⟨w.heap.size + 1, 0, none⟩) (Nat.le_succ _) _
    have hs9 : w1.heap.size ≤ W9.heap.size := by rw [← hW9]; simp
    have hnew9 : True ∧ New (w.heap.size + 2) (FL (.slice au r.fields.length cu) r.fields) W9 := ⟨trivial, (hnew.mono (B := w.heap.size + 2) (by omega)).on hs9 (fun i hi _ => hne i (by omega) (by omega))⟩
    have d1 : W9.cell? ⟨w.heap.size + 1, 0, none⟩ = some (.bool true) := by rw [Lib.cell_of_heap h1]; rfl
    have e1 := Lib.frozen_of_heap h1 0
    have HS := Lib.hid hs
    have HB9 := Lib.hid hb9
    have HN9 := Lib.hid hnew9
    have HH0 := Lib.hid h0
    have HW9 := Lib.hid hW9
    clear hs hb9 hnew9 h0 h1 hW9 hne hs9 b1 hx k0 k1 hnew
    unfold RV
    go_wp2
    rw [HW9.out]
    refine leaves_cons (f := 39) (args := #[.pointer (some ⟨w.heap.size + 1, 0, none⟩)]) (by simp) (by simp [go_sem]) ?_
    refine (catch_idle ⟨w.heap.size + 1, 0, none⟩ true _ d1 e1).mono ?_
    rintro e u' w'' ⟨rfl, rfl, rfl⟩
    have h0 : (W9.setCell ⟨w.heap.size + 1, 0, none⟩ (.bool true)).heap[w.heap.size]? = _ := (heap_set_ne _ _ _ _ (by simp)).trans HH0.out
    have hk : (loadVar 4 ⟨w.heap.size + 1, 0, none⟩).run Tryd.prog (W9.setCell ⟨w.heap.size + 1, 0, none⟩ (.bool true)) = .ok (.bool true) (W9.setCell ⟨w.heap.size + 1, 0, none⟩ (.bool true)) := by
      simp [go_sem, d1]
    have hr := results_two (P := Tryd.prog) (fn := Tryd.f26) rfl (#[Value.string (S l), undef, Value.pointer (some ⟨w.heap.size, 0, none⟩), Value.pointer (some ⟨w.heap.size + 1, 0, none⟩), Value.pointer (some ⟨w.heap.size + 1 + 1, 0, none⟩), Value.func (Fn.func 39) #[] #[Value.pointer (some ⟨w.heap.size + 1, 0, none⟩)], Value.string (S l), Value.agg #[Value.string (S l)], Value.agg #[Value.int IntKind.i64 r.id, Value.int IntKind.i64 r.ver, Value.int IntKind.i64 r.kind, Value.string (S r.lang), Value.slice au r.fields.length cu]]) _ w.heap.size (w.heap.size + 1) _ (.bool true) rfl rfl (run_loadVar_row _ w.heap.size _ _ _ _ _ h0 Tryd.underlying24 rfl (by kernel_rfl)) hk
    refine ⟨_, hr, HQ.out _ _ ⟨r, .slice au r.fields.length cu, true, rfl, HB9.out.setCell (p := ⟨w.heap.size + 1, 0, none⟩) (Nat.le_succ _) _, ?_, .inr ⟨HS.out, rfl⟩⟩⟩
    intro w2 g1 g2
    have hself : New (w.heap.size + 2) (FL (.slice au r.fields.length cu) r.fields) W9 := HN9.out.2
    exact hself w2 (by simpa using g1) (fun i hi hj => (g2 i (by omega) (by simpa using hj)).trans (heap_set_ne _ _ _ _ (by show i ≠ w.heap.size + 1; omega)))
end

section
open Go.RowKit Go.PlainAid
set_option maxHeartbeats 8000000 in
theorem pEncode_any (r : Rec) (u : Value) (w : World) (hE : Env w) (hu : FL u r.fields w) (hlz : r.lang.length ≤ maxLen) (hz : ∀ i, i < r.fields.length → ∀ j, j < (r.fields.getD i fd0).subs.length → ((r.fields.getD i fd0).subs.getD j sub0).2.length ≤ 1000000) :
    Calls Tryd.prog 10 #[RV r u] w fun e w' => e = .returned (.tuple #[.string (S (encX r).1), .int .i64 (encX r).2]) ∧ Below w.heap.size w w' := by
  obtain ⟨er, her⟩ : ∃ er, rightRI r = er := ⟨_, rfl⟩
  obtain ⟨⟨rs, re⟩, hre⟩ : ∃ x, encX r = x := ⟨_, rfl⟩
  rw [hre]
  have cR := fun W hE hu => pRight_any r u W hE hu hlz hz er her
  have cF := fun W hE hu (h : rightRI r = 0) => form_any r u W hE hu h
  have HU := Lib.hid hu
  obtain ⟨ua, uc, hue, -, -⟩ := hu.length
  subst hue
  unfold RV at cR cF ⊢
  obtain ⟨W0, hW0⟩ : ∃ W0, w.alloc (.cells #[.int .i64 r.id, .int .i64 r.ver, .int .i64 r.kind, .string (S r.lang), .slice ua r.fields.length uc] 24) = W0 := ⟨_, rfl⟩
  have b0 : Below w.heap.size w W0 := by rw [← hW0]; exact (Below.refl w.heap.size w).alloc (Nat.le_refl _) _
  have hrec : W0.heap[w.heap.size]? = some (.cells #[.int .i64 r.id, .int .i64 r.ver, .int .i64 r.kind, .string (S r.lang), .slice ua r.fields.length uc] 24 (0, 0)) := by rw [← hW0]; exact heap_alloc_new w _
  have hlt : w.heap.size < W0.heap.size := by rw [← hW0]; simp
  have HAg : RowKit.Hid (∀ W, Below W0.heap.size W0 W → W.cell? ⟨w.heap.size, 0, none⟩ = some (.int .i64 r.id) ∧ W.cell? ⟨w.heap.size, 1, none⟩ = some (.int .i64 r.ver) ∧ W.cell? ⟨w.heap.size, 2, none⟩ = some (.int .i64 r.kind) ∧ W.cell? ⟨w.heap.size, 3, none⟩ = some (.string (S r.lang)) ∧ W.cell? ⟨w.heap.size, 4, none⟩ = some (.slice ua r.fields.length uc)) := by
    intro W hW
    have hb := (hW.block w.heap.size hlt).trans hrec
    refine ⟨?_, ?_, ?_, ?_, ?_⟩ <;> (rw [Lib.cell_of_heap hb]; rfl)
  have c1 := Lib.hid (cR W0 (hE.after b0) (HU.out.after b0))
  have HW0 := Lib.hid hW0
  have B0 := Lib.hid b0
  have HEW : RowKit.Hid (∀ W, Below W0.heap.size W0 W → Env W) := fun W hW => hE.after (b0.trans (hW.mono b0.size))
  have HUW : RowKit.Hid (∀ W, Below W0.heap.size W0 W → FL (.slice ua r.fields.length uc) r.fields W) := fun W hW => HU.out.after (b0.trans (hW.mono b0.size))
  obtain ⟨k0, k1, k2, k3, k4⟩ := HAg.out W0 (Below.refl _ _)
  clear hW0 hrec b0 cR hE hu hlz hz
  by_cases h0 : er = 0
  · subst h0
    have cF2 := Lib.hid (fun W hE hu => cF W hE hu her)
    have hlen := formX_len r her
    have hle := totX_le r her
    have HBig : RowKit.Hid (9999 < (formX r).length → rs = [] ∧ re = 4) := by
      intro h
      unfold encX at hre
      rw [if_neg (fun h => h her), if_pos (hlen.1 h)] at hre
      exact ⟨(Prod.mk.inj hre).1.symm, (Prod.mk.inj hre).2.symm⟩
    have HGood : RowKit.Hid (¬ 9999 < (formX r).length → rs = formX r ∧ re = 0) := by
      intro h
      unfold encX at hre
      rw [if_neg (fun h => h her), if_neg (fun g => h (hlen.2 g))] at hre
      exact ⟨(Prod.mk.inj hre).1.symm, (Prod.mk.inj hre).2.symm⟩
    clear hlen hle cF her hre
    have hfs := S_size (formX r)
    obtain ⟨F, hF⟩ : ∃ F, formX r = F := ⟨_, rfl⟩
    rw [hF] at cF2 hfs HBig HGood
    clear hF
    obtain ⟨fl, hfl⟩ : ∃ n, F.length = n := ⟨_, rfl⟩
    rw [hfl] at hfs HBig HGood
    clear hfl
    go_enter Tryd.func10, Tryd.ntmps10
    go_wp2_with fail
    rw [HW0.out]
    refine c1.out.mono ?_
    rintro e w1 ⟨rfl, b1⟩
    obtain ⟨k0, k1, k2, k3, k4⟩ := HAg.out w1 b1
    have c2 := Lib.hid (cF2.out w1 (HEW.out w1 b1) (HUW.out w1 b1))
    have B1 := Lib.hid b1
    have s1 := b1.size
    clear b1
    go_wp2_with fail
    refine c2.out.mono ?_
    rintro e w2 ⟨rfl, b2⟩
    have b9 := B0.out.trans ((B1.out.trans (b2.mono s1)).mono B0.out.size)
    clear b2
    by_cases hb : 9999 < fl
    · have t1 : decide ((9999 : Int) < (fl : Int)) = true := decide_eq_true (by omega)
      have t2 : decide (9999 < fl) = true := decide_eq_true hb
      obtain ⟨rfl, rfl⟩ := HBig.out hb
      clear hb
      go_wp2
      go_ret2
      exact ⟨rfl, b9⟩
    · have t1 : decide ((9999 : Int) < (fl : Int)) = false := decide_eq_false (by omega)
      have t2 : decide (9999 < fl) = false := decide_eq_false hb
      obtain ⟨rfl, rfl⟩ := HGood.out hb
      clear hb
      go_wp2
      go_ret2
      exact ⟨rfl, b9⟩
  · unfold encX at hre
    rw [if_pos (by rw [her]; exact h0), her] at hre
    obtain ⟨rfl, rfl⟩ := Prod.mk.inj hre
    have t0 : (er != 0) = true := by simpa using h0
    clear cF her hre h0
    go_enter Tryd.func10, Tryd.ntmps10
    go_wp2_with fail
    rw [HW0.out]
    refine c1.out.mono ?_
    rintro e w1 ⟨rfl, b1⟩
    have b9 := B0.out.trans (b1.mono B0.out.size)
    clear b1
    go_wp2
    go_ret2
    exact ⟨rfl, b9⟩
end

section
open Go.RowKit Go.PlainAid
theorem splitX_le (c : UInt8) : ∀ (l p : List UInt8), p ∈ splitX c l → p.length ≤ l.length
  | [], p, h => by
    rw [splitX, List.mem_singleton] at h
    rw [h]
    exact Nat.le_refl _
  | x :: t, p, h => by
    have ih := splitX_le c t
    rw [splitX] at h
    by_cases hx : x = c
    · rw [if_pos hx] at h
      rcases List.mem_cons.1 h with rfl | h
      · simp
      · have := ih p h
        rw [List.length_cons]
        omega
    · rw [if_neg hx] at h
      cases e : splitX c t with
      | nil => exact absurd e (splitX_ne c t)
      | cons a r =>
        rw [e] at h ih
        rcases List.mem_cons.1 h with rfl | h
        · have := ih a (by simp)
          simp only [List.length_cons]
          omega
        · have := ih p (by simp [h])
          rw [List.length_cons]
          omega
theorem subE10_le : ∀ (L : List (List UInt8)) (M : List Sub) (m : Nat), subE10 L = some M → (∀ p ∈ L, p.length ≤ m) → ∀ s ∈ M, s.2.length ≤ m
  | [], M, m, h, _, s, hs => by
    rw [subE10, Option.some.injEq] at h
    rw [← h] at hs
    cases hs
  | [] :: _, _, _, h, _, _, _ => by cases h
  | (c :: v) :: t, M, m, h, hp, s, hs => by
    rw [subE10] at h
    cases e : subE10 t with
    | none => rw [e] at h; cases h
    | some M2 =>
      rw [e] at h
      obtain rfl := Option.some.inj h
      rcases List.mem_cons.1 hs with rfl | hs
      · have := hp (c :: v) (by simp)
        rw [List.length_cons] at this
        show v.length ≤ m
        omega
      · exact subE10_le t M2 m e (fun p h => hp p (by simp [h])) s hs
theorem fldE_le (tag b : List UInt8) (f : Fld) (h : fldE tag b = some f) : ∀ s ∈ f.subs, s.2.length ≤ b.length := by
  unfold fldE at h
  split at h
  · cases h
  · cases e : subE10 (splitX 31 (Lib.trimSuffix (b.drop 6) [30])).tail with
    | none => rw [e] at h; cases h
    | some M =>
      rw [e] at h
      obtain rfl := Option.some.inj h
      refine subE10_le _ M b.length e (fun p hp => ?_)
      have h1 := splitX_le 31 _ p (List.mem_of_mem_tail hp)
      have h2 := trim_le (b.drop 6) [30]
      rw [List.length_drop] at h2
      omega
theorem bodE_le : ∀ (D : List (List UInt8 × Nat)) (l : List UInt8) (F : List Fld), bodE D l = some F → ∀ f ∈ F, ∀ s ∈ f.subs, s.2.length ≤ l.length
  | [], l, F, h, f, hf, _, _ => by
    rw [bodE, Option.some.injEq] at h
    rw [← h] at hf
    cases hf
  | (t, n) :: r, l, F, h, f, hf, s, hs => by
    rw [bodE] at h
    split at h
    · cases h
    · cases e : fldE t (l.take n) with
      | none => rw [e] at h; cases h
      | some g =>
        rw [e] at h
        simp only at h
        cases e2 : bodE r (l.drop n) with
        | none => rw [e2] at h; cases h
        | some G =>
          rw [e2] at h
          obtain rfl := Option.some.inj h
          rcases List.mem_cons.1 hf with rfl | hf
          · have := fldE_le t _ f e s hs
            rw [List.length_take] at this
            omega
          · have := bodE_le r _ G e2 f hf s hs
            rw [List.length_drop] at this
            omega
theorem dirE_le : ∀ (m : Nat) (l : List UInt8), l.length ≤ m → ∀ D r, dirE l = some (D, r) → r.length ≤ l.length := by
  intro m
  induction m with
  | zero =>
    intro l hl D r h
    have : l = [] := List.eq_nil_of_length_eq_zero (by omega)
    subst this
    rw [dirE_bad [] rfl (.inl (by decide))] at h
    cases h
  | succ m ih =>
    intro l hl D r h
    cases hp : Lib.hasPrefix l [30] with
    | true =>
      rw [dirE_end l hp, Option.some.injEq] at h
      rw [← (Prod.mk.inj h).2]
      exact Nat.le_refl _
    | false =>
      by_cases h2 : l.length < 12 ∨ numOk (l.drop 3) 4 = false
      · rw [dirE_bad l hp h2] at h; cases h
      · rw [dirE_go l hp h2] at h
        cases e : dirE (l.drop 12) with
        | none => rw [e] at h; cases h
        | some x =>
          rw [e] at h
          obtain ⟨D2, r2⟩ := x
          obtain ⟨_, rfl⟩ := Prod.mk.inj (Option.some.inj h)
          have := ih (l.drop 12) (by rw [List.length_drop]; omega) D2 r2 e
          rw [List.length_drop] at this
          show r2.length ≤ l.length
          omega
theorem recE_le (l : List UInt8) (r : Rec) (h : recE l = some r) : r.lang.length ≤ 3 ∧ ∀ i, i < r.fields.length → ∀ j, j < (r.fields.getD i fd0).subs.length → ((r.fields.getD i fd0).subs.getD j sub0).2.length ≤ l.length := by
  unfold recE at h
  split at h
  · cases h
  · cases e : fieldsE (l.drop 24) with
    | none => rw [e] at h; cases h
    | some F =>
      rw [e] at h
      obtain rfl := Option.some.inj h
      refine ⟨by show ((l.drop 8).take 3).length ≤ 3; rw [List.length_take]; omega, fun i hi j hj => ?_⟩
      unfold fieldsE at e
      cases e2 : dirE (l.drop 24) with
      | none => rw [e2] at e; cases e
      | some x =>
        obtain ⟨D, q⟩ := x
        rw [e2] at e
        simp only at e
        have h1 := dirE_le _ (l.drop 24) (Nat.le_refl _) D q e2
        rw [List.length_drop] at h1
        have hi : i < F.length := hi
        have hm : F.getD i fd0 ∈ F := by
          rw [List.getD_eq_getElem?_getD, List.getElem?_eq_getElem hi]
          exact List.getElem_mem _
        have hj : j < (F.getD i fd0).subs.length := hj
        have hs : (F.getD i fd0).subs.getD j sub0 ∈ (F.getD i fd0).subs := by
          rw [List.getD_eq_getElem?_getD (l := (F.getD i fd0).subs), List.getElem?_eq_getElem hj]
          exact List.getElem_mem _
        have := bodE_le D (q.drop 1) F e _ hm _ hs
        rw [List.length_drop] at this
        show ((F.getD i fd0).subs.getD j sub0).2.length ≤ _
        omega

theorem results_row_tmp10 {P : Program} {fn : Func} {p u : Tmp} {ty : TypeId} (h : fn.results = #[.cell p ty, .tmp u]) (tmps : Array Value) (w : World) (g : Nat) (t : TypeId) (cs : Array Value) (fr : Nat × Nat) (d : TypeDesc)
    (hp : tmps.getD p undef = .pointer (some ⟨g, 0, none⟩)) (hg : w.heap[g]? = some (.cells cs t fr))
    (hu : P.underlying ty = some d) (hd : (match d with | .struct _ | .array _ _ => true | _ => false) = true) (hi : (P.info? ty).map (·.size) = some cs.size) :
    (results fn tmps).run P w = .ok (.tuple #[.agg cs, tmps.getD u undef]) w := by
  rw [results_cell_tmp h, hp]
  simp [asAddr, run_loadVar_row w g t ty cs fr d hg hu hd hi, Result.andThen]
/-- A record stored in its box. -/
def setR5 (w : World) (b : Nat) (x0 x1 x2 x3 x4 : Value) : World := ((((w.setCell ⟨b, 0, none⟩ x0).setCell ⟨b, 1, none⟩ x1).setCell ⟨b, 2, none⟩ x2).setCell ⟨b, 3, none⟩ x3).setCell ⟨b, 4, none⟩ x4
theorem rec_set5 {w : World} {b : Nat} {c0 c1 c2 c3 c4 x0 x1 x2 x3 x4 : Value} (h : w.heap[b]? = some (.cells #[c0, c1, c2, c3, c4] 24 (0, 0))) :
    (setR5 w b x0 x1 x2 x3 x4).heap[b]? = some (.cells #[x0, x1, x2, x3, x4] 24 (0, 0)) := by
  simp [setR5, World.setCell, Array.getElem?_modify, h]
theorem rec_other {w : World} {b : Nat} {x0 x1 x2 x3 x4 : Value} (i : Nat) (h : i ≠ b) : (setR5 w b x0 x1 x2 x3 x4).heap[i]? = w.heap[i]? := by
  unfold setR5
  rw [heap_set_ne _ _ _ _ (by exact h), heap_set_ne _ _ _ _ (by exact h), heap_set_ne _ _ _ _ (by exact h), heap_set_ne _ _ _ _ (by exact h), heap_set_ne _ _ _ _ (by exact h)]
theorem rec_below {w W : World} {b : Nat} {x0 x1 x2 x3 x4 : Value} (h : Below b w W) : Below b w (setR5 W b x0 x1 x2 x3 x4) :=
  ((((h.setCell (p := ⟨b, 0, none⟩) (Nat.le_refl _) x0).setCell (p := ⟨b, 1, none⟩) (Nat.le_refl _) x1).setCell (p := ⟨b, 2, none⟩) (Nat.le_refl _) x2).setCell (p := ⟨b, 3, none⟩) (Nat.le_refl _) x3).setCell (p := ⟨b, 4, none⟩) (Nat.le_refl _) x4
theorem rec_size {w : World} {b : Nat} {x0 x1 x2 x3 x4 : Value} : (setR5 w b x0 x1 x2 x3 x4).heap.size = w.heap.size := by simp [setR5, World.setCell]
theorem fl_none (B : Nat) (w : World) : New B (FL (.slice none 0 0) []) w := fun _ _ _ => ⟨none, 0, rfl, Nat.le_refl _, Nat.zero_le _, fun _ => rfl, fun i hi => by cases hi⟩
end

end Go.Proofs.YtiledacfdaenbaaDoor
