/- Merged: Al08. -/
import Derived.Test.YtcnjjdbpcobolaaGreatDoorQ23
import Derived.Test.YtcnjjdbpcobolaaGreatDoorQ30
import Derived.Test.YtcnjjdbpcobolaaGreatDoorQ14
import Derived.Test.YtcnjjdbpcobolaaGreatDoorQ15
import Derived.Deep.RegionWith
namespace Go.Proofs.YtcnjjdbpcobolaaGreatDoor

section
open Go.RowKit Go.PlainAid
/-- What the package asks of the world. -/
structure EnvR (w : World) : Prop where
  e : Env w
  a : AT w
theorem EnvR.after {w w' : World} (h : EnvR w) (hb : Below w.heap.size w w') : EnvR w' := ⟨h.e.after hb, h.a.after hb⟩
/-- A record in its box. -/
structure RB (b : Nat) (r : Rec) (u : Value) (W : World) : Prop where
  bx : W.heap[b]? = some (.cells #[.int .i64 r.id, .int .i64 r.ver, .int .i64 r.kind, .string (S r.lang), u] 24 (0, 0))
  q : FL u r.fields W
theorem RB.lt {b : Nat} {r : Rec} {u : Value} {W : World} (h : RB b r u W) : b < W.heap.size := (Array.getElem?_eq_some_iff.1 h.bx).1
theorem RB.after {b : Nat} {r : Rec} {u : Value} {W W' : World} (h : RB b r u W) (hb : Below W.heap.size W W') : RB b r u W' := ⟨(hb.block _ h.lt).trans h.bx, h.q.after hb⟩
theorem RB.new {r : Rec} {u : Value} {w : World} (h : FL u r.fields w) : RB w.heap.size r u (w.alloc (.cells #[.int .i64 r.id, .int .i64 r.ver, .int .i64 r.kind, .string (S r.lang), u] 24)) :=
  ⟨heap_alloc_new w _, h.after ((Below.refl w.heap.size w).alloc (Nat.le_refl _) _)⟩
theorem RB.cells {b : Nat} {r : Rec} {u : Value} {W : World} (h : RB b r u W) : W.cell? ⟨b, 0, none⟩ = some (.int .i64 r.id) ∧ W.cell? ⟨b, 1, none⟩ = some (.int .i64 r.ver) ∧ W.cell? ⟨b, 2, none⟩ = some (.int .i64 r.kind) ∧ W.cell? ⟨b, 3, none⟩ = some (.string (S r.lang)) ∧ W.cell? ⟨b, 4, none⟩ = some u := (rec_cells h.bx).1

theorem RB.ex {b : Nat} {u : Value} {W : World} (h : RB b exR u W) : W.cell? ⟨b, 0, none⟩ = some (.int .i64 1) ∧ W.cell? ⟨b, 1, none⟩ = some (.int .i64 3) ∧ W.cell? ⟨b, 2, none⟩ = some (.int .i64 1) ∧ W.cell? ⟨b, 3, none⟩ = some (.string ⟨#[101, 110, 103]⟩) ∧ W.cell? ⟨b, 4, none⟩ = some u := h.cells
theorem oks_small (cs : List Nat) (h : ∀ c ∈ cs, 32 ≤ c ∧ c ≤ 126) : OKs cs := fun c hc => by have := h c hc; unfold okc; omega
theorem exL_sub : ∀ f ∈ exL, f.tag.length = 3 ∧ f.subs.length ≤ 1000 ∧ (∀ i, (f.subs.getD i sub0).2.length ≤ 1000) ∧ ∀ v ∈ allL f.subs [99], ∃ cs, OKs cs ∧ v = enc cs := by
  intro f hf
  have key : ∀ (L : List Sub), (∀ s ∈ L, s.2.length ≤ 1000) → ∀ i, (L.getD i sub0).2.length ≤ 1000 := by
    intro L hL i
    rw [List.getD_eq_getElem?_getD]
    rcases Nat.lt_or_ge i L.length with h | h
    · rw [List.getElem?_eq_getElem h]
      exact hL _ (List.getElem_mem h)
    · rw [List.getElem?_eq_none h]
      exact Nat.zero_le _
  simp only [exL, List.mem_cons, List.not_mem_nil, or_false] at hf
  rcases hf with rfl | rfl | rfl | rfl
  · exact ⟨rfl, by decide, key _ (by decide), fun v hv => absurd hv (by rw [show allL e245.subs [99] = [] by decide]; simp)⟩
  · exact ⟨rfl, by decide, key _ (by decide), fun v hv => absurd hv (by rw [show allL e100.subs [99] = [] by decide]; simp)⟩
  · refine ⟨rfl, by decide, key _ (by decide), fun v hv => ⟨[91, 99, 49, 57, 57, 56, 44, 32, 49, 57, 57, 57, 93], oks_small _ (by decide), ?_⟩⟩
    have : v ∈ [[91, 99, 49, 57, 57, 56, 44, 32, 49, 57, 57, 57, 93]] := hv
    rw [List.mem_singleton.1 this]
    decide
  · exact ⟨rfl, by decide, key _ (by decide), fun v hv => absurd hv (by rw [show allL e650.subs [99] = [] by decide]; simp)⟩

theorem cell_lt {w : World} {a : Addr} {v : Value} (h : w.cell? a = some v) : a.block < w.heap.size := by
  rcases Nat.lt_or_ge a.block w.heap.size with h' | h'
  · exact h'
  · simp [World.cell?, Array.getElem?_eq_none h'] at h
theorem cell_keep {W W' : World} {a : Addr} {v : Value} (hb : Below W.heap.size W W') (h : W.cell? a = some v) : W'.cell? a = some v := (hb.cell (cell_lt h)).trans h
theorem cell_old {W : World} {a : Addr} {v : Value} (O : Obj) (h : W.cell? a = some v) : (W.alloc O).cell? a = some v := (World.cell?_alloc_lt W O a (cell_lt h)).trans h
theorem below_via {w W : World} (O : Obj) (c : Below (w.alloc O).heap.size (w.alloc O) W) : Below w.heap.size w W :=
  ((Below.refl w.heap.size w).alloc (Nat.le_refl _) O).trans (c.mono (by simp))
/-- A text that is not empty lies in no record's box that is still empty. -/
theorem text_ne {W : World} {n g o : Nat} {t : ByteArray} (hN : W.heap[n]? = some (.cells #[.int .i64 0, .int .i64 0, .int .i64 0, .string ⟨#[]⟩, .slice none 0 0] 24)) (hc : W.cell? ⟨g, o, none⟩ = some (.string t)) (ht : t ≠ ⟨#[]⟩) : g ≠ n := by
  rintro rfl
  rw [Lib.cell_of_heap hN] at hc
  match o, hc with
  | 0, hc => simp at hc
  | 1, hc => simp at hc
  | 2, hc => simp at hc
  | 3, hc => exact ht (by simpa using hc.symm)
  | 4, hc => simp at hc
  | o + 5, hc => simp at hc
theorem set5_ne {W : World} {n g o : Nat} {v : Value} (x0 x1 x2 x3 x4 : Value) (hg : g ≠ n) (h : W.cell? ⟨g, o, none⟩ = some v) : (((((W.setCell ⟨n, 0, none⟩ x0).setCell ⟨n, 1, none⟩ x1).setCell ⟨n, 2, none⟩ x2).setCell ⟨n, 3, none⟩ x3).setCell ⟨n, 4, none⟩ x4).cell? ⟨g, o, none⟩ = some v := by
  have hne : ∀ i, (⟨n, i, none⟩ : Addr) ≠ ⟨g, o, none⟩ := fun i e => hg (congrArg Addr.block e).symm
  rw [World.cell?_setCell_other _ _ _ _ (hne 4), World.cell?_setCell_other _ _ _ _ (hne 3), World.cell?_setCell_other _ _ _ _ (hne 2), World.cell?_setCell_other _ _ _ _ (hne 1), World.cell?_setCell_other _ _ _ _ (hne 0)]
  exact h

section
variable (x : Value) (W : World) (hF : FL x exL W)
include hF
theorem exSubjects : Calls Tryz.prog 34 #[.agg #[.int .i64 1, .int .i64 3, .int .i64 1, .string ⟨#[101, 110, 103]⟩, x]] W fun e w' => ∃ h p c, e = .returned (.slice (some ⟨h, p, none⟩) 1 c) ∧ w'.cell? ⟨h, p, none⟩ = some (.string ⟨#[68, 111, 103, 115, 45, 45, 72, 105, 115, 116, 111, 114, 121]⟩) ∧ Below W.heap.size W w' := by
  have := pSubjects_any exR x W hF (by decide) (fun f hf => ⟨(exL_sub f hf).2.1, (exL_sub f hf).2.2.1⟩)
  rw [show subjR exR.fields = _ from exR_subj] at this
  refine this.mono ?_
  rintro e w' ⟨v, rfl, ⟨a, c, rfl, _, _, _, hc⟩, hb⟩
  obtain ⟨g, o, rfl, _, hcell⟩ := hc 0 (by decide)
  exact ⟨g, o, c, rfl, hcell, hb⟩
theorem exSorted : Calls Tryz.prog 25 #[.agg #[.int .i64 1, .int .i64 3, .int .i64 1, .string ⟨#[101, 110, 103]⟩, x]] W fun e w' => ∃ g o c, e = .returned (.agg #[.int .i64 1, .int .i64 3, .int .i64 1, .string ⟨#[101, 110, 103]⟩, .slice (some ⟨g, o, none⟩) 4 c]) ∧ w'.cell? ⟨g, o, none⟩ = some (.string ⟨#[49, 48, 48]⟩) ∧ w'.cell? ⟨g, o + 12, none⟩ = some (.string ⟨#[54, 53, 48]⟩) ∧ Below W.heap.size W w' := by
  refine (pSorted_any exR x W hF (by decide)).mono ?_
  rintro e w' ⟨v, N, rfl, hS, hv, hb⟩
  obtain ⟨hl, h0, h3⟩ := exR_sorted N hS
  obtain ⟨g, o, cap, u, rfl, _, c0, _⟩ := hv.at 0 (by omega)
  obtain ⟨g', o', cap', u', he, _, c3, _⟩ := hv.at 3 (by omega)
  obtain ⟨ha, -, -⟩ := Value.slice.inj he
  simp only [Option.some.injEq, Addr.mk.injEq] at ha
  obtain ⟨rfl, rfl, -⟩ := ha
  rw [h0] at c0
  rw [h3] at c3
  rw [hl]
  exact ⟨g, o, cap, rfl, c0, c3, hb⟩
theorem exRight (hE : Env W) : Calls Tryz.prog 12 #[.agg #[.int .i64 1, .int .i64 3, .int .i64 1, .string ⟨#[101, 110, 103]⟩, x]] W fun e w' => e = .returned (.int .i64 0) ∧ Below W.heap.size W w' :=
  pRight_any exR x W hE hF (by unfold maxLen; decide) (fun i hi j hj => by
    have h := (exL_sub (exL.getD i fd0) (by rw [List.getD_eq_getElem?_getD, List.getElem?_eq_getElem (show i < exL.length from hi)]; exact List.getElem_mem _)).2.2.1 j
    exact Nat.le_trans h (by decide)) 0 exR_right
theorem exTitle : Calls Tryz.prog 27 #[.agg #[.int .i64 1, .int .i64 3, .int .i64 1, .string ⟨#[101, 110, 103]⟩, x]] W fun e w' => e = .returned (.string ⟨#[68, 111, 103, 115, 32, 58, 32, 97, 32, 103, 117, 105, 100, 101]⟩) ∧ Below W.heap.size W w' :=
  pTitle_any exR x W hF (fun f hf => (exL_sub f hf).1) (fun f hf => ⟨(exL_sub f hf).2.1, (exL_sub f hf).2.2.1⟩) _ (fun W2 => clean_is _ _ [68, 111, 103, 115, 32, 58, 32, 97, 32, 103, 117, 105, 100, 101] (oks_small _ (by decide)) (by rw [show titleL exR.fields = _ from exR_title]; decide +kernel) (by decide) (by decide +kernel) W2)
theorem exAuthor (hT : AT W) : Calls Tryz.prog 29 #[.agg #[.int .i64 1, .int .i64 3, .int .i64 1, .string ⟨#[101, 110, 103]⟩, x]] W fun e w' => e = .returned (.string ⟨#[83, 109, 105, 116, 104, 44, 32, 65, 110, 110]⟩) ∧ Below W.heap.size W w' := by
  have := pAuthor_any exR x W hT hF (fun f hf => (exL_sub f hf).1)
  rw [show authorO exR.fields atags = _ from exR_author] at this
  exact this
theorem exYear (hE : Env W) : Calls Tryz.prog 31 #[.agg #[.int .i64 1, .int .i64 3, .int .i64 1, .string ⟨#[101, 110, 103]⟩, x]] W fun e w' => e = .returned (.int .i64 1998) ∧ Below W.heap.size W w' := by
  have := pYear_any exR x W hE hF (fun f hf => ⟨(exL_sub f hf).2.1, (exL_sub f hf).2.2.1⟩) (fun f hf => (exL_sub f hf).2.2.2)
  rw [show yearR exR.fields = _ from exR_year] at this
  exact this
theorem exFields : Calls Tryz.prog 18 #[.agg #[.int .i64 1, .int .i64 3, .int .i64 1, .string ⟨#[101, 110, 103]⟩, x], .string ⟨#[50]⟩] W fun e w' => ∃ a c, e = .returned (.slice a 2 c) ∧ Below W.heap.size W w' := by
  refine (pFields_any exR x W hF [50] (by decide)).mono ?_
  rintro e w' ⟨v, h1, h2, h3⟩
  obtain ⟨a, c, rfl, _⟩ := h2.length
  rw [show (fieldsL exR.fields [50]).length = 2 from exR_two] at h1
  exact ⟨a, c, h1, h3⟩
theorem exSame : Calls Tryz.prog 14 #[.agg #[.int .i64 1, .int .i64 3, .int .i64 1, .string ⟨#[101, 110, 103]⟩, x], .agg #[.int .i64 1, .int .i64 3, .int .i64 1, .string ⟨#[101, 110, 103]⟩, x]] W fun e w' => e = .returned (.bool true) ∧ Below W.heap.size W w' :=
  pSame_any exR exR x x W hF hF true exR_same
theorem exInsert (hE : Env W) (y : Value) (hy : QL y e245.subs W) : Calls Tryz.prog 21 #[.agg #[.int .i64 1, .int .i64 3, .int .i64 1, .string ⟨#[101, 110, 103]⟩, x], .int .i64 5, .agg #[.string ⟨#[50, 52, 53]⟩, .string ⟨#[49, 48]⟩, y, .int .i64 0]] W fun e w' => ∃ (i1 i2 i3 : Int) (s : ByteArray) (a : Option Addr) (n c : Nat), e = .returned (.tuple #[.agg #[.int .i64 i1, .int .i64 i2, .int .i64 i3, .string s, .slice a n c], .int .i64 2]) ∧ Below W.heap.size W w' := by
  obtain ⟨q, er, hq⟩ : ∃ q er, insR exR 5 e245 = (q, er) := ⟨_, _, rfl⟩
  obtain rfl : er = 2 := by have := exR_ins; rw [hq] at this; exact this
  refine (pInsert_any exR x W hE hF 5 e245 y hy (fun j _ => Nat.le_trans ((exL_sub e245 (by simp [exL])).2.2.1 j) (by decide)) (by decide) q 2 hq).mono ?_
  rintro e w' ⟨v, rfl, h2, h3⟩
  obtain ⟨a, c, rfl, _⟩ := h2.length
  exact ⟨_, _, _, _, a, _, c, rfl, h3⟩
theorem exRemove : Calls Tryz.prog 23 #[.agg #[.int .i64 1, .int .i64 3, .int .i64 1, .string ⟨#[101, 110, 103]⟩, x], .int .i64 4] W fun e w' => ∃ (i1 i2 i3 : Int) (s : ByteArray) (a : Option Addr) (n c : Nat), e = .returned (.tuple #[.agg #[.int .i64 i1, .int .i64 i2, .int .i64 i3, .string s, .slice a n c], .int .i64 2]) ∧ Below W.heap.size W w' := by
  obtain ⟨q, er, hq⟩ : ∃ q er, remR exR 4 = (q, er) := ⟨_, _, rfl⟩
  obtain rfl : er = 2 := by have := exR_rem; rw [hq] at this; exact this
  refine (pRemove_any exR x W hF 4 (by decide) q 2 hq).mono ?_
  rintro e w' ⟨v, rfl, h2, h3⟩
  obtain ⟨a, c, rfl, _⟩ := h2.length
  exact ⟨_, _, _, _, a, _, c, rfl, h3⟩
end

/-- What lies in memory behind the first calls: the example in its box, the first subject, the list of Sorted and two of its tags. -/
structure XS (b : Nat) (u : Value) (h p b3 g o c3 : Nat) (W : World) : Prop where
  rb : RB b exR u W
  l : W.cell? ⟨h, p, none⟩ = some (.string ⟨#[68, 111, 103, 115, 45, 45, 72, 105, 115, 116, 111, 114, 121]⟩)
  f : W.cell? ⟨b3, 4, none⟩ = some (.slice (some ⟨g, o, none⟩) 4 c3)
  m0 : W.cell? ⟨g, o, none⟩ = some (.string ⟨#[49, 48, 48]⟩)
  m3 : W.cell? ⟨g, o + 12, none⟩ = some (.string ⟨#[54, 53, 48]⟩)
  e : EnvR W
theorem XS.after {b : Nat} {u : Value} {h p b3 g o c3 : Nat} {W W' : World} (x : XS b u h p b3 g o c3 W) (hb : Below W.heap.size W W') : XS b u h p b3 g o c3 W' :=
  ⟨x.rb.after hb, cell_keep hb x.l, cell_keep hb x.f, cell_keep hb x.m0, cell_keep hb x.m3, x.e.after hb⟩

set_option maxHeartbeats 16000000 in
set_option maxRecDepth 100000 in
theorem alive_any (w : World) (hE : EnvR w) :
    Calls Tryz.prog 11 #[] w fun e w' => e = .returned (.bool true) ∧ Below w.heap.size w w' := by
  have HE := Lib.hid hE
  have C0 := Lib.hid (example_any w)
  have CSub := Lib.hid exSubjects
  have CSort := Lib.hid exSorted
  have CRight := Lib.hid exRight
  have CTitle := Lib.hid exTitle
  have CAuthor := Lib.hid exAuthor
  have CYear := Lib.hid exYear
  have CFields := Lib.hid exFields
  have CSame := Lib.hid exSame
  have CIns := Lib.hid exInsert
  have CRem := Lib.hid exRemove
  clear hE
  go_enter Tryz.func11, Tryz.ntmps11
  go_wp2_with fail
  refine (C0.out).mono ?_
  rintro e w1 ⟨v, rfl, hF, c⟩
  obtain ⟨a, cp, rfl, _, _⟩ := hF.length
  have hX : RB w1.heap.size exR (.slice a exL.length cp) (w1.alloc (.cells #[.int .i64 1, .int .i64 3, .int .i64 1, .string ⟨#[101, 110, 103]⟩, .slice a 4 cp] 24)) := RB.new (r := exR) hF
  have hb := c.trans (((Below.refl w1.heap.size w1).alloc (Nat.le_refl _) (.cells #[.int .i64 1, .int .i64 3, .int .i64 1, .string ⟨#[101, 110, 103]⟩, .slice a 4 cp] 24)).mono c.size)
  obtain ⟨b, hbb⟩ : ∃ b, w1.heap.size = b := ⟨_, rfl⟩
  obtain ⟨w2, hw2⟩ : ∃ w2, w1.alloc (.cells #[.int .i64 1, .int .i64 3, .int .i64 1, .string ⟨#[101, 110, 103]⟩, .slice a 4 cp] 24) = w2 := ⟨_, rfl⟩
  rw [hw2] at hX hb
  have hbs : w.heap.size ≤ b := by rw [← hbb]; exact c.size
  have HW2 := Lib.hid hw2
  have HBB := Lib.hid hbb
  rw [hbb] at hX
  have HX := Lib.hid hX
  have HB := Lib.hid hb
  clear hF c hw2 hX hb hbb
  have hrv : RV exR (.slice a exL.length cp) = .agg #[.int .i64 1, .int .i64 3, .int .i64 1, .string ⟨#[101, 110, 103]⟩, .slice a 4 cp] := rfl
  rw [hrv]
  go_upto_region 2 with fail
  rw [HW2.out, HBB.out]
  go_cut [2, 3] from 9 (fun s2 s3 wy => ∃ (h p c2 b3 g o c3 : Nat), s2 = .slice (some ⟨h, p, none⟩) 1 c2 ∧ s3 = .pointer (some ⟨b3, 0, none⟩) ∧ wy.cell? ⟨h, p, none⟩ = some (.string ⟨#[68, 111, 103, 115, 45, 45, 72, 105, 115, 116, 111, 114, 121]⟩) ∧ wy.cell? ⟨b3, 4, none⟩ = some (.slice (some ⟨g, o, none⟩) 4 c3) ∧ wy.cell? ⟨g, o, none⟩ = some (.string ⟨#[49, 48, 48]⟩) ∧ wy.cell? ⟨g, o + 12, none⟩ = some (.string ⟨#[54, 53, 48]⟩) ∧ Below w2.heap.size w2 wy)
  case first =>
    have hX : RB b exR (.slice a exL.length cp) w2.drew := ⟨HX.out.bx, HX.out.q.after ⟨rfl, rfl, rfl, Nat.le_refl _, fun _ _ => rfl⟩⟩
    obtain ⟨k0, k1, k2, k3, k4⟩ := HX.out.ex
    have hlen : exL.length = 4 := rfl
    rw [hlen] at k4
    (have hXA := (hX.after ((Below.refl _ _).alloc (Nat.le_refl _) (.cells #[.int .i64 0, .int .i64 0, .int .i64 0, .string ⟨#[]⟩, .slice none 0 0] 24))).ex; rw [hlen] at hXA; obtain ⟨q0, q1, q2, q3, q4⟩ := hXA; have hlb := hX.lt)
    clear hlb
    have hlb : b < w2.heap.size := HX.out.lt
    go_region_law (first
      | (go_simp; go_at_call 34; refine (CSub.out _ _ ?_).mono ?_; (first | exact hX.q | exact (hX.after ((Below.refl _ _).alloc (Nat.le_refl _) (.cells #[.int .i64 0, .int .i64 0, .int .i64 0, .string ⟨#[]⟩, .slice none 0 0] 24))).q); rintro e WS ⟨hs, ps, cs, rfl, hl, cS⟩; (first | replace hX := hX.after cS | replace hX := hX.after ⟨cS.os, cS.tape, cS.output, cS.size, cS.block⟩ | replace hX := (hX.after ((Below.refl _ _).alloc (Nat.le_refl _) (.cells #[.int .i64 0, .int .i64 0, .int .i64 0, .string ⟨#[]⟩, .slice none 0 0] 24))).after ⟨cS.os, cS.tape, cS.output, cS.size, cS.block⟩); clear k0 k1 k2 k3 k4; obtain ⟨k0, k1, k2, k3, k4⟩ := hX.ex; rw [hlen] at k4; clear q0 q1 q2 q3 q4 hlb; (have hXA := (hX.after ((Below.refl _ _).alloc (Nat.le_refl _) (.cells #[.int .i64 0, .int .i64 0, .int .i64 0, .string ⟨#[]⟩, .slice none 0 0] 24))).ex; rw [hlen] at hXA; obtain ⟨q0, q1, q2, q3, q4⟩ := hXA; have hlb := hX.lt); (first | replace hN := (cS.block _ (Array.getElem?_eq_some_iff.1 hN).1).trans hN | have hN := (cS.block _ (by simp)).trans (heap_alloc_new _ (.cells #[.int .i64 0, .int .i64 0, .int .i64 0, .string ⟨#[]⟩, .slice none 0 0] 24)) | skip); (first | (have hN2 := rec_cells hN; obtain ⟨⟨z0, z1, z2, z3, z4⟩, f0, f1, f2, f3, f4⟩ := hN2) | skip); have hD : Below w2.heap.size w2 WS := (by first | exact ⟨cS.os, cS.tape, cS.output, cS.size, cS.block⟩ | exact below_via (.cells #[.int .i64 0, .int .i64 0, .int .i64 0, .string ⟨#[]⟩, .slice none 0 0] 24) ⟨cS.os, cS.tape, cS.output, cS.size, cS.block⟩))
      | (go_simp; go_at_call 25; refine (CSort.out _ _ ?_).mono ?_; (first | exact hX.q | exact (hX.after ((Below.refl _ _).alloc (Nat.le_refl _) (.cells #[.int .i64 0, .int .i64 0, .int .i64 0, .string ⟨#[]⟩, .slice none 0 0] 24))).q); rintro e WT ⟨gt, ot, ct, rfl, hm0, hm3, cT⟩; (first | replace hX := hX.after cT | replace hX := hX.after ⟨cT.os, cT.tape, cT.output, cT.size, cT.block⟩ | replace hX := (hX.after ((Below.refl _ _).alloc (Nat.le_refl _) (.cells #[.int .i64 0, .int .i64 0, .int .i64 0, .string ⟨#[]⟩, .slice none 0 0] 24))).after ⟨cT.os, cT.tape, cT.output, cT.size, cT.block⟩); clear k0 k1 k2 k3 k4; obtain ⟨k0, k1, k2, k3, k4⟩ := hX.ex; rw [hlen] at k4; clear q0 q1 q2 q3 q4 hlb; (have hXA := (hX.after ((Below.refl _ _).alloc (Nat.le_refl _) (.cells #[.int .i64 0, .int .i64 0, .int .i64 0, .string ⟨#[]⟩, .slice none 0 0] 24))).ex; rw [hlen] at hXA; obtain ⟨q0, q1, q2, q3, q4⟩ := hXA; have hlb := hX.lt); (first | replace hN := (cT.block _ (Array.getElem?_eq_some_iff.1 hN).1).trans hN | have hN := (cT.block _ (by simp)).trans (heap_alloc_new _ (.cells #[.int .i64 0, .int .i64 0, .int .i64 0, .string ⟨#[]⟩, .slice none 0 0] 24)) | skip); (first | (have hN2 := rec_cells hN; obtain ⟨⟨z0, z1, z2, z3, z4⟩, f0, f1, f2, f3, f4⟩ := hN2) | skip); have hD0 := hD; replace hD : Below w2.heap.size w2 WT := (by first | exact hD.trans (cT.mono hD.size) | exact hD.trans ((below_via (.cells #[.int .i64 0, .int .i64 0, .int .i64 0, .string ⟨#[]⟩, .slice none 0 0] 24) cT).mono hD.size)); replace hl := (by first | exact cell_keep cT hl | exact cell_keep cT (cell_old _ hl) : WT.cell? ⟨hs, ps, none⟩ = some (.string ⟨#[68, 111, 103, 115, 45, 45, 72, 105, 115, 116, 111, 114, 121]⟩))))
    all_goals
      go_wp2_with fail
      go_meet
      refine ⟨hs, ps, cs, _, gt, ot, ct, rfl, rfl, ?_, ?_, ?_, ?_, ?_⟩
      · first
          | (have hn := hN; exact set5_ne _ _ _ _ _ (text_ne hn hl (by intro h; exact absurd (congrArg ByteArray.size h) (by decide))) hl)
          | exact cell_old _ hl
      · first
          | (have hn := hN; have h9 := (rec_cells (rec_set (x0 := .int .i64 1) (x1 := .int .i64 3) (x2 := .int .i64 1) (x3 := .string ⟨#[101, 110, 103]⟩) (x4 := .slice (some ⟨gt, ot, none⟩) 4 ct) hn)).1.2.2.2.2; exact h9)
          | (have h9 := (rec_cells (heap_alloc_new WT (.cells #[.int .i64 1, .int .i64 3, .int .i64 1, .string ⟨#[101, 110, 103]⟩, .slice (some ⟨gt, ot, none⟩) 4 ct] 24))).1.2.2.2.2; exact h9)
      · first
          | (have hn := hN; exact set5_ne _ _ _ _ _ (text_ne hn hm0 (by intro h; exact absurd (congrArg ByteArray.size h) (by decide))) hm0)
          | exact cell_old _ hm0
      · first
          | (have hn := hN; exact set5_ne _ _ _ _ _ (text_ne hn hm3 (by intro h; exact absurd (congrArg ByteArray.size h) (by decide))) hm3)
          | exact cell_old _ hm3
      · first
          | (have hn := hN; exact rec_below hD (by first | exact hD0.size | exact Nat.le_refl _) _ _ _ _ _)
          | exact hD.alloc hD.size _
  case rest =>
    obtain ⟨h, p, c2, b3, g, o, c3, rfl, rfl, hl, hf, hm0, hm3, hbw⟩ := hcut
    have hlen : exL.length = 4 := rfl
    have hS : XS b (.slice a 4 cp) h p b3 g o c3 wc := ⟨HX.out.after hbw, hl, hf, hm0, hm3, HE.out.after (HB.out.trans (hbw.mono HB.out.size))⟩
    have hb := HB.out.trans (hbw.mono HB.out.size)
    clear hl hf hm0 hm3 hbw HX HB HE
    obtain ⟨k0, k1, k2, k3, k4⟩ := hS.rb.ex
    have l0 := hS.l
    have f0 := hS.f
    have m0 := hS.m0
    have m3 := hS.m3
    go_wp2_with fail
    refine (CRight.out _ _ hS.rb.q hS.e.e).mono ?_
    rintro e wn ⟨rfl, c⟩
    have hS := hS.after c
    have hb := hb.trans (c.mono hb.size)
    clear c k0 k1 k2 k3 k4 l0 f0 m0 m3
    obtain ⟨k0, k1, k2, k3, k4⟩ := hS.rb.ex
    have l0 := hS.l
    have f0 := hS.f
    have m0 := hS.m0
    have m3 := hS.m3
    go_wp2_with fail
    refine (CTitle.out _ _ hS.rb.q).mono ?_
    rintro e wn ⟨rfl, c⟩
    have hS := hS.after c
    have hb := hb.trans (c.mono hb.size)
    clear c k0 k1 k2 k3 k4 l0 f0 m0 m3
    obtain ⟨k0, k1, k2, k3, k4⟩ := hS.rb.ex
    have l0 := hS.l
    have f0 := hS.f
    have m0 := hS.m0
    have m3 := hS.m3
    go_wp2_with fail
    refine (CAuthor.out _ _ hS.rb.q hS.e.a).mono ?_
    rintro e wn ⟨rfl, c⟩
    have hS := hS.after c
    have hb := hb.trans (c.mono hb.size)
    clear c k0 k1 k2 k3 k4 l0 f0 m0 m3
    obtain ⟨k0, k1, k2, k3, k4⟩ := hS.rb.ex
    have l0 := hS.l
    have f0 := hS.f
    have m0 := hS.m0
    have m3 := hS.m3
    go_wp2_with fail
    refine (CYear.out _ _ hS.rb.q hS.e.e).mono ?_
    rintro e wn ⟨rfl, c⟩
    have hS := hS.after c
    have hb := hb.trans (c.mono hb.size)
    clear c k0 k1 k2 k3 k4 l0 f0 m0 m3
    obtain ⟨k0, k1, k2, k3, k4⟩ := hS.rb.ex
    have l0 := hS.l
    have f0 := hS.f
    have m0 := hS.m0
    have m3 := hS.m3
    go_wp2_with fail
    refine (CFields.out _ _ hS.rb.q).mono ?_
    rintro e wn ⟨aF, cF, rfl, c⟩
    have hS := hS.after c
    have hb := hb.trans (c.mono hb.size)
    clear c k0 k1 k2 k3 k4 l0 f0 m0 m3
    obtain ⟨k0, k1, k2, k3, k4⟩ := hS.rb.ex
    have l0 := hS.l
    have f0 := hS.f
    have m0 := hS.m0
    have m3 := hS.m3
    go_wp2_with fail
    refine (CSame.out _ _ hS.rb.q).mono ?_
    rintro e wn ⟨rfl, c⟩
    have hS := hS.after c
    have hb := hb.trans (c.mono hb.size)
    clear c k0 k1 k2 k3 k4 l0 f0 m0 m3
    obtain ⟨ga, oa, ca, y, he, hga, e0, e1, e2, e3, hy⟩ := hS.rb.q.at 0 (by decide)
    obtain ⟨ha, -, hca⟩ := Value.slice.inj he
    subst ha hca
    clear he
    obtain ⟨ay, cy, hyv, _, _, _, _⟩ := id hy
    subst hyv
    replace e0 : wn.cell? ⟨ga, oa, none⟩ = some (.string ⟨#[50, 52, 53]⟩) := e0
    replace e1 : wn.cell? ⟨ga, oa + 1, none⟩ = some (.string ⟨#[49, 48]⟩) := e1
    replace e2 : wn.cell? ⟨ga, oa + 2, none⟩ = some (.slice ay 2 cy) := e2
    replace e3 : wn.cell? ⟨ga, oa + 3, none⟩ = some (.int .i64 0) := e3
    have f0 := hS.f
    have l0 := hS.l
    have m0 := hS.m0
    have m3 := hS.m3
    go_upto_region 7 with fail
    clear f0 l0 m0 m3
    go_cut [4, 5] from 74 (fun s4 s5 wy => s5 = .int .i64 2 ∧ Below wn.heap.size wn wy)
    case first =>
      obtain ⟨k0, k1, k2, k3, k4⟩ := hS.rb.ex
      have hlb : b < wn.heap.size := hS.rb.lt
      have bd : Below wn.heap.size wn wn.drew := ⟨rfl, rfl, rfl, Nat.le_refl _, fun _ _ => rfl⟩
      have hF := hS.rb.q.after bd
      have hEd := hS.e.e.after bd
      have hyd := hy.after bd
      have i1 : (0 : Int) < 4 := by decide
      clear bd
      go_region_law (first
        | (go_simp; go_at_call 21; refine (CIns.out _ _ ?_ ?_ _ ?_).mono ?_; (first | exact hF | exact hF.after ((Below.refl _ _).alloc (Nat.le_refl _) (.cells #[.int .i64 0, .int .i64 0, .int .i64 0, .string ⟨#[]⟩, .slice none 0 0] 24))); (first | exact hEd | exact hEd.after ((Below.refl _ _).alloc (Nat.le_refl _) (.cells #[.int .i64 0, .int .i64 0, .int .i64 0, .string ⟨#[]⟩, .slice none 0 0] 24))); (first | exact hyd | exact hyd.after ((Below.refl _ _).alloc (Nat.le_refl _) (.cells #[.int .i64 0, .int .i64 0, .int .i64 0, .string ⟨#[]⟩, .slice none 0 0] 24))); rintro e WI ⟨i1, i2, i3, si, ai, ni, ci, rfl, cI⟩; (first | (have hN := (cI.block _ (by simp)).trans (heap_alloc_new _ (.cells #[.int .i64 0, .int .i64 0, .int .i64 0, .string ⟨#[]⟩, .slice none 0 0] 24)); have hN2 := rec_cells hN; obtain ⟨⟨z0, z1, z2, z3, z4⟩, f0, f1, f2, f3, f4⟩ := hN2) | skip); (have hD : Below wn.heap.size wn WI := (by first | exact ⟨cI.os, cI.tape, cI.output, cI.size, cI.block⟩ | exact below_via (.cells #[.int .i64 0, .int .i64 0, .int .i64 0, .string ⟨#[]⟩, .slice none 0 0] 24) ⟨cI.os, cI.tape, cI.output, cI.size, cI.block⟩))))
      all_goals
        go_wp2_with fail
        go_meet
        refine ⟨rfl, ?_⟩
        first
          | (have hn := hN; exact rec_below hD (Nat.le_refl _) _ _ _ _ _)
          | exact hD.alloc hD.size _
    case rest =>
      obtain ⟨rfl, hbI⟩ := hcut
      have hS := hS.after hbI
      have hb := hb.trans (hbI.mono hb.size)
      clear hbI e0 e1 e2 e3 hy
      obtain ⟨k0, k1, k2, k3, k4⟩ := hS.rb.ex
      go_wp2_with fail
      refine (CRem.out _ _ hS.rb.q).mono ?_
      rintro e wn ⟨i1, i2, i3, si, ai, ni, ci, rfl, c⟩
      have hb := hb.trans (c.mono hb.size)
      clear c k0 k1 k2 k3 k4
      go_wp2
      go_ret
      exact ⟨rfl, hb.alloc hb.size _⟩
end

end Go.Proofs.YtcnjjdbpcobolaaGreatDoor
