/- Package field's functions in the forms that the laws take; the chapter's examples; the laws Prints, Back, Sets; what Set keeps. -/
import Derived.Test.YtjajihemcaihmaaDoorFP07
import Derived.Test.YtjajihemcaihmaaDoorFI07
import Derived.Test.YtjajihemcaihmaaDoorR07L
import Derived.Deep.RegionLaw
import Derived.Deep.RegionHeld3
namespace Go.Proofs.YtjajihemcaihmaaDoor

section
open Go.RowKit Go.PlainAid
theorem pRight (f : Fld) (u : Value) (w : World) (hE : Env w) (hu : QL u f.subs w) (hz : ∀ i, i < f.subs.length → (f.subs.getD i sub0).2.length ≤ 1000) (er : Int) (hb : rightI f = er) :
    Calls Tryd.prog 11 #[FV f u] w fun e w' => e = .returned (.int .i64 er) ∧ Below w.heap.size w w' := fRight_any f u w hE hu (fun i hi => by have := hz i hi; omega) er hb
theorem pSame (f g : Fld) (u v : Value) (w : World) (hu : QL u f.subs w) (hv : QL v g.subs w) (b : Bool) (hb : sameB f g = b) :
    Calls Tryd.prog 13 #[FV f u, FV g v] w fun e w' => e = .returned (.bool b) ∧ Below w.heap.size w w' := fSame_any f g u v w hu hv b hb
theorem pGet (f : Fld) (u : Value) (w : World) (hu : QL u f.subs w) (c : UInt8) (r : List UInt8) (b : Bool) (hb : getL f.subs c = (r, b)) :
    Calls Tryd.prog 15 #[FV f u, .int .u8 (c.toNat : Int)] w fun e w' => e = .returned (.tuple #[.string (S r), .bool b]) ∧ Below w.heap.size w w' := fGet_any f u w hu c r b hb
theorem pAll (f : Fld) (u : Value) (w : World) (hu : QL u f.subs w) (codes : List UInt8) (hs : f.subs.length ≤ 100) :
    Calls Tryd.prog 18 #[FV f u, .string (S codes)] w fun e w' => ∃ v', e = .returned v' ∧ BL v' (allL f.subs codes) w' ∧ Below w.heap.size w w' := fAll_any f u w hu codes (by omega)
theorem pPlain (f : Fld) (u : Value) (w : World) (hu : QL u f.subs w) (codes : List UInt8) (hs : f.subs.length ≤ 100) (hL : ∀ i, ((allL f.subs codes).getD i []).length ≤ 1000) :
    Calls Tryd.prog 20 #[FV f u, .string (S codes)] w fun e w' => e = .returned (.string (S (plainL f.subs codes))) ∧ Below w.heap.size w w' := fPlain_any f u w hu codes (by omega) (fun i => by have := hL i; omega)
theorem pSet (f : Fld) (u : Value) (w : World) (hu : QL u f.subs w) (code : UInt8) (val : List UInt8) (hs : f.subs.length ≤ 100) :
    Calls Tryd.prog 22 #[FV f u, .int .u8 (code.toNat : Int), .string (S val)] w fun e w' => ∃ v', e = .returned (FV { f with subs := setR f.subs code val } v') ∧ QL v' (setR f.subs code val) w' ∧ Below w.heap.size w w' := fSet_any f u w hu code val (by omega)
theorem pPrint (f : Fld) (u : Value) (w : World) (hE : Env w) (hu : QL u f.subs w) (hz : ∀ i, i < f.subs.length → (f.subs.getD i sub0).2.length ≤ 1000) (r : List UInt8) (er : Int) (h : printR f = (r, er)) :
    Calls Tryd.prog 24 #[FV f u] w fun e w' => e = .returned (.tuple #[.string (S r), .int .i64 er]) ∧ Below w.heap.size w w' := fPrint_any f u w hE hu (fun i hi => by have := hz i hi; omega) r er h
theorem pParse (s : List UInt8) (hs : s.length ≤ 20000) (w : World) (hE : Env w) (f : Fld) (er : Int) (h : parseR s = (f, er)) :
    Calls Tryd.prog 26 #[.string (S s)] w fun e w' => ∃ v, e = .returned (.tuple #[FV f v, .int .i64 er]) ∧ QL v f.subs w' ∧ Below w.heap.size w w' := fParse_any s (by omega) w hE f er h
end

section
open Go.RowKit Go.PlainAid
/-! The example's field. -/
def exSubs : List Sub := [(97, [68, 111, 103, 115]), (98, [97, 110, 100, 32, 36, 53]), (97, [120])]
def exF : Fld := ⟨[50, 52, 53], [49, 48], exSubs, 0⟩
def exG : Fld := ⟨[48, 48, 57], [49, 48], exSubs, 0⟩
def exH : Fld := ⟨[54, 53, 48], [32, 48], [(97, [68, 111, 103, 115])], 3⟩
theorem ex_right : rightI exF = 0 := by decide +kernel
theorem ex_print : printR exF = ([50, 52, 53, 32, 49, 48, 32, 36, 97, 68, 111, 103, 115, 36, 98, 97, 110, 100, 32, 36, 36, 53, 36, 97, 120], 0) := by
  unfold printR
  rw [if_pos ex_right]
  rfl
theorem ex_get : getL exSubs 97 = ([68, 111, 103, 115], true) := by decide
theorem ex_all : allL exSubs [97] = [[68, 111, 103, 115], [120]] := by decide
theorem ex_plain : plainL exSubs [97, 98] = [68, 111, 103, 115, 32, 97, 110, 100, 32, 36, 53, 32, 120] := by decide
theorem ex_set : setR exSubs 97 [] = [(98, [97, 110, 100, 32, 36, 53])] := by decide
theorem ex_rightG : rightI exG = 6 := by decide +kernel
theorem ex_rightH : rightI exH = 0 := by decide +kernel
theorem ex_line : lineL exH = [54, 53, 48, 64, 51, 32, 35, 48, 32, 36, 97, 68, 111, 103, 115] := by
  unfold lineL headL authP exH
  rw [if_neg (by decide), show (3 : Int).toNat = 3 from rfl, dec1 3 (by decide)]
  rfl
theorem ex_parse : parseR [54, 53, 48, 64, 51, 32, 35, 48, 32, 36, 97, 68, 111, 103, 115] = (exH, 0) := by
  unfold parseR
  rw [← ex_line, parse_back exH ex_rightH]
theorem ex_bad : parseR [50, 52, 53, 32, 49, 48, 32, 36, 97] = (fld0, 3) := by
  have h : readL [50, 52, 53, 32, 49, 48, 32, 36, 97] = some ⟨[50, 52, 53], [49, 48], [(97, [])], 0⟩ := by rfl
  have hn : ¬ (rightI (Fld.mk [50, 52, 53] [49, 48] [(97, [])] 0) = 0 ∧ lineL (Fld.mk [50, 52, 53] [49, 48] [(97, [])] 0) = [50, 52, 53, 32, 49, 48, 32, 36, 97]) := by
    rintro ⟨h1, _⟩
    exact absurd h1 (by decide +kernel)
  unfold parseR parseO
  rw [h]
  show (match (if rightI (Fld.mk [50, 52, 53] [49, 48] [(97, [])] 0) = 0 ∧ lineL (Fld.mk [50, 52, 53] [49, 48] [(97, [])] 0) = [50, 52, 53, 32, 49, 48, 32, 36, 97] then some (Fld.mk [50, 52, 53] [49, 48] [(97, [])] 0) else none) with | some f => (f, (0 : Int)) | none => (fld0, 3)) = _
  rw [if_neg hn]

/-- The example's field in memory. -/
structure EX (b : Nat) (tag : ByteArray) (W : World) : Prop where
  s : W.heap[b]? = some (.cells #[.int .u8 97, .string ⟨#[68, 111, 103, 115]⟩, .int .u8 98, .string ⟨#[97, 110, 100, 32, 36, 53]⟩, .int .u8 97, .string ⟨#[120]⟩] 45 (0, 0))
  f : W.heap[b + 1]? = some (.cells #[.string tag, .string ⟨#[49, 48]⟩, .slice (some ⟨b, 0, none⟩) 3 3, .int .i64 0] 24 (0, 0))
theorem EX.ql {b : Nat} {tag : ByteArray} {W : World} (h : EX b tag W) : QL (.slice (some ⟨b, 0, none⟩) 3 3) exSubs W := by
  refine ⟨_, 3, rfl, Nat.le_refl _, by decide, (fun h => by cases h), fun i hi => ⟨b, 0, rfl, (Array.getElem?_eq_some_iff.1 h.s).1, ?_, ?_⟩⟩
  · rw [Lib.cell_of_heap h.s]
    match i, hi with
    | 0, _ => rfl
    | 1, _ => rfl
    | 2, _ => rfl
    | (i + 3), hi => exact absurd hi (by simp [exSubs])
  · rw [Lib.cell_of_heap h.s]
    match i, hi with
    | 0, _ => rfl
    | 1, _ => rfl
    | 2, _ => rfl
    | (i + 3), hi => exact absurd hi (by simp [exSubs])
theorem EX.lt {b : Nat} {tag : ByteArray} {W : World} (h : EX b tag W) : b + 2 ≤ W.heap.size := by
  have := (Array.getElem?_eq_some_iff.1 h.f).1
  omega
theorem EX.after {b : Nat} {tag : ByteArray} {W W' : World} (h : EX b tag W) (hb : Below W.heap.size W W') : EX b tag W' :=
  ⟨(hb.block _ (Array.getElem?_eq_some_iff.1 h.s).1).trans h.s, (hb.block _ (Array.getElem?_eq_some_iff.1 h.f).1).trans h.f⟩
theorem EX.set {b : Nat} {tag : ByteArray} {W : World} (h : EX b tag W) (x : ByteArray) : EX b x (W.setCell ⟨b + 1, 0, none⟩ (.string x)) :=
  ⟨(heap_set_ne W _ _ _ (by simp)).trans h.s, by simp [World.setCell, Array.getElem?_modify, h.f]⟩
theorem EX.first (w : World) : EX w.heap.size ⟨#[50, 52, 53]⟩ ((w.alloc (.cells #[.int .u8 97, .string ⟨#[68, 111, 103, 115]⟩, .int .u8 98, .string ⟨#[97, 110, 100, 32, 36, 53]⟩, .int .u8 97, .string ⟨#[120]⟩] 45)).alloc
    (.cells #[.string ⟨#[50, 52, 53]⟩, .string ⟨#[49, 48]⟩, .slice (some ⟨w.heap.size, 0, none⟩) 3 3, .int .i64 0] 24)) := by
  refine ⟨(Below.heap_alloc _ _ _ (by simp)).trans (heap_alloc_new w _), ?_⟩
  have := heap_alloc_new (w.alloc (.cells #[.int .u8 97, .string ⟨#[68, 111, 103, 115]⟩, .int .u8 98, .string ⟨#[97, 110, 100, 32, 36, 53]⟩, .int .u8 97, .string ⟨#[120]⟩] 45)) (.cells #[.string ⟨#[50, 52, 53]⟩, .string ⟨#[49, 48]⟩, .slice (some ⟨w.heap.size, 0, none⟩) 3 3, .int .i64 0] 24)
  simpa using this

theorem ex_le : ∀ i, i < exSubs.length → (exSubs.getD i sub0).2.length ≤ 1000 := by
  intro i hi
  match i, hi with
  | 0, _ => decide
  | 1, _ => decide
  | 2, _ => decide
  | (i + 3), hi => exact absurd hi (by simp [exSubs])
theorem ex_allz : ∀ i, ((allL exSubs [97, 98]).getD i []).length ≤ 1000 := by
  intro i
  match i with
  | 0 => decide
  | 1 => decide
  | 2 => decide
  | (i + 3) => exact Nat.zero_le _
theorem BL.two (w : World) (x y : List UInt8) : BL (.slice (some ⟨w.heap.size, 0, none⟩) 2 2) [x, y] (w.alloc (.cells #[strB x, strB y] 9)) := by
  refine ⟨_, 2, rfl, Nat.le_refl _, by decide, (fun h => by cases h), fun i hi => ⟨w.heap.size, 0, rfl, by simp, ?_⟩⟩
  match i, hi with
  | 0, _ => simp
  | 1, _ => simp
  | (i + 2), hi => exact absurd hi (by simp)

set_option maxHeartbeats 16000000 in
set_option maxRecDepth 100000 in
theorem alive_any (w : World) (hEnv : Env w) :
    Calls Tryd.prog 9 #[] w fun e w' => e = .returned (.bool true) ∧ Below w.heap.size w w' := by
  have hE := EX.first w
  have bA : Below w.heap.size w ((w.alloc (.cells #[.int .u8 97, .string ⟨#[68, 111, 103, 115]⟩, .int .u8 98, .string ⟨#[97, 110, 100, 32, 36, 53]⟩, .int .u8 97, .string ⟨#[120]⟩] 45)).alloc
    (.cells #[.string ⟨#[50, 52, 53]⟩, .string ⟨#[49, 48]⟩, .slice (some ⟨w.heap.size, 0, none⟩) 3 3, .int .i64 0] 24)) := ((Below.refl w.heap.size w).alloc (Nat.le_refl _) _).alloc (by simp) _
  obtain ⟨b, hb⟩ : ∃ b, w.heap.size = b := ⟨_, rfl⟩
  rw [hb] at hE bA
  have HEnv := Lib.hid (fun (W : World) (h : Below b w W) => hEnv.after (by rw [hb]; exact h))
  clear hEnv
  have CP : RowKit.Hid (∀ W, Below b w W → EX b ⟨#[50, 52, 53]⟩ W → Calls Tryd.prog 24 #[.agg #[.string ⟨#[50, 52, 53]⟩, .string ⟨#[49, 48]⟩, .slice (some ⟨b, 0, none⟩) 3 3, .int .i64 0]] W fun e w' => e = .returned (.tuple #[.string ⟨#[50, 52, 53, 32, 49, 48, 32, 36, 97, 68, 111, 103, 115, 36, 98, 97, 110, 100, 32, 36, 36, 53, 36, 97, 120]⟩, .int .i64 0]) ∧ Below W.heap.size W w') :=
    fun W hB h => pPrint exF _ W (HEnv.out W hB) h.ql ex_le _ _ ex_print
  have CG : RowKit.Hid (∀ W, EX b ⟨#[50, 52, 53]⟩ W → Calls Tryd.prog 15 #[.agg #[.string ⟨#[50, 52, 53]⟩, .string ⟨#[49, 48]⟩, .slice (some ⟨b, 0, none⟩) 3 3, .int .i64 0], .int .u8 97] W fun e w' => e = .returned (.tuple #[.string ⟨#[68, 111, 103, 115]⟩, .bool true]) ∧ Below W.heap.size W w') :=
    fun W h => pGet exF _ W h.ql 97 _ _ ex_get
  have CA : RowKit.Hid (∀ W, EX b ⟨#[50, 52, 53]⟩ W → Calls Tryd.prog 18 #[.agg #[.string ⟨#[50, 52, 53]⟩, .string ⟨#[49, 48]⟩, .slice (some ⟨b, 0, none⟩) 3 3, .int .i64 0], .string ⟨#[97]⟩] W fun e w' => ∃ v', e = .returned v' ∧ BL v' [[68, 111, 103, 115], [120]] w' ∧ Below W.heap.size W w') := by
    intro W h
    have := pAll exF _ W h.ql [97] (by decide)
    rw [show allL exF.subs [97] = [[68, 111, 103, 115], [120]] from ex_all] at this
    exact this
  have CL : RowKit.Hid (∀ W, EX b ⟨#[50, 52, 53]⟩ W → Calls Tryd.prog 20 #[.agg #[.string ⟨#[50, 52, 53]⟩, .string ⟨#[49, 48]⟩, .slice (some ⟨b, 0, none⟩) 3 3, .int .i64 0], .string ⟨#[97, 98]⟩] W fun e w' => e = .returned (.string ⟨#[68, 111, 103, 115, 32, 97, 110, 100, 32, 36, 53, 32, 120]⟩) ∧ Below W.heap.size W w') := by
    intro W h
    have := pPlain exF _ W h.ql [97, 98] (by decide) ex_allz
    rw [show plainL exF.subs [97, 98] = _ from ex_plain] at this
    exact this
  have CS : RowKit.Hid (∀ W, EX b ⟨#[50, 52, 53]⟩ W → Calls Tryd.prog 22 #[.agg #[.string ⟨#[50, 52, 53]⟩, .string ⟨#[49, 48]⟩, .slice (some ⟨b, 0, none⟩) 3 3, .int .i64 0], .int .u8 97, .string ⟨#[]⟩] W fun e w' => ∃ a cp, e = .returned (.agg #[.string ⟨#[50, 52, 53]⟩, .string ⟨#[49, 48]⟩, .slice a 1 cp, .int .i64 0]) ∧ Below W.heap.size W w') := by
    intro W h
    refine (pSet exF _ W h.ql 97 [] (by decide)).mono fun e w' hh => ?_
    obtain ⟨v', h1, h2, h3⟩ := hh
    rw [show setR exF.subs 97 [] = _ from ex_set] at h2
    obtain ⟨a, cp, rfl, _⟩ := h2.length
    exact ⟨a, cp, h1, h3⟩
  have CQ : RowKit.Hid (∀ W : World, Below b w W → Calls Tryd.prog 26 #[.string ⟨#[54, 53, 48, 64, 51, 32, 35, 48, 32, 36, 97, 68, 111, 103, 115]⟩] W fun e w' => ∃ a m cp, e = .returned (.tuple #[.agg #[.string ⟨#[54, 53, 48]⟩, .string ⟨#[32, 48]⟩, .slice a m cp, .int .i64 3], .int .i64 0]) ∧ Below W.heap.size W w') := by
    intro W hB
    refine (pParse _ (by decide) W (HEnv.out W hB) _ _ ex_parse).mono fun e w' hh => ?_
    obtain ⟨v', h1, h2, h3⟩ := hh
    obtain ⟨a, cp, rfl, _⟩ := h2.length
    exact ⟨a, _, cp, h1, h3⟩
  have CB : RowKit.Hid (∀ W : World, Below b w W → Calls Tryd.prog 26 #[.string ⟨#[50, 52, 53, 32, 49, 48, 32, 36, 97]⟩] W fun e w' => ∃ v, e = .returned (.tuple #[v, .int .i64 3]) ∧ Below W.heap.size W w') := by
    intro W hB
    refine (pParse _ (by decide) W (HEnv.out W hB) _ _ ex_bad).mono fun e w' hh => ?_
    obtain ⟨v', h1, h2, h3⟩ := hh
    exact ⟨_, h1, h3⟩
  have CR : RowKit.Hid (∀ W, Below b w W → EX b ⟨#[48, 48, 57]⟩ W → Calls Tryd.prog 11 #[.agg #[.string ⟨#[48, 48, 57]⟩, .string ⟨#[49, 48]⟩, .slice (some ⟨b, 0, none⟩) 3 3, .int .i64 0]] W fun e w' => e = .returned (.int .i64 6) ∧ Below W.heap.size W w') :=
    fun W hB h => pRight exG _ W (HEnv.out W hB) h.ql ex_le _ ex_rightG
  have CT : RowKit.Hid (∀ va W, BL va [[68, 111, 103, 115], [120]] W → Calls Tryd.prog 17 #[va, .slice (some ⟨W.heap.size, 0, none⟩) 2 2] (W.alloc (.cells #[.string ⟨#[68, 111, 103, 115]⟩, .string ⟨#[120]⟩] 9)) fun e w' => e = .returned (.bool true) ∧ Below W.heap.size W w') := by
    intro va W h
    have ca := (Below.refl W.heap.size W).alloc (Nat.le_refl _) (.cells #[.string ⟨#[68, 111, 103, 115]⟩, .string ⟨#[120]⟩] 9)
    refine (refTexts_any _ _ va _ _ (h.after ca) (BL.two W [68, 111, 103, 115] [120]) true (decide_eq_true rfl)).mono fun e w' hh => ?_
    exact ⟨hh.1, ca.trans (hh.2.mono ca.size)⟩
  have HB := Lib.hid hb
  have hfd : ∀ (W : World) (s0 s1 : ByteArray) (a : Option Addr) (m cp : Nat) (z : Int), (Instr.field 24 (.agg #[.string s0, .string s1, .slice a m cp, .int .i64 z]) 2).run Tryd.prog W = .ok (.slice a m cp) W := fun _ _ _ _ _ _ _ => by kernel_rfl
  go_enter Tryd.func9, Tryd.ntmps9
  go_wp2_with fail
  clear hb
  refine (CP.out _ bA hE).mono ?_
  rintro e w1 ⟨rfl, c⟩
  have hE1 := hE.after c
  have b1 := bA.trans (c.mono (by have := hE.lt; omega))
  clear c hE bA
  obtain ⟨⟨k0, k1, k2, k3⟩, _⟩ := field_cells hE1.f
  go_wp2_with fail
  refine (CG.out _ hE1).mono ?_
  rintro e w2 ⟨rfl, c⟩
  have hE2 := hE1.after c
  have b2 := b1.trans (c.mono (by have := hE1.lt; omega))
  clear c hE1 b1 k0 k1 k2 k3
  obtain ⟨⟨k0, k1, k2, k3⟩, _⟩ := field_cells hE2.f
  go_wp2_with fail
  refine (CA.out _ hE2).mono ?_
  rintro e w3 ⟨v3, rfl, hV, c⟩
  have hE3 := hE2.after c
  have b3 := b2.trans (c.mono (by have := hE2.lt; omega))
  clear c hE2 b2 k0 k1 k2 k3
  go_wp2_with fail
  refine (CT.out _ _ hV).mono ?_
  rintro e w4 ⟨rfl, c⟩
  have hE4 := hE3.after c
  have b4 := b3.trans (c.mono (by have := hE3.lt; omega))
  clear c hE3 b3 hV
  obtain ⟨⟨k0, k1, k2, k3⟩, _⟩ := field_cells hE4.f
  go_wp2_with fail
  refine (CL.out _ hE4).mono ?_
  rintro e w5 ⟨rfl, c⟩
  have hE5 := hE4.after c
  have b5 := b4.trans (c.mono (by have := hE4.lt; omega))
  clear c hE4 b4 k0 k1 k2 k3
  obtain ⟨⟨k0, k1, k2, k3⟩, _⟩ := field_cells hE5.f
  go_wp2_with fail
  refine (CS.out _ hE5).mono ?_
  rintro e w6 ⟨a6, c6, rfl, c⟩
  have hE6 := hE5.after c
  have b6 := b5.trans (c.mono (by have := hE5.lt; omega))
  clear c hE5 b5 k0 k1 k2 k3
  go_wp2_with fail
  refine (CQ.out _ b6).mono ?_
  rintro e w7 ⟨a7, m7, c7, rfl, c⟩
  have hE7 := hE6.after c
  have b7 := b6.trans (c.mono (by have := hE6.lt; omega))
  clear c hE6 b6
  have cG := (Below.refl w7.heap.size w7).alloc (Nat.le_refl _) (.cells #[.string ⟨#[54, 53, 48]⟩, .string ⟨#[32, 48]⟩, .slice a7 m7 c7, .int .i64 3] 24)
  have hG := heap_alloc_new w7 (.cells #[.string ⟨#[54, 53, 48]⟩, .string ⟨#[32, 48]⟩, .slice a7 m7 c7, .int .i64 3] 24)
  obtain ⟨w8, hw8⟩ : ∃ w8, w7.alloc (.cells #[.string ⟨#[54, 53, 48]⟩, .string ⟨#[32, 48]⟩, .slice a7 m7 c7, .int .i64 3] 24) = w8 := ⟨_, rfl⟩
  rw [hw8] at cG hG
  have HW8 := Lib.hid hw8
  have hE8 := hE7.after cG
  have b8 := b7.trans (cG.mono (by have := hE7.lt; omega))
  clear hE7 b7 cG hw8
  go_upto_if 66 with fail
  rw [HW8.out]
  obtain ⟨⟨k0, k1, k2, k3⟩, f0, f1, f2, f3⟩ := field_cells hE8.f
  have hE9 := hE8.set ⟨#[48, 48, 57]⟩
  have b9 := b8.setCell (p := ⟨b + 1, 0, none⟩) (Nat.le_succ b) (.string ⟨#[48, 48, 57]⟩)
  clear hE8 b8
  go_wp2_with fail
  refine (CB.out _ b9).mono ?_
  rintro e w10 ⟨v10, rfl, c⟩
  have hE10 := hE9.after c
  have b10 := b9.trans (c.mono (by have := hE9.lt; omega))
  clear c hE9 b9 k0 k1 k2 k3 f0 f1 f2 f3
  obtain ⟨⟨k0, k1, k2, k3⟩, _⟩ := field_cells hE10.f
  go_wp2_with fail
  refine (CR.out _ b10 hE10).mono ?_
  rintro e w11 ⟨rfl, c⟩
  have b11 := b10.trans (c.mono (by have := hE10.lt; omega))
  clear c hE10 b10 k0 k1 k2 k3
  go_wp2
  go_ret
  exact ⟨rfl, by rw [HB.out]; exact b11⟩
end

section
open Go.RowKit Go.PlainAid
/-- A field in its box. -/
structure FB (b : Nat) (f : Fld) (u : Value) (W : World) : Prop where
  bx : W.heap[b]? = some (.cells #[.string (S f.tag), .string (S f.ind), u, .int .i64 f.auth] 24 (0, 0))
  q : QL u f.subs W
  e : Env W
theorem FB.lt {b : Nat} {f : Fld} {u : Value} {W : World} (h : FB b f u W) : b < W.heap.size := (Array.getElem?_eq_some_iff.1 h.bx).1
theorem FB.after {b : Nat} {f : Fld} {u : Value} {W W' : World} (h : FB b f u W) (hb : Below W.heap.size W W') : FB b f u W' := ⟨(hb.block _ h.lt).trans h.bx, h.q.after hb, h.e.after hb⟩
theorem FB.new {f : Fld} {u : Value} {w : World} (hE : Env w) (h : QL u f.subs w) : FB w.heap.size f u (w.alloc (.cells #[.string (S f.tag), .string (S f.ind), u, .int .i64 f.auth] 24)) :=
  ⟨heap_alloc_new w _, h.after ((Below.refl w.heap.size w).alloc (Nat.le_refl _) _), hE.after ((Below.refl w.heap.size w).alloc (Nat.le_refl _) _)⟩
theorem FB.cells {b : Nat} {f : Fld} {u : Value} {W : World} (h : FB b f u W) : W.cell? ⟨b, 0, none⟩ = some (.string (S f.tag)) ∧ W.cell? ⟨b, 1, none⟩ = some (.string (S f.ind)) ∧ W.cell? ⟨b, 2, none⟩ = some u ∧ W.cell? ⟨b, 3, none⟩ = some (.int .i64 f.auth) := (field_cells h.bx).1
theorem small_le (f : Fld) (h : smallB f = true) : ∀ i, i < f.subs.length → (f.subs.getD i sub0).2.length ≤ 1000 := fun i hi => by
  have := (small_of f h).2.2.2 i hi
  omega

set_option maxHeartbeats 16000000 in
set_option maxRecDepth 100000 in
theorem lawPrints_any (f : Fld) (u : Value) (w : World) (hE : Env w) (hu : QL u f.subs w) :
    Calls Tryd.prog 6 #[FV f u] w fun e w' => e = .returned (.bool true) ∧ Below w.heap.size w w' := by
  have c0 := Lib.hid (fun W hE => alive_any W hE)
  have hB0 := FB.new hE hu
  have b0 : Below w.heap.size w (w.alloc (.cells #[.string (S f.tag), .string (S f.ind), u, .int .i64 f.auth] 24)) := (Below.refl w.heap.size w).alloc (Nat.le_refl _) _
  obtain ⟨a, cap, rfl, _, _⟩ := hu.length
  unfold FV
  generalize f.subs.length = n at *
  clear hu hE
  cases hs : smallB f
  · have c1 := Lib.hid (fun W (h : FB w.heap.size f (.slice a n cap) W) => small_any f _ W h.q false hs)
    unfold FV at c1
    go_enter Tryd.func6, Tryd.ntmps6
    go_wp2_with fail
    refine (c0.out _ hB0.e).mono ?_
    rintro e w1 ⟨rfl, c⟩
    have b1 := b0.trans (c.mono b0.size)
    have hB1 := hB0.after c
    clear c b0 hB0
    obtain ⟨k0, k1, k2, k3⟩ := hB1.cells
    go_wp2_with fail
    refine (c1.out _ hB1).mono ?_
    rintro e w2 ⟨rfl, c⟩
    have b2 := b1.trans (c.mono b1.size)
    clear c b1 k0 k1 k2 k3
    go_wp2
    go_ret
    exact ⟨rfl, b2⟩
  · have c1 := Lib.hid (fun W (h : FB w.heap.size f (.slice a n cap) W) => small_any f _ W h.q true hs)
    obtain ⟨⟨r, er⟩, hpr⟩ : ∃ p, printR f = p := ⟨_, rfl⟩
    have hle := small_le f hs
    have c2 := Lib.hid (fun W (h : FB w.heap.size f (.slice a n cap) W) => pPrint f _ W h.e h.q hle r er hpr)
    have c3 := Lib.hid (fun W (h : FB w.heap.size f (.slice a n cap) W) => refPrint_any f _ W h.q (fun i hi => by have := hle i hi; omega) r er hpr)
    unfold FV at c1 c2 c3
    clear hle hs hpr
    generalize S r = sr at *
    go_enter Tryd.func6, Tryd.ntmps6
    go_wp2_with fail
    refine (c0.out _ hB0.e).mono ?_
    rintro e w1 ⟨rfl, c⟩
    have b1 := b0.trans (c.mono b0.size)
    have hB1 := hB0.after c
    clear c b0 hB0
    obtain ⟨k0, k1, k2, k3⟩ := hB1.cells
    go_wp2_with fail
    refine (c1.out _ hB1).mono ?_
    rintro e w2 ⟨rfl, c⟩
    have b2 := b1.trans (c.mono b1.size)
    have hB2 := hB1.after c
    clear c b1 k0 k1 k2 k3 hB1
    obtain ⟨k0, k1, k2, k3⟩ := hB2.cells
    go_wp2_with fail
    refine (c2.out _ hB2).mono ?_
    rintro e w3 ⟨rfl, c⟩
    have b3 := b2.trans (c.mono b2.size)
    have hB3 := hB2.after c
    clear c b2 k0 k1 k2 k3 hB2
    obtain ⟨k0, k1, k2, k3⟩ := hB3.cells
    go_wp2_with fail
    refine (c3.out _ hB3).mono ?_
    rintro e w4 ⟨rfl, c⟩
    have b4 := b3.trans (c.mono b3.size)
    clear c b3 k0 k1 k2 k3 hB3
    go_wp2
    go_ret
    exact ⟨rfl, b4⟩
end

section
open Go.RowKit Go.PlainAid
theorem line_le (f : Fld) (h : rightI f = 0) : (lineL f).length ≤ 20000 := by
  obtain ⟨htag, _, _, hn16, hsub, ha0, ha1⟩ := right_facts f h
  have h3 := tagB_len _ htag
  have hb := bodyL_le f.subs (fun i hi => (subE_zero _ (hsub i hi)).2.2.2)
  have hd := dec_bound f.auth.toNat
  have ha : (authP f.auth).length ≤ 10003 := by
    unfold authP
    split
    · simp
    · simp [padL]
      omega
  have hm : ∀ c, (markB c).length = 1 := fun c => by unfold markB; split <;> rfl
  unfold lineL headL
  simp only [List.length_append, List.length_cons, List.length_nil, hm]
  omega
theorem same_self (f : Fld) : sameB f f = true := by simp [sameB]
theorem same_iff (f g : Fld) : sameB f g = true ↔ f = g := by
  constructor
  · intro hs
    obtain ⟨a, b, c, d⟩ := f
    obtain ⟨a', b', c', d'⟩ := g
    unfold sameB at hs
    simp only [Bool.and_eq_true, decide_eq_true_eq] at hs
    obtain ⟨⟨⟨h1, h2⟩, h3⟩, h4⟩ := hs
    rw [h1, h2, h3, h4]
  · rintro rfl
    exact same_self f
theorem same_line (f g : Fld) (hf : rightI f = 0) (hg : rightI g = 0) : sameB f g = decide (lineL f = lineL g) := by
  by_cases h : lineL f = lineL g
  · rw [decide_eq_true h]
    exact (same_iff f g).2 (line_inj f g hf hg h)
  · rw [decide_eq_false h]
    cases hs : sameB f g
    · rfl
    · exact absurd (by rw [(same_iff f g).1 hs]) h

set_option maxHeartbeats 16000000 in
set_option maxRecDepth 100000 in
theorem lawBack_any (f g : Fld) (u v : Value) (w : World) (hE : Env w) (hu : QL u f.subs w) (hv : QL v g.subs w) :
    Calls Tryd.prog 7 #[FV f u, FV g v] w fun e w' => e = .returned (.bool true) ∧ Below w.heap.size w w' := by
  have c0 := Lib.hid (fun W hE => alive_any W hE)
  have bf : Below w.heap.size w (w.alloc (.cells #[.string (S f.tag), .string (S f.ind), u, .int .i64 f.auth] 24)) := (Below.refl w.heap.size w).alloc (Nat.le_refl _) _
  have hF0 := FB.new hE hu
  have hG0 := FB.new (hE.after bf) (hv.after bf)
  have bg := (Below.refl (w.alloc (.cells #[.string (S f.tag), .string (S f.ind), u, .int .i64 f.auth] 24)).heap.size (w.alloc (.cells #[.string (S f.tag), .string (S f.ind), u, .int .i64 f.auth] 24))).alloc (Nat.le_refl _) (.cells #[.string (S g.tag), .string (S g.ind), v, .int .i64 g.auth] 24)
  replace hF0 := hF0.after bg
  have b0 := bf.trans (bg.mono bf.size)
  rw [show (w.alloc (.cells #[.string (S f.tag), .string (S f.ind), u, .int .i64 f.auth] 24)).heap.size = w.heap.size + 1 by simp] at hG0
  clear bf bg hE
  obtain ⟨a, cap, rfl, _, _⟩ := hu.length
  obtain ⟨a', cap', rfl, _, _⟩ := hv.length
  unfold FV
  clear hu hv
  generalize hun : (Value.slice a f.subs.length cap) = u at *
  generalize hvn : (Value.slice a' g.subs.length cap') = v at *
  cases hsf : smallB f
  · have c1 := Lib.hid (fun W (h : FB w.heap.size f u W) => small_any f _ W h.q false hsf)
    unfold FV at c1
    go_enter Tryd.func7, Tryd.ntmps7
    skip
    go_wp2_with fail
    refine (c0.out _ hF0.e).mono ?_
    rintro e w1 ⟨rfl, c⟩
    have b1 := b0.trans (c.mono b0.size)
    have hF1 := hF0.after c
    have hG1 := hG0.after c
    clear c b0 hF0 hG0
    obtain ⟨k0, k1, k2, k3⟩ := hF1.cells
    obtain ⟨m0, m1, m2, m3⟩ := hG1.cells
    go_wp2_with fail
    refine (c1.out _ hF1).mono ?_
    rintro e w2 ⟨rfl, c⟩
    have b2 := b1.trans (c.mono b1.size)
    have hF2 := hF1.after c
    have hG2 := hG1.after c
    clear c b1 hF1 hG1 k0 k1 k2 k3 m0 m1 m2 m3
    clear hF2 hG2
    go_wp2
    go_ret
    exact ⟨rfl, b2⟩
  have c1 := Lib.hid (fun W (h : FB w.heap.size f u W) => small_any f _ W h.q true hsf)
  cases hsg : smallB g
  · have c2 := Lib.hid (fun W (h : FB (w.heap.size + 1) g v W) => small_any g _ W h.q false hsg)
    unfold FV at c1 c2
    go_enter Tryd.func7, Tryd.ntmps7
    skip
    go_wp2_with fail
    refine (c0.out _ hF0.e).mono ?_
    rintro e w1 ⟨rfl, c⟩
    have b1 := b0.trans (c.mono b0.size)
    have hF1 := hF0.after c
    have hG1 := hG0.after c
    clear c b0 hF0 hG0
    obtain ⟨k0, k1, k2, k3⟩ := hF1.cells
    obtain ⟨m0, m1, m2, m3⟩ := hG1.cells
    go_wp2_with fail
    refine (c1.out _ hF1).mono ?_
    rintro e w2 ⟨rfl, c⟩
    have b2 := b1.trans (c.mono b1.size)
    have hF2 := hF1.after c
    have hG2 := hG1.after c
    clear c b1 hF1 hG1 k0 k1 k2 k3 m0 m1 m2 m3
    obtain ⟨k0, k1, k2, k3⟩ := hF2.cells
    obtain ⟨m0, m1, m2, m3⟩ := hG2.cells
    go_wp2_with fail
    refine (c2.out _ hG2).mono ?_
    rintro e w3 ⟨rfl, c⟩
    have b3 := b2.trans (c.mono b2.size)
    have hF3 := hF2.after c
    have hG3 := hG2.after c
    clear c b2 hF2 hG2 k0 k1 k2 k3 m0 m1 m2 m3
    clear hF3 hG3
    go_wp2
    go_ret
    exact ⟨rfl, b3⟩
  have c2 := Lib.hid (fun W (h : FB (w.heap.size + 1) g v W) => small_any g _ W h.q true hsg)
  have c3 := Lib.hid (fun W (h : FB w.heap.size f u W) => pRight f _ W h.e h.q (small_le f hsf) _ rfl)
  by_cases hrf : rightI f = 0
  case neg =>
    have t : (rightI f != 0) = true := by simpa using hrf
    generalize rightI f = er at *
    unfold FV at c1 c2 c3
    clear hrf
    go_enter Tryd.func7, Tryd.ntmps7
    skip
    go_wp2_with fail
    refine (c0.out _ hF0.e).mono ?_
    rintro e w1 ⟨rfl, c⟩
    have b1 := b0.trans (c.mono b0.size)
    have hF1 := hF0.after c
    have hG1 := hG0.after c
    clear c b0 hF0 hG0
    obtain ⟨k0, k1, k2, k3⟩ := hF1.cells
    obtain ⟨m0, m1, m2, m3⟩ := hG1.cells
    go_wp2_with fail
    refine (c1.out _ hF1).mono ?_
    rintro e w2 ⟨rfl, c⟩
    have b2 := b1.trans (c.mono b1.size)
    have hF2 := hF1.after c
    have hG2 := hG1.after c
    clear c b1 hF1 hG1 k0 k1 k2 k3 m0 m1 m2 m3
    obtain ⟨k0, k1, k2, k3⟩ := hF2.cells
    obtain ⟨m0, m1, m2, m3⟩ := hG2.cells
    go_wp2_with fail
    refine (c2.out _ hG2).mono ?_
    rintro e w3 ⟨rfl, c⟩
    have b3 := b2.trans (c.mono b2.size)
    have hF3 := hF2.after c
    have hG3 := hG2.after c
    clear c b2 hF2 hG2 k0 k1 k2 k3 m0 m1 m2 m3
    obtain ⟨k0, k1, k2, k3⟩ := hF3.cells
    obtain ⟨m0, m1, m2, m3⟩ := hG3.cells
    go_wp2_with fail
    refine (c3.out _ hF3).mono ?_
    rintro e w4 ⟨rfl, c⟩
    have b4 := b3.trans (c.mono b3.size)
    have hF4 := hF3.after c
    have hG4 := hG3.after c
    clear c b3 hF3 hG3 k0 k1 k2 k3 m0 m1 m2 m3
    clear hF4 hG4
    go_wp2
    go_ret
    exact ⟨rfl, b4⟩
  rw [hrf] at c3
  have c4 := Lib.hid (fun W (h : FB (w.heap.size + 1) g v W) => pRight g _ W h.e h.q (small_le g hsg) _ rfl)
  by_cases hrg : rightI g = 0
  case neg =>
    have t : (rightI g != 0) = true := by simpa using hrg
    generalize rightI g = er at *
    unfold FV at c1 c2 c3 c4
    clear hrg hrf
    go_enter Tryd.func7, Tryd.ntmps7
    skip
    go_wp2_with fail
    refine (c0.out _ hF0.e).mono ?_
    rintro e w1 ⟨rfl, c⟩
    have b1 := b0.trans (c.mono b0.size)
    have hF1 := hF0.after c
    have hG1 := hG0.after c
    clear c b0 hF0 hG0
    obtain ⟨k0, k1, k2, k3⟩ := hF1.cells
    obtain ⟨m0, m1, m2, m3⟩ := hG1.cells
    go_wp2_with fail
    refine (c1.out _ hF1).mono ?_
    rintro e w2 ⟨rfl, c⟩
    have b2 := b1.trans (c.mono b1.size)
    have hF2 := hF1.after c
    have hG2 := hG1.after c
    clear c b1 hF1 hG1 k0 k1 k2 k3 m0 m1 m2 m3
    obtain ⟨k0, k1, k2, k3⟩ := hF2.cells
    obtain ⟨m0, m1, m2, m3⟩ := hG2.cells
    go_wp2_with fail
    refine (c2.out _ hG2).mono ?_
    rintro e w3 ⟨rfl, c⟩
    have b3 := b2.trans (c.mono b2.size)
    have hF3 := hF2.after c
    have hG3 := hG2.after c
    clear c b2 hF2 hG2 k0 k1 k2 k3 m0 m1 m2 m3
    obtain ⟨k0, k1, k2, k3⟩ := hF3.cells
    obtain ⟨m0, m1, m2, m3⟩ := hG3.cells
    go_wp2_with fail
    refine (c3.out _ hF3).mono ?_
    rintro e w4 ⟨rfl, c⟩
    have b4 := b3.trans (c.mono b3.size)
    have hF4 := hF3.after c
    have hG4 := hG3.after c
    clear c b3 hF3 hG3 k0 k1 k2 k3 m0 m1 m2 m3
    obtain ⟨k0, k1, k2, k3⟩ := hF4.cells
    obtain ⟨m0, m1, m2, m3⟩ := hG4.cells
    go_wp2_with fail
    refine (c4.out _ hG4).mono ?_
    rintro e w5 ⟨rfl, c⟩
    have b5 := b4.trans (c.mono b4.size)
    have hF5 := hF4.after c
    have hG5 := hG4.after c
    clear c b4 hF4 hG4 k0 k1 k2 k3 m0 m1 m2 m3
    clear hF5 hG5
    go_wp2
    go_ret
    exact ⟨rfl, b5⟩
  rw [hrg] at c4
  have c5 := Lib.hid (fun W (h : FB w.heap.size f u W) => pPrint f _ W h.e h.q (small_le f hsf) (lineL f) 0 (by unfold printR; rw [if_pos hrf]))
  have c6 := Lib.hid (fun W (h : FB (w.heap.size + 1) g v W) => pPrint g _ W h.e h.q (small_le g hsg) (lineL g) 0 (by unfold printR; rw [if_pos hrg]))
  have c7 := Lib.hid (fun W hE => pParse (lineL f) (line_le f hrf) W hE f 0 (by unfold parseR; rw [parse_back f hrf]))
  have c8 := Lib.hid (fun u' W (h' : QL u' f.subs W) (h : FB w.heap.size f u W) => pSame f f u' u W h' h.q true (same_self f))
  obtain ⟨sb, hsb⟩ : ∃ sb, decide (lineL f = lineL g) = sb := ⟨_, rfl⟩
  have hsm : sameB f g = sb := (same_line f g hrf hrg).trans hsb
  have c9 := Lib.hid (fun W (h : FB w.heap.size f u W) (h' : FB (w.heap.size + 1) g v W) => pSame f g u v W h.q h'.q sb hsm)
  have hq := S_eq (lineL f) (lineL g)
  rw [hsb] at hq
  unfold FV at c1 c2 c3 c4 c5 c6 c7 c8 c9
  clear hsm hsb hrf hrg hsf hsg
  generalize S (lineL f) = sf at *
  generalize S (lineL g) = sg at *
  go_enter Tryd.func7, Tryd.ntmps7
  skip
  go_wp2_with fail
  refine (c0.out _ hF0.e).mono ?_
  rintro e w1 ⟨rfl, c⟩
  have b1 := b0.trans (c.mono b0.size)
  have hF1 := hF0.after c
  have hG1 := hG0.after c
  clear c b0 hF0 hG0
  obtain ⟨k0, k1, k2, k3⟩ := hF1.cells
  obtain ⟨m0, m1, m2, m3⟩ := hG1.cells
  go_wp2_with fail
  refine (c1.out _ hF1).mono ?_
  rintro e w2 ⟨rfl, c⟩
  have b2 := b1.trans (c.mono b1.size)
  have hF2 := hF1.after c
  have hG2 := hG1.after c
  clear c b1 hF1 hG1 k0 k1 k2 k3 m0 m1 m2 m3
  obtain ⟨k0, k1, k2, k3⟩ := hF2.cells
  obtain ⟨m0, m1, m2, m3⟩ := hG2.cells
  go_wp2_with fail
  refine (c2.out _ hG2).mono ?_
  rintro e w3 ⟨rfl, c⟩
  have b3 := b2.trans (c.mono b2.size)
  have hF3 := hF2.after c
  have hG3 := hG2.after c
  clear c b2 hF2 hG2 k0 k1 k2 k3 m0 m1 m2 m3
  obtain ⟨k0, k1, k2, k3⟩ := hF3.cells
  obtain ⟨m0, m1, m2, m3⟩ := hG3.cells
  go_wp2_with fail
  refine (c3.out _ hF3).mono ?_
  rintro e w4 ⟨rfl, c⟩
  have b4 := b3.trans (c.mono b3.size)
  have hF4 := hF3.after c
  have hG4 := hG3.after c
  clear c b3 hF3 hG3 k0 k1 k2 k3 m0 m1 m2 m3
  obtain ⟨k0, k1, k2, k3⟩ := hF4.cells
  obtain ⟨m0, m1, m2, m3⟩ := hG4.cells
  go_wp2_with fail
  refine (c4.out _ hG4).mono ?_
  rintro e w5 ⟨rfl, c⟩
  have b5 := b4.trans (c.mono b4.size)
  have hF5 := hF4.after c
  have hG5 := hG4.after c
  clear c b4 hF4 hG4 k0 k1 k2 k3 m0 m1 m2 m3
  obtain ⟨k0, k1, k2, k3⟩ := hF5.cells
  obtain ⟨m0, m1, m2, m3⟩ := hG5.cells
  go_wp2_with fail
  refine (c5.out _ hF5).mono ?_
  rintro e w6 ⟨rfl, c⟩
  have b6 := b5.trans (c.mono b5.size)
  have hF6 := hF5.after c
  have hG6 := hG5.after c
  clear c b5 hF5 hG5 k0 k1 k2 k3 m0 m1 m2 m3
  obtain ⟨k0, k1, k2, k3⟩ := hF6.cells
  obtain ⟨m0, m1, m2, m3⟩ := hG6.cells
  go_wp2_with fail
  refine (c6.out _ hG6).mono ?_
  rintro e w7 ⟨rfl, c⟩
  have b7 := b6.trans (c.mono b6.size)
  have hF7 := hF6.after c
  have hG7 := hG6.after c
  clear c b6 hF6 hG6 k0 k1 k2 k3 m0 m1 m2 m3
  skip
  go_wp2_with fail
  refine (c7.out _ hF7.e).mono ?_
  rintro e w8 ⟨u', rfl, hu', c⟩
  have b8 := b7.trans (c.mono b7.size)
  have hF8 := hF7.after c
  have hG8 := hG7.after c
  clear c b7 hF7 hG7
  obtain ⟨a2, cap2, rfl, _, _⟩ := hu'.length
  have ca := (Below.refl w8.heap.size w8).alloc (Nat.le_refl _) (.cells #[.string (S f.tag), .string (S f.ind), .slice a2 f.subs.length cap2, .int .i64 f.auth] 24)
  replace hu' := hu'.after ca
  have hF9 := hF8.after ca
  have hG9 := hG8.after ca
  have b9 := b8.trans (ca.mono b8.size)
  clear hF8 hG8 b8 ca
  obtain ⟨k0, k1, k2, k3⟩ := hF9.cells
  obtain ⟨m0, m1, m2, m3⟩ := hG9.cells
  go_wp2_with fail
  refine (c8.out _ _ hu' hF9).mono ?_
  rintro e w10 ⟨rfl, c⟩
  have b10 := b9.trans (c.mono b9.size)
  have hF10 := hF9.after c
  have hG10 := hG9.after c
  clear c b9 hF9 hG9 k0 k1 k2 k3 m0 m1 m2 m3
  obtain ⟨k0, k1, k2, k3⟩ := hF10.cells
  obtain ⟨m0, m1, m2, m3⟩ := hG10.cells
  go_wp2_with fail
  refine (c9.out _ hF10 hG10).mono ?_
  rintro e w11 ⟨rfl, c⟩
  have b11 := b10.trans (c.mono b10.size)
  have hF11 := hF10.after c
  have hG11 := hG10.after c
  clear c b10 hF10 hG10 k0 k1 k2 k3 m0 m1 m2 m3
  cases sb
  · clear hF11 hG11 hu'
    go_wp2
    go_ret
    exact ⟨rfl, b11⟩
  · clear hF11 hG11 hu'
    go_wp2
    go_ret
    exact ⟨rfl, b11⟩
end

section
open Go.RowKit Go.PlainAid
theorem QL.seen {v : Value} {L : List Sub} {w w' : World} (h : QL v L w) (hb : Sees w w') : QL v L w' := h.after hb
theorem FB.seen {b : Nat} {f : Fld} {u : Value} {w w' : World} (h : FB b f u w) (hb : Sees w w') : FB b f u w' := h.after hb

set_option maxHeartbeats 16000000 in
set_option maxRecDepth 100000 in
theorem lawSets_any (f : Fld) (u : Value) (code : UInt8) (val : ByteArray) (w : World) (hE : Env w) (hu : QL u f.subs w) :
    Calls Tryd.prog 5 #[FV f u, .int .u8 (code.toNat : Int), .string val] w fun e w' => e = .returned (.bool true) ∧ Below w.heap.size w w' := by
  have c0 := Lib.hid (fun W hE => alive_any W hE)
  have hB0 := FB.new hE hu
  have b0 : Below w.heap.size w (w.alloc (.cells #[.string (S f.tag), .string (S f.ind), u, .int .i64 f.auth] 24)) := (Below.refl w.heap.size w).alloc (Nat.le_refl _) _
  obtain ⟨a, cap, rfl, _, _⟩ := hu.length
  obtain ⟨l, rfl⟩ : ∃ l, S l = val := ⟨val.data.toList, rfl⟩
  have hvz := S_size l
  unfold FV
  generalize f.subs.length = n at *
  clear hu hE
  cases hs : smallB f
  · have c1 := Lib.hid (fun W (h : FB w.heap.size f (.slice a n cap) W) => small_any f _ W h.q false hs)
    unfold FV at c1
    generalize S l = val at *
    generalize l.length = m at *
    go_enter Tryd.func5, Tryd.ntmps5
    go_wp2_with fail
    refine (c0.out _ hB0.e).mono ?_
    rintro e w1 ⟨rfl, c⟩
    have b1 := b0.trans (c.mono b0.size)
    have hB1 := hB0.after c
    clear c b0 hB0
    obtain ⟨k0, k1, k2, k3⟩ := hB1.cells
    go_wp2_with fail
    refine (c1.out _ hB1).mono ?_
    rintro e w2 ⟨rfl, c⟩
    have b2 := b1.trans (c.mono b1.size)
    clear c b1 k0 k1 k2 k3
    go_wp2
    go_ret
    exact ⟨rfl, b2⟩
  have c1 := Lib.hid (fun W (h : FB w.heap.size f (.slice a n cap) W) => small_any f _ W h.q true hs)
  by_cases hl : 300 < l.length
  · have d1 : decide ((300 : Int) < (l.length : Int)) = true := decide_eq_true (by omega)
    unfold FV at c1
    clear hl
    generalize S l = val at *
    generalize l.length = m at *
    go_enter Tryd.func5, Tryd.ntmps5
    go_wp2_with fail
    refine (c0.out _ hB0.e).mono ?_
    rintro e w1 ⟨rfl, c⟩
    have b1 := b0.trans (c.mono b0.size)
    have hB1 := hB0.after c
    clear c b0 hB0
    obtain ⟨k0, k1, k2, k3⟩ := hB1.cells
    go_wp2_with fail
    refine (c1.out _ hB1).mono ?_
    rintro e w2 ⟨rfl, c⟩
    have b2 := b1.trans (c.mono b1.size)
    clear c b1 k0 k1 k2 k3
    go_wp2
    go_ret
    exact ⟨rfl, b2⟩
  have d1 : decide ((300 : Int) < (l.length : Int)) = false := decide_eq_false (by omega)
  have h30 := (small_of f hs).1
  have c2 := Lib.hid (fun W (h : FB w.heap.size f (.slice a n cap) W) => pSet f _ W h.q code l (by omega))
  have c3 := Lib.hid (fun W (h : FB w.heap.size f (.slice a n cap) W) => refSet_any f _ W h.q code l (by omega))
  obtain ⟨R, hR⟩ : ∃ R, setR f.subs code l = R := ⟨_, rfl⟩
  rw [hR] at c2 c3
  have c4 := Lib.hid (fun u v W (h : QL u R W) (h' : QL v R W) => refSame_any { f with subs := R } { f with subs := R } u v W h h' true (same_self _))
  unfold FV at c1 c2 c3 c4
  unfold u8V at c3
  clear hl hs hR h30
  generalize S l = val at *
  generalize l.length = m at *
  go_enter Tryd.func5, Tryd.ntmps5
  go_wp2_with fail
  refine (c0.out _ hB0.e).mono ?_
  rintro e w1 ⟨rfl, c⟩
  have b1 := b0.trans (c.mono b0.size)
  have hB1 := hB0.after c
  clear c b0 hB0
  obtain ⟨k0, k1, k2, k3⟩ := hB1.cells
  go_wp2_with fail
  refine (c1.out _ hB1).mono ?_
  rintro e w2 ⟨rfl, c⟩
  have b2 := b1.trans (c.mono b1.size)
  have hB2 := hB1.after c
  clear c b1 k0 k1 k2 k3 hB1
  have HB2 := Lib.hid hB2
  have C2 := Lib.hid (fun W (h : Sees w2 W) => (c2.out W (hB2.seen h)).mono fun e w' hh => show ∃ v', e = .returned _ ∧ QL v' R w' ∧ Sees W w' ∧ Sees w2 w' ∧ w'.cell? ⟨w.heap.size, 0, none⟩ = some (.string (S f.tag)) ∧ w'.cell? ⟨w.heap.size, 1, none⟩ = some (.string (S f.ind)) ∧ w'.cell? ⟨w.heap.size, 2, none⟩ = some (.slice a n cap) ∧ w'.cell? ⟨w.heap.size, 3, none⟩ = some (.int .i64 f.auth) from by
    obtain ⟨v', h1, h2, h3⟩ := hh
    exact ⟨v', h1, h2, h3, h.after h3, (hB2.seen (h.after h3)).cells⟩)
  have C3 := Lib.hid (fun W (h : Sees w2 W) => (c3.out W (hB2.seen h)).mono fun e w' hh => show ∃ v', e = .returned _ ∧ QL v' R w' ∧ Sees W w' ∧ Sees w2 w' ∧ w'.cell? ⟨w.heap.size, 0, none⟩ = some (.string (S f.tag)) ∧ w'.cell? ⟨w.heap.size, 1, none⟩ = some (.string (S f.ind)) ∧ w'.cell? ⟨w.heap.size, 2, none⟩ = some (.slice a n cap) ∧ w'.cell? ⟨w.heap.size, 3, none⟩ = some (.int .i64 f.auth) from by
    obtain ⟨v', h1, h2, h3⟩ := hh
    exact ⟨v', h1, h2, h3, h.after h3, (hB2.seen (h.after h3)).cells⟩)
  have hse := Sees.self w2
  have Fin := Lib.hid (fun W (h : Sees w2 W) => b2.trans (Below.mono h b2.size))
  obtain ⟨k0, k1, k2, k3⟩ := hB2.cells
  clear b2 hB2 c2 c3
  go_wp2
  generalize hbe : w.heap.size = b at *
  have HBE := Lib.hid hbe
  clear hbe
  go_region_law (first
    | (go_simp; go_at_call 22; refine (C2.out _ ?_).mono ?_; (first | assumption | exact ⟨hse.os, hse.tape, hse.output, hse.size, hse.block⟩); rintro e WP ⟨vP, rfl, qP, tP, hse, g0, g1, g2, g3⟩; (first | (have tR2 : Sees WR WP := ⟨tP.os, tP.tape, tP.output, tP.size, tP.block⟩; replace qR := qR.seen tR2) | skip))
    | (go_simp; go_at_call 23; refine (C3.out _ ?_).mono ?_; (first | assumption | exact ⟨hse.os, hse.tape, hse.output, hse.size, hse.block⟩); rintro e WR ⟨vR, rfl, qR, tR, hse, g0, g1, g2, g3⟩; (first | (have tP2 : Sees WP WR := ⟨tR.os, tR.tape, tR.output, tR.size, tR.block⟩; replace qP := qP.seen tP2) | skip))
    | (go_simp; go_at_call 14; refine (c4.out _ _ _ qP qR).mono ?_; rintro e WS ⟨rfl, tS⟩))
  all_goals
    have hfin : Sees w2 WS := hse.after ⟨tS.os, tS.tape, tS.output, tS.size, tS.block⟩
    go_wp2
    go_ret
    exact ⟨rfl, by rw [HBE.out]; exact Fin.out _ hfin⟩
end

section
theorem getL_hit_app : ∀ (M N : List Sub) (c : UInt8) (r : List UInt8), getL M c = (r, true) → getL (M ++ N) c = (r, true)
  | [], N, c, r, h => by cases h
  | s :: t, N, c, r, h => by
    rw [getL] at h
    rw [List.cons_append, getL]
    by_cases hs : s.1 = c
    · rw [if_pos hs] at h ⊢
      exact h
    · rw [if_neg hs] at h ⊢
      exact getL_hit_app t N c r h
theorem getL_miss_app : ∀ (M N : List Sub) (c : UInt8), (∀ s ∈ M, s.1 ≠ c) → getL (M ++ N) c = getL N c
  | [], N, c, _ => rfl
  | s :: t, N, c, h => by
    rw [List.cons_append, getL, if_neg (h s (List.mem_cons_self ..))]
    exact getL_miss_app t N c fun x hx => h x (List.mem_cons_of_mem _ hx)
theorem allL_app (M N : List Sub) (codes : List UInt8) : allL (M ++ N) codes = allL M codes ++ allL N codes := by simp [allL]
theorem inB_one (c o : UInt8) (h : o ≠ c) : inB c [o] = false := by
  unfold inB
  simp [h]
theorem take_sub (L : List Sub) (k : Nat) (h : k < L.length) : L.take (k + 1) = L.take k ++ [L.getD k sub0] := by
  rw [List.take_succ_eq_append_getElem h, List.getD_eq_getElem?_getD, List.getElem?_eq_getElem h]
  rfl
theorem setK_all (L : List Sub) (c : UInt8) (v : List UInt8) (o : UInt8) (ho : o ≠ c) : ∀ k, k ≤ L.length → allL (setK L c v k).1 [o] = allL (L.take k) [o]
  | 0, _ => rfl
  | k + 1, hk => by
    have ih := setK_all L c v o ho k (by omega)
    have hz : ∀ s : Sub, s.1 = c → allL [s] [o] = [] := fun s hs => by
      unfold allL
      rw [List.filter_cons, hs, inB_one c o ho]
      rfl
    rw [take_sub L k (by omega), allL_app, ← ih, setK]
    split
    · rw [allL_app]
    · rename_i hc
      have hc : (L.getD k sub0).1 = c := Decidable.not_not.1 hc
      rw [hz _ hc, List.append_nil]
      split
      · rfl
      · split
        · rw [allL_app, hz _ hc, List.append_nil]
        · rw [allL_app, hz (c, v) rfl, List.append_nil]
theorem setR_all (L : List Sub) (c : UInt8) (v : List UInt8) (o : UInt8) (ho : o ≠ c) : allL (setR L c v) [o] = allL L [o] := by
  have h := setK_all L c v o ho L.length (Nat.le_refl _)
  rw [List.take_length] at h
  unfold setR
  split
  · exact h
  · rw [allL_app, h]
    have : allL [(c, v)] [o] = [] := by
      unfold allL
      rw [List.filter_cons, inB_one c o ho]
      rfl
    rw [this, List.append_nil]
theorem setK_empty (L : List Sub) (c : UInt8) : ∀ k, (setK L c [] k).2 = true ∧ ∀ s ∈ (setK L c [] k).1, s.1 ≠ c
  | 0 => ⟨rfl, fun s hs => (by cases hs)⟩
  | k + 1 => by
    obtain ⟨h1, h2⟩ := setK_empty L c k
    rw [setK]
    split
    · rename_i hc
      refine ⟨h1, fun s hs => ?_⟩
      rcases List.mem_append.1 hs with h | h
      · exact h2 s h
      · rw [List.mem_singleton.1 h]
        exact hc
    · rw [if_pos rfl]
      exact ⟨h1, h2⟩
theorem setK_value (L : List Sub) (c : UInt8) (v : List UInt8) (hv : v ≠ []) : ∀ k, ((setK L c v k).2 = false → ∀ s ∈ (setK L c v k).1, s.1 ≠ c) ∧ ((setK L c v k).2 = true → getL (setK L c v k).1 c = (v, true))
  | 0 => ⟨fun _ s hs => (by cases hs), fun h => absurd (of_decide_eq_true (show decide (v = []) = true from h)) hv⟩
  | k + 1 => by
    obtain ⟨h1, h2⟩ := setK_value L c v hv k
    rw [setK]
    split
    · rename_i hc
      refine ⟨fun hd s hs => ?_, fun hd => getL_hit_app _ _ c v (h2 hd)⟩
      rcases List.mem_append.1 hs with h | h
      · exact h1 hd s h
      · rw [List.mem_singleton.1 h]
        exact hc
    · split
      · rename_i hd
        exact ⟨fun h => (by cases h), fun _ => getL_hit_app _ _ c v (h2 hd)⟩
      · rename_i hd
        refine ⟨fun h => (by cases h), fun _ => ?_⟩
        show getL ((setK L c v k).1 ++ [(c, v)]) c = _
        rw [getL_miss_app _ _ c (h1 (by simpa using hd)), getL, if_pos rfl]
theorem getL_none : ∀ (M : List Sub) (c : UInt8), (∀ s ∈ M, s.1 ≠ c) → getL M c = ([], false)
  | [], c, _ => rfl
  | s :: t, c, h => by
    rw [getL, if_neg (h s (List.mem_cons_self ..))]
    exact getL_none t c fun x hx => h x (List.mem_cons_of_mem _ hx)
/-- Behind Set, Get finds the value, or nothing if it is empty. -/
theorem setR_get (L : List Sub) (c : UInt8) (v : List UInt8) : getL (setR L c v) c = (v, !decide (v = [])) := by
  unfold setR
  by_cases hv : v = []
  · subst hv
    obtain ⟨h1, h2⟩ := setK_empty L c L.length
    rw [if_pos h1, getL_none _ c h2]
    rfl
  · obtain ⟨h1, h2⟩ := setK_value L c v hv L.length
    rw [decide_eq_false hv]
    split
    · rename_i hd
      exact h2 hd
    · rename_i hd
      rw [getL_miss_app _ _ c (h1 (by simpa using hd)), getL, if_pos rfl]
      rfl
theorem setR_length (L : List Sub) (c : UInt8) (v : List UInt8) : (setR L c v).length ≤ L.length + 1 := by
  have := setK_le L c v L.length
  unfold setR
  split
  · omega
  · rw [List.length_append]
    simp
    omega
end

end Go.Proofs.YtjajihemcaihmaaDoor
