/- Package field's functions in the forms that the law takes, the promise at no fault alive, and the law's own helpers (the seat that holds FieldParses). -/
import Derived.Test.YtjajihemcaihmaaGreatDoorFP07
import Derived.Test.YtjajihemcaihmaaGreatDoorFI07
import Derived.Test.YtjajihemcaihmaaGreatDoorR07L
namespace Go.Proofs.YtjajihemcaihmaaGreatDoor

section
open Go.RowKit Go.PlainAid
theorem pRight (f : Fld) (u : Value) (w : World) (hE : Env w) (hu : QL u f.subs w) (hz : ∀ i, i < f.subs.length → (f.subs.getD i sub0).2.length ≤ 1000) (er : Int) (hb : rightI f = er) :
    Calls Tryz.prog 14 #[FV f u] w fun e w' => e = .returned (.int .i64 er) ∧ Below w.heap.size w w' := fRight_any f u w hE hu (fun i hi => by have := hz i hi; omega) er hb
theorem pGet (f : Fld) (u : Value) (w : World) (hu : QL u f.subs w) (c : UInt8) (r : List UInt8) (b : Bool) (hb : getL f.subs c = (r, b)) :
    Calls Tryz.prog 9 #[FV f u, .int .u8 (c.toNat : Int)] w fun e w' => e = .returned (.tuple #[.string (S r), .bool b]) ∧ Below w.heap.size w w' := fGet_any f u w hu c r b hb
theorem pAll (f : Fld) (u : Value) (w : World) (hu : QL u f.subs w) (codes : List UInt8) (hs : f.subs.length ≤ 100) :
    Calls Tryz.prog 11 #[FV f u, .string (S codes)] w fun e w' => ∃ v', e = .returned v' ∧ BL v' (allL f.subs codes) w' ∧ Below w.heap.size w w' := fAll_any f u w hu codes (by omega)
theorem pPlain (f : Fld) (u : Value) (w : World) (hu : QL u f.subs w) (codes : List UInt8) (hs : f.subs.length ≤ 100) (hL : ∀ i, ((allL f.subs codes).getD i []).length ≤ 1000) :
    Calls Tryz.prog 12 #[FV f u, .string (S codes)] w fun e w' => e = .returned (.string (S (plainL f.subs codes))) ∧ Below w.heap.size w w' := fPlain_any f u w hu codes (by omega) (fun i => by have := hL i; omega)
theorem pSet (f : Fld) (u : Value) (w : World) (hu : QL u f.subs w) (code : UInt8) (val : List UInt8) (hs : f.subs.length ≤ 100) :
    Calls Tryz.prog 13 #[FV f u, .int .u8 (code.toNat : Int), .string (S val)] w fun e w' => ∃ v', e = .returned (FV { f with subs := setR f.subs code val } v') ∧ QL v' (setR f.subs code val) w' ∧ Below w.heap.size w w' := fSet_any f u w hu code val (by omega)
theorem pPrint (f : Fld) (u : Value) (w : World) (hE : Env w) (hu : QL u f.subs w) (hz : ∀ i, i < f.subs.length → (f.subs.getD i sub0).2.length ≤ 1000) (r : List UInt8) (er : Int) (h : printR f = (r, er)) :
    Calls Tryz.prog 8 #[FV f u] w fun e w' => e = .returned (.tuple #[.string (S r), .int .i64 er]) ∧ Below w.heap.size w w' := fPrint_any f u w hE hu (fun i hi => by have := hz i hi; omega) r er h
theorem pParse (s : List UInt8) (hs : s.length ≤ 20000) (w : World) (hE : Env w) (f : Fld) (er : Int) (h : parseR s = (f, er)) :
    Calls Tryz.prog 5 #[.string (S s)] w fun e w' => ∃ v, e = .returned (.tuple #[FV f v, .int .i64 er]) ∧ QL v f.subs w' ∧ Below w.heap.size w w' := fParse_any s (by omega) w hE f er h
end

section
open Go.RowKit Go.PlainAid
/-! The example's field. -/
def exSubs : List Sub := [(97, [68, 111, 103, 115]), (98, [97, 110, 100, 32, 36, 53]), (97, [120])]
def exF : Fld := ⟨[50, 52, 53], [49, 48], exSubs, 0⟩
def exG : Fld := ⟨[48, 48, 57], [49, 48], exSubs, 0⟩
def exH : Fld := ⟨[54, 53, 48], [32, 48], [(97, [68, 111, 103, 115])], 3⟩
theorem ex_right : rightI exF = 0 := by decide +kernel
theorem ex_print : printR exF = ([50, 52, 53, 32, 49, 48, 32, 36, 97, 68, 111, 103, 115, 36, 98, 97, 110, 100, 32, 36, 36, 53, 36, 97, 120], 0) := by
  unfold printR
  rw [if_pos ex_right]
  rfl
theorem ex_get : getL exSubs 97 = ([68, 111, 103, 115], true) := by decide
theorem ex_all : allL exSubs [97] = [[68, 111, 103, 115], [120]] := by decide
theorem ex_plain : plainL exSubs [97, 98] = [68, 111, 103, 115, 32, 97, 110, 100, 32, 36, 53, 32, 120] := by decide
theorem ex_set : setR exSubs 97 [] = [(98, [97, 110, 100, 32, 36, 53])] := by decide
theorem ex_rightG : rightI exG = 6 := by decide +kernel
theorem ex_rightH : rightI exH = 0 := by decide +kernel
theorem ex_line : lineL exH = [54, 53, 48, 64, 51, 32, 35, 48, 32, 36, 97, 68, 111, 103, 115] := by
  unfold lineL headL authP exH
  rw [if_neg (by decide), show (3 : Int).toNat = 3 from rfl, dec1 3 (by decide)]
  rfl
theorem ex_parse : parseR [54, 53, 48, 64, 51, 32, 35, 48, 32, 36, 97, 68, 111, 103, 115] = (exH, 0) := by
  unfold parseR
  rw [← ex_line, parse_back exH ex_rightH]
theorem ex_bad : parseR [50, 52, 53, 32, 49, 48, 32, 36, 97] = (fld0, 3) := by
  have h : readL [50, 52, 53, 32, 49, 48, 32, 36, 97] = some ⟨[50, 52, 53], [49, 48], [(97, [])], 0⟩ := by rfl
  have hn : ¬ (rightI (Fld.mk [50, 52, 53] [49, 48] [(97, [])] 0) = 0 ∧ lineL (Fld.mk [50, 52, 53] [49, 48] [(97, [])] 0) = [50, 52, 53, 32, 49, 48, 32, 36, 97]) := by
    rintro ⟨h1, _⟩
    exact absurd h1 (by decide +kernel)
  unfold parseR parseO
  rw [h]
  show (match (if rightI (Fld.mk [50, 52, 53] [49, 48] [(97, [])] 0) = 0 ∧ lineL (Fld.mk [50, 52, 53] [49, 48] [(97, [])] 0) = [50, 52, 53, 32, 49, 48, 32, 36, 97] then some (Fld.mk [50, 52, 53] [49, 48] [(97, [])] 0) else none) with | some f => (f, (0 : Int)) | none => (fld0, 3)) = _
  rw [if_neg hn]

/-- The example's field in memory. -/
structure EX (b : Nat) (tag : ByteArray) (W : World) : Prop where
  s : W.heap[b]? = some (.cells #[.int .u8 97, .string ⟨#[68, 111, 103, 115]⟩, .int .u8 98, .string ⟨#[97, 110, 100, 32, 36, 53]⟩, .int .u8 97, .string ⟨#[120]⟩] 32 (0, 0))
  f : W.heap[b + 1]? = some (.cells #[.string tag, .string ⟨#[49, 48]⟩, .slice (some ⟨b, 0, none⟩) 3 3, .int .i64 0] 25 (0, 0))
theorem EX.ql {b : Nat} {tag : ByteArray} {W : World} (h : EX b tag W) : QL (.slice (some ⟨b, 0, none⟩) 3 3) exSubs W := by
  refine ⟨_, 3, rfl, Nat.le_refl _, by decide, (fun h => by cases h), fun i hi => ⟨b, 0, rfl, (Array.getElem?_eq_some_iff.1 h.s).1, ?_, ?_⟩⟩
  · rw [Lib.cell_of_heap h.s]
    match i, hi with
    | 0, _ => rfl
    | 1, _ => rfl
    | 2, _ => rfl
    | (i + 3), hi => exact absurd hi (by simp [exSubs])
  · rw [Lib.cell_of_heap h.s]
    match i, hi with
    | 0, _ => rfl
    | 1, _ => rfl
    | 2, _ => rfl
    | (i + 3), hi => exact absurd hi (by simp [exSubs])
theorem EX.lt {b : Nat} {tag : ByteArray} {W : World} (h : EX b tag W) : b + 2 ≤ W.heap.size := by
  have := (Array.getElem?_eq_some_iff.1 h.f).1
  omega
theorem EX.after {b : Nat} {tag : ByteArray} {W W' : World} (h : EX b tag W) (hb : Below W.heap.size W W') : EX b tag W' :=
  ⟨(hb.block _ (Array.getElem?_eq_some_iff.1 h.s).1).trans h.s, (hb.block _ (Array.getElem?_eq_some_iff.1 h.f).1).trans h.f⟩
theorem EX.set {b : Nat} {tag : ByteArray} {W : World} (h : EX b tag W) (x : ByteArray) : EX b x (W.setCell ⟨b + 1, 0, none⟩ (.string x)) :=
  ⟨(heap_set_ne W _ _ _ (by simp)).trans h.s, by simp [World.setCell, Array.getElem?_modify, h.f]⟩
theorem EX.first (w : World) : EX w.heap.size ⟨#[50, 52, 53]⟩ ((w.alloc (.cells #[.int .u8 97, .string ⟨#[68, 111, 103, 115]⟩, .int .u8 98, .string ⟨#[97, 110, 100, 32, 36, 53]⟩, .int .u8 97, .string ⟨#[120]⟩] 32)).alloc
    (.cells #[.string ⟨#[50, 52, 53]⟩, .string ⟨#[49, 48]⟩, .slice (some ⟨w.heap.size, 0, none⟩) 3 3, .int .i64 0] 25)) := by
  refine ⟨(Below.heap_alloc _ _ _ (by simp)).trans (heap_alloc_new w _), ?_⟩
  have := heap_alloc_new (w.alloc (.cells #[.int .u8 97, .string ⟨#[68, 111, 103, 115]⟩, .int .u8 98, .string ⟨#[97, 110, 100, 32, 36, 53]⟩, .int .u8 97, .string ⟨#[120]⟩] 32)) (.cells #[.string ⟨#[50, 52, 53]⟩, .string ⟨#[49, 48]⟩, .slice (some ⟨w.heap.size, 0, none⟩) 3 3, .int .i64 0] 25)
  simpa using this

theorem ex_le : ∀ i, i < exSubs.length → (exSubs.getD i sub0).2.length ≤ 1000 := by
  intro i hi
  match i, hi with
  | 0, _ => decide
  | 1, _ => decide
  | 2, _ => decide
  | (i + 3), hi => exact absurd hi (by simp [exSubs])
theorem ex_allz : ∀ i, ((allL exSubs [97, 98]).getD i []).length ≤ 1000 := by
  intro i
  match i with
  | 0 => decide
  | 1 => decide
  | 2 => decide
  | (i + 3) => exact Nat.zero_le _
theorem BL.two (w : World) (x y : List UInt8) : BL (.slice (some ⟨w.heap.size, 0, none⟩) 2 2) [x, y] (w.alloc (.cells #[strB x, strB y] 9)) := by
  refine ⟨_, 2, rfl, Nat.le_refl _, by decide, (fun h => by cases h), fun i hi => ⟨w.heap.size, 0, rfl, by simp, ?_⟩⟩
  match i, hi with
  | 0, _ => simp
  | 1, _ => simp
  | (i + 2), hi => exact absurd hi (by simp)

set_option maxHeartbeats 16000000 in
set_option maxRecDepth 100000 in
theorem alive_any (w : World) (hEnv : Env w) :
    Calls Tryz.prog 4 #[] w fun e w' => e = .returned (.bool true) ∧ Below w.heap.size w w' := by
  have hE := EX.first w
  have bA : Below w.heap.size w ((w.alloc (.cells #[.int .u8 97, .string ⟨#[68, 111, 103, 115]⟩, .int .u8 98, .string ⟨#[97, 110, 100, 32, 36, 53]⟩, .int .u8 97, .string ⟨#[120]⟩] 32)).alloc
    (.cells #[.string ⟨#[50, 52, 53]⟩, .string ⟨#[49, 48]⟩, .slice (some ⟨w.heap.size, 0, none⟩) 3 3, .int .i64 0] 25)) := ((Below.refl w.heap.size w).alloc (Nat.le_refl _) _).alloc (by simp) _
  obtain ⟨b, hb⟩ : ∃ b, w.heap.size = b := ⟨_, rfl⟩
  rw [hb] at hE bA
  have HEnv := Lib.hid (fun (W : World) (h : Below b w W) => hEnv.after (by rw [hb]; exact h))
  clear hEnv
  have CP : RowKit.Hid (∀ W, Below b w W → EX b ⟨#[50, 52, 53]⟩ W → Calls Tryz.prog 8 #[.agg #[.string ⟨#[50, 52, 53]⟩, .string ⟨#[49, 48]⟩, .slice (some ⟨b, 0, none⟩) 3 3, .int .i64 0]] W fun e w' => e = .returned (.tuple #[.string ⟨#[50, 52, 53, 32, 49, 48, 32, 36, 97, 68, 111, 103, 115, 36, 98, 97, 110, 100, 32, 36, 36, 53, 36, 97, 120]⟩, .int .i64 0]) ∧ Below W.heap.size W w') :=
    fun W hB h => pPrint exF _ W (HEnv.out W hB) h.ql ex_le _ _ ex_print
  have CG : RowKit.Hid (∀ W, EX b ⟨#[50, 52, 53]⟩ W → Calls Tryz.prog 9 #[.agg #[.string ⟨#[50, 52, 53]⟩, .string ⟨#[49, 48]⟩, .slice (some ⟨b, 0, none⟩) 3 3, .int .i64 0], .int .u8 97] W fun e w' => e = .returned (.tuple #[.string ⟨#[68, 111, 103, 115]⟩, .bool true]) ∧ Below W.heap.size W w') :=
    fun W h => pGet exF _ W h.ql 97 _ _ ex_get
  have CA : RowKit.Hid (∀ W, EX b ⟨#[50, 52, 53]⟩ W → Calls Tryz.prog 11 #[.agg #[.string ⟨#[50, 52, 53]⟩, .string ⟨#[49, 48]⟩, .slice (some ⟨b, 0, none⟩) 3 3, .int .i64 0], .string ⟨#[97]⟩] W fun e w' => ∃ v', e = .returned v' ∧ BL v' [[68, 111, 103, 115], [120]] w' ∧ Below W.heap.size W w') := by
    intro W h
    have := pAll exF _ W h.ql [97] (by decide)
    rw [show allL exF.subs [97] = [[68, 111, 103, 115], [120]] from ex_all] at this
    exact this
  have CL : RowKit.Hid (∀ W, EX b ⟨#[50, 52, 53]⟩ W → Calls Tryz.prog 12 #[.agg #[.string ⟨#[50, 52, 53]⟩, .string ⟨#[49, 48]⟩, .slice (some ⟨b, 0, none⟩) 3 3, .int .i64 0], .string ⟨#[97, 98]⟩] W fun e w' => e = .returned (.string ⟨#[68, 111, 103, 115, 32, 97, 110, 100, 32, 36, 53, 32, 120]⟩) ∧ Below W.heap.size W w') := by
    intro W h
    have := pPlain exF _ W h.ql [97, 98] (by decide) ex_allz
    rw [show plainL exF.subs [97, 98] = _ from ex_plain] at this
    exact this
  have CS : RowKit.Hid (∀ W, EX b ⟨#[50, 52, 53]⟩ W → Calls Tryz.prog 13 #[.agg #[.string ⟨#[50, 52, 53]⟩, .string ⟨#[49, 48]⟩, .slice (some ⟨b, 0, none⟩) 3 3, .int .i64 0], .int .u8 97, .string ⟨#[]⟩] W fun e w' => ∃ a cp, e = .returned (.agg #[.string ⟨#[50, 52, 53]⟩, .string ⟨#[49, 48]⟩, .slice a 1 cp, .int .i64 0]) ∧ Below W.heap.size W w') := by
    intro W h
    refine (pSet exF _ W h.ql 97 [] (by decide)).mono fun e w' hh => ?_
    obtain ⟨v', h1, h2, h3⟩ := hh
    rw [show setR exF.subs 97 [] = _ from ex_set] at h2
    obtain ⟨a, cp, rfl, _⟩ := h2.length
    exact ⟨a, cp, h1, h3⟩
  have CQ : RowKit.Hid (∀ W : World, Below b w W → Calls Tryz.prog 5 #[.string ⟨#[54, 53, 48, 64, 51, 32, 35, 48, 32, 36, 97, 68, 111, 103, 115]⟩] W fun e w' => ∃ a m cp, e = .returned (.tuple #[.agg #[.string ⟨#[54, 53, 48]⟩, .string ⟨#[32, 48]⟩, .slice a m cp, .int .i64 3], .int .i64 0]) ∧ Below W.heap.size W w') := by
    intro W hB
    refine (pParse _ (by decide) W (HEnv.out W hB) _ _ ex_parse).mono fun e w' hh => ?_
    obtain ⟨v', h1, h2, h3⟩ := hh
    obtain ⟨a, cp, rfl, _⟩ := h2.length
    exact ⟨a, _, cp, h1, h3⟩
  have CB : RowKit.Hid (∀ W : World, Below b w W → Calls Tryz.prog 5 #[.string ⟨#[50, 52, 53, 32, 49, 48, 32, 36, 97]⟩] W fun e w' => ∃ v, e = .returned (.tuple #[v, .int .i64 3]) ∧ Below W.heap.size W w') := by
    intro W hB
    refine (pParse _ (by decide) W (HEnv.out W hB) _ _ ex_bad).mono fun e w' hh => ?_
    obtain ⟨v', h1, h2, h3⟩ := hh
    exact ⟨_, h1, h3⟩
  have CR : RowKit.Hid (∀ W, Below b w W → EX b ⟨#[48, 48, 57]⟩ W → Calls Tryz.prog 14 #[.agg #[.string ⟨#[48, 48, 57]⟩, .string ⟨#[49, 48]⟩, .slice (some ⟨b, 0, none⟩) 3 3, .int .i64 0]] W fun e w' => e = .returned (.int .i64 6) ∧ Below W.heap.size W w') :=
    fun W hB h => pRight exG _ W (HEnv.out W hB) h.ql ex_le _ ex_rightG
  have CT : RowKit.Hid (∀ va W, BL va [[68, 111, 103, 115], [120]] W → Calls Tryz.prog 10 #[va, .slice (some ⟨W.heap.size, 0, none⟩) 2 2] (W.alloc (.cells #[.string ⟨#[68, 111, 103, 115]⟩, .string ⟨#[120]⟩] 9)) fun e w' => e = .returned (.bool true) ∧ Below W.heap.size W w') := by
    intro va W h
    have ca := (Below.refl W.heap.size W).alloc (Nat.le_refl _) (.cells #[.string ⟨#[68, 111, 103, 115]⟩, .string ⟨#[120]⟩] 9)
    refine (refTexts_any _ _ va _ _ (h.after ca) (BL.two W [68, 111, 103, 115] [120]) true (decide_eq_true rfl)).mono fun e w' hh => ?_
    exact ⟨hh.1, ca.trans (hh.2.mono ca.size)⟩
  have HB := Lib.hid hb
  have hfd : ∀ (W : World) (s0 s1 : ByteArray) (a : Option Addr) (m cp : Nat) (z : Int), (Instr.field 25 (.agg #[.string s0, .string s1, .slice a m cp, .int .i64 z]) 2).run Tryz.prog W = .ok (.slice a m cp) W := fun _ _ _ _ _ _ _ => by kernel_rfl
  go_enter Tryz.func4, Tryz.ntmps4
  go_wp2_with fail
  clear hb
  refine (CP.out _ bA hE).mono ?_
  rintro e w1 ⟨rfl, c⟩
  have hE1 := hE.after c
  have b1 := bA.trans (c.mono (by have := hE.lt; omega))
  clear c hE bA
  obtain ⟨⟨k0, k1, k2, k3⟩, _⟩ := field_cells hE1.f
  go_wp2_with fail
  refine (CG.out _ hE1).mono ?_
  rintro e w2 ⟨rfl, c⟩
  have hE2 := hE1.after c
  have b2 := b1.trans (c.mono (by have := hE1.lt; omega))
  clear c hE1 b1 k0 k1 k2 k3
  obtain ⟨⟨k0, k1, k2, k3⟩, _⟩ := field_cells hE2.f
  go_wp2_with fail
  refine (CA.out _ hE2).mono ?_
  rintro e w3 ⟨v3, rfl, hV, c⟩
  have hE3 := hE2.after c
  have b3 := b2.trans (c.mono (by have := hE2.lt; omega))
  clear c hE2 b2 k0 k1 k2 k3
  go_wp2_with fail
  refine (CT.out _ _ hV).mono ?_
  rintro e w4 ⟨rfl, c⟩
  have hE4 := hE3.after c
  have b4 := b3.trans (c.mono (by have := hE3.lt; omega))
  clear c hE3 b3 hV
  obtain ⟨⟨k0, k1, k2, k3⟩, _⟩ := field_cells hE4.f
  go_wp2_with fail
  refine (CL.out _ hE4).mono ?_
  rintro e w5 ⟨rfl, c⟩
  have hE5 := hE4.after c
  have b5 := b4.trans (c.mono (by have := hE4.lt; omega))
  clear c hE4 b4 k0 k1 k2 k3
  obtain ⟨⟨k0, k1, k2, k3⟩, _⟩ := field_cells hE5.f
  go_wp2_with fail
  refine (CS.out _ hE5).mono ?_
  rintro e w6 ⟨a6, c6, rfl, c⟩
  have hE6 := hE5.after c
  have b6 := b5.trans (c.mono (by have := hE5.lt; omega))
  clear c hE5 b5 k0 k1 k2 k3
  go_wp2_with fail
  refine (CQ.out _ b6).mono ?_
  rintro e w7 ⟨a7, m7, c7, rfl, c⟩
  have hE7 := hE6.after c
  have b7 := b6.trans (c.mono (by have := hE6.lt; omega))
  clear c hE6 b6
  have cG := (Below.refl w7.heap.size w7).alloc (Nat.le_refl _) (.cells #[.string ⟨#[54, 53, 48]⟩, .string ⟨#[32, 48]⟩, .slice a7 m7 c7, .int .i64 3] 25)
  have hG := heap_alloc_new w7 (.cells #[.string ⟨#[54, 53, 48]⟩, .string ⟨#[32, 48]⟩, .slice a7 m7 c7, .int .i64 3] 25)
  obtain ⟨w8, hw8⟩ : ∃ w8, w7.alloc (.cells #[.string ⟨#[54, 53, 48]⟩, .string ⟨#[32, 48]⟩, .slice a7 m7 c7, .int .i64 3] 25) = w8 := ⟨_, rfl⟩
  rw [hw8] at cG hG
  have HW8 := Lib.hid hw8
  have hE8 := hE7.after cG
  have b8 := b7.trans (cG.mono (by have := hE7.lt; omega))
  clear hE7 b7 cG hw8
  go_upto_if 66 with fail
  rw [HW8.out]
  obtain ⟨⟨k0, k1, k2, k3⟩, f0, f1, f2, f3⟩ := field_cells hE8.f
  have hE9 := hE8.set ⟨#[48, 48, 57]⟩
  have b9 := b8.setCell (p := ⟨b + 1, 0, none⟩) (Nat.le_succ b) (.string ⟨#[48, 48, 57]⟩)
  clear hE8 b8
  go_wp2_with fail
  refine (CB.out _ b9).mono ?_
  rintro e w10 ⟨v10, rfl, c⟩
  have hE10 := hE9.after c
  have b10 := b9.trans (c.mono (by have := hE9.lt; omega))
  clear c hE9 b9 k0 k1 k2 k3 f0 f1 f2 f3
  obtain ⟨⟨k0, k1, k2, k3⟩, _⟩ := field_cells hE10.f
  go_wp2_with fail
  refine (CR.out _ b10 hE10).mono ?_
  rintro e w11 ⟨rfl, c⟩
  have b11 := b10.trans (c.mono (by have := hE10.lt; omega))
  clear c hE10 b10 k0 k1 k2 k3
  go_wp2
  go_ret
  exact ⟨rfl, by rw [HB.out]; exact b11⟩
end

section
open Go.RowKit Go.PlainAid
/-- A field in its box. -/
structure FB (b : Nat) (f : Fld) (u : Value) (W : World) : Prop where
  bx : W.heap[b]? = some (.cells #[.string (S f.tag), .string (S f.ind), u, .int .i64 f.auth] 25 (0, 0))
  q : QL u f.subs W
  e : Env W
theorem FB.lt {b : Nat} {f : Fld} {u : Value} {W : World} (h : FB b f u W) : b < W.heap.size := (Array.getElem?_eq_some_iff.1 h.bx).1
theorem FB.after {b : Nat} {f : Fld} {u : Value} {W W' : World} (h : FB b f u W) (hb : Below W.heap.size W W') : FB b f u W' := ⟨(hb.block _ h.lt).trans h.bx, h.q.after hb, h.e.after hb⟩
theorem FB.new {f : Fld} {u : Value} {w : World} (hE : Env w) (h : QL u f.subs w) : FB w.heap.size f u (w.alloc (.cells #[.string (S f.tag), .string (S f.ind), u, .int .i64 f.auth] 25)) :=
  ⟨heap_alloc_new w _, h.after ((Below.refl w.heap.size w).alloc (Nat.le_refl _) _), hE.after ((Below.refl w.heap.size w).alloc (Nat.le_refl _) _)⟩
theorem FB.cells {b : Nat} {f : Fld} {u : Value} {W : World} (h : FB b f u W) : W.cell? ⟨b, 0, none⟩ = some (.string (S f.tag)) ∧ W.cell? ⟨b, 1, none⟩ = some (.string (S f.ind)) ∧ W.cell? ⟨b, 2, none⟩ = some u ∧ W.cell? ⟨b, 3, none⟩ = some (.int .i64 f.auth) := (field_cells h.bx).1
theorem small_le (f : Fld) (h : smallB f = true) : ∀ i, i < f.subs.length → (f.subs.getD i sub0).2.length ≤ 1000 := fun i hi => by
  have := (small_of f h).2.2.2 i hi
  omega
end

end Go.Proofs.YtjajihemcaihmaaGreatDoor
