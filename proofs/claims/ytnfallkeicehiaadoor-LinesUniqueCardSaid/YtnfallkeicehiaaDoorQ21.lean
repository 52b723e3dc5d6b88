/- Merged: Tabs, TValid, Env07. -/
import Derived.Test.YtnfallkeicehiaaDoorQ20
import Derived.Test.YtnfallkeicehiaaDoorQ04
import Derived.Test.YtnfallkeicehiaaDoorShelf
import Derived.Lib.LaidTab
import Derived.Lib.ConvBytes
import Derived.Lib.AtoiAllMem
namespace Go.Proofs.YtnfallkeicehiaaDoor

section
open Go.RowKit
/-- The two tables of unicode/utf8 lie in their blocks. -/
def Tabs (w : World) : Prop := (2 < w.heap.size ∧ 3 < w.heap.size) ∧ Lib.Utf8Tabs 2 3 w
theorem Tabs.after {w w' : World} (h : Tabs w) (hb : Below w.heap.size w w') : Tabs w' := by
  obtain ⟨⟨h0, h1⟩, h2, h3⟩ := h
  refine ⟨⟨Nat.lt_of_lt_of_le h0 hb.size, Nat.lt_of_lt_of_le h1 hb.size⟩, fun c hc => ?_, fun i hi => ?_⟩
  · rw [hb.cell (p := ⟨2, c, none⟩) h0]
    exact h2 c hc
  · rw [hb.cell (p := ⟨3, 2 * i, none⟩) h1, hb.cell (p := ⟨3, 2 * i + 1, none⟩) h1]
    exact h3 i hi
end

section
open Go.RowKit
theorem runes_at (s : ByteArray) (p : Nat) (hp : p < s.size) : runes (s.data.toList.drop p) = (Utf8.decode s p).1 :: runes (s.data.toList.drop (p + (Utf8.decode s p).2)) := by
  have hne : s.data.toList.drop p ≠ [] := by
    intro h0
    have := congrArg List.length h0
    rw [List.length_drop, ← Lib.size_eq] at this
    simp at this
    omega
  rw [runes_step _ hne, Lib.decodeL_drop, List.drop_drop]

theorem decode_big (s : ByteArray) (p : Nat) : (Utf8.decode s p).1 ≤ 1114111 := Lib.rune_le s p

set_option maxHeartbeats 2000000 in
theorem valid_any (s : ByteArray) (hz : s.size ≤ 9223372036854775807) (w : World) (hE : Tabs w) :
    Calls Tryd.prog 48 #[.string s] w fun e w' => e = .returned (.bool (validT s.data.toList)) ∧ Below w.heap.size w w' := by
  have cV := Tryd.utf8_ValidString s w hz hE.2
  obtain ⟨V, hV⟩ : ∃ V, Lib.validD s.data.toList = V := ⟨_, rfl⟩
  rw [hV] at cV
  have HV := Lib.hid hV
  clear hV
  cases V
  · go_enter Tryd.func48, Tryd.ntmps48
    go_wp2_with (go_at_call 60; refine cV.mono ?_; rintro e w1 ⟨rfl, hb⟩)
    go_ret
    refine ⟨?_, hb⟩
    have : validT s.data.toList = false := by unfold validT; rw [HV.out]; rfl
    rw [this]
    rfl
  · have eV : validT s.data.toList = (runes s.data.toList).all allow := by unfold validT; rw [HV.out]; rfl
    rw [eV]
    clear eV
    go_enter Tryd.func48, Tryd.ntmps48
    go_wp2_with (go_at_call 60; refine cV.mono ?_; rintro e w1 ⟨rfl, hb⟩)
    clear cV
    have hB1 := hb.size
    go_loopw [] (fun wr => ∃ p : Nat, wr.heap[w1.heap.size]? = some (.stringIter s p) ∧ Below w.heap.size w wr ∧ (runes (s.data.toList.drop p)).all allow = (runes s.data.toList).all allow) (fun wr => s.size - wr.iterPos w1.heap.size)
    case atStart =>
      refine ⟨0, World.iter_heap w1 s 0, hb.alloc hB1 _, ?_⟩
      rw [List.drop_zero]
    case round =>
      obtain ⟨p, hit, hbw, hall⟩ := hrel
      have HA := Lib.hid hall
      clear hall
      by_cases hlt : p < s.size
      · have hnx : ∀ ty, (Instr.next (.pointer (some ⟨w1.heap.size, 0, none⟩)) true ty).run Tryd.prog wr = _ := fun ty => Lib.run_next_any_at wr w1.heap.size s p ty hit hlt
        have hit2 := Lib.iterAt_heap wr w1.heap.size s p (p + (Utf8.decode s p).2) hit
        have hbw2 := Lib.below_iterAt hbw (k := w1.heap.size) (by omega) s (p + (Utf8.decode s p).2)
        have HM := Lib.hid (And.intro (pos_T _ _ _ _ hit) (pos_T _ _ _ _ hit2))
        have hwd := Lib.width_pos s p
        have hbig := decode_big s p
        have HR := Lib.hid (runes_at s p hlt)
        cases hb2 : allow (Utf8.decode s p).1
        · have HB := Lib.hid hb2
          clear hb2
          go_wp2_with (go_at_call 61; refine (allowed_any _ (by omega) false HB.out _).mono ?_; rintro e w' ⟨rfl, rfl⟩)
          go_ret
          refine ⟨?_, hbw2⟩
          have := HA.out
          rw [HR.out, List.all_cons, HB.out, Bool.false_and] at this
          rw [← this]
          rfl
        · have HB := Lib.hid hb2
          clear hb2
          go_wp2_with (go_at_call 61; refine (allowed_any _ (by omega) true HB.out _).mono ?_; rintro e w' ⟨rfl, rfl⟩)
          go_roundw
          case rel =>
            refine ⟨p + (Utf8.decode s p).2, hit2, hbw2, ?_⟩
            have := HA.out
            rw [HR.out, List.all_cons, HB.out, Bool.true_and] at this
            exact this
          case measure => rw [HM.out.1, HM.out.2]; omega
      · have hnx : ∀ ty, (Instr.next (.pointer (some ⟨w1.heap.size, 0, none⟩)) true ty).run Tryd.prog wr = _ := fun ty => Lib.run_next_end_at wr w1.heap.size s p ty hit hlt
        go_wp2
        go_ret
        refine ⟨?_, hbw⟩
        have := HA.out
        rw [List.drop_eq_nil_of_le (by rw [← Lib.size_eq]; omega)] at this
        rw [← this]
        rfl

theorem valid_is (s : ByteArray) (b : Bool) (hb : validT s.data.toList = b) (hz : s.size ≤ 9223372036854775807) (w : World) (hE : Tabs w) :
    Calls Tryd.prog 48 #[.string s] w fun e w' => e = .returned (.bool b) ∧ Below w.heap.size w w' := by
  have := valid_any s hz w hE
  rwa [hb] at this
end

section
open Go.RowKit
theorem Grow_below (w : World) (k : Nat) (os : Array Obj) : Below w.heap.size w (Sort.grow (w.drewN k) os) :=
  ⟨rfl, rfl, rfl, by simp [Sort.grow], fun i hi => Sort.heap_grow_old (w.drewN k) os hi⟩
theorem bytes_below (w : World) (e : TypeId) (s : ByteArray) : Below w.heap.size w (Lib.bytesWorld w e s) :=
  ⟨rfl, rfl, rfl, by rw [Lib.bytesWorld_size]; omega, fun i hi => Lib.bytesWorld_at_old w e s i hi⟩
theorem drewN_below (w : World) (n : Nat) : Below w.heap.size w (w.drewN n) := ⟨rfl, rfl, rfl, Nat.le_refl _, fun _ _ => rfl⟩

/-- The words for the kinds. -/
def kindsL : List (List UInt8) := [[98, 111, 111, 107], [115, 101, 114, 105, 97, 108], [109, 97, 112], [100, 105, 103, 105, 116, 97, 108]]
def KT (w : World) : Prop := 0 < w.heap.size ∧ ∀ i, i < 4 → w.cell? ⟨0, i, none⟩ = some (.string (S (kindsL.getD i [])))
theorem KT.after {w w' : World} (h : KT w) (hb : Below w.heap.size w w') : KT w' := ⟨Nat.lt_of_lt_of_le h.1 hb.size, fun i hi => (hb.cell (p := ⟨0, i, none⟩) h.1).trans (h.2 i hi)⟩
structure Env (w : World) : Prop where
  tabs : Tabs w
  pows : Lib.TabIs Tryd.prog w "internal/strconv.uint64pow10" .u64 Lib.pow10Tab
  most : ∃ m, w.cell? ⟨1, 0, none⟩ = some (.int .i64 m)
  syn : ∃ ev, w.cell? ⟨5, 0, none⟩ = some ev ∧ (ev = .nilIface ∨ ∃ te pe, ev = .iface te pe)
  ran : ∃ ev, w.cell? ⟨6, 0, none⟩ = some ev ∧ (ev = .nilIface ∨ ∃ te pe, ev = .iface te pe)
  kin : KT w
theorem tabIs_below {w w' : World} {n : String} {k : IntKind} {zs : List Int} (h : Lib.TabIs Tryd.prog w n k zs) (hb : Below w.heap.size w w') : Lib.TabIs Tryd.prog w' n k zs := by
  unfold Lib.TabIs World.var? at *
  cases hg : Tryd.prog.globalNamed n with
  | none => simp [hg] at h
  | some g =>
    simp only [hg, Option.bind_some] at h ⊢
    have hlt : g < w.heap.size := by
      rcases Nat.lt_or_ge g w.heap.size with h' | h'
      · exact h'
      · rw [Array.getElem?_eq_none h'] at h; simp at h
    rw [hb.block g hlt]
    exact h
theorem cell_below {w w' : World} {g : Nat} {v : Value} (h : w.cell? ⟨g, 0, none⟩ = some v) (hb : Below w.heap.size w w') : w'.cell? ⟨g, 0, none⟩ = some v := by
  have hlt : g < w.heap.size := by
    rcases Nat.lt_or_ge g w.heap.size with h' | h'
    · exact h'
    · simp [World.cell?, Array.getElem?_eq_none h'] at h
  exact (hb.cell (p := ⟨g, 0, none⟩) hlt).trans h
theorem Env.after {w w' : World} (h : Env w) (hb : Below w.heap.size w w') : Env w' := by
  obtain ⟨h1, h2, ⟨m, hm⟩, ⟨e1, h3, h4⟩, ⟨e2, h5, h6⟩, h7⟩ := h
  exact ⟨h1.after hb, tabIs_below h2 hb, ⟨m, cell_below hm hb⟩, ⟨e1, cell_below h3 hb, h4⟩, ⟨e2, cell_below h5 hb, h6⟩, h7.after hb⟩

/-- text.Valid. -/
theorem cValid (l : List UInt8) (hz : l.length ≤ 1000000) (b : Bool) (hb : validT l = b) (w : World) (hE : Env w) :
    Calls Tryd.prog 48 #[.string (S l)] w fun e w' => e = .returned (.bool b) ∧ Below w.heap.size w w' :=
  valid_is (S l) b hb (by rw [S_size]; omega) w hE.tabs
/-- strconv.Itoa at a number that is not negative. -/
theorem cItoa (n : Nat) (h : n ≤ 99999) (w : World) (hE : Env w) :
    Calls Tryd.prog 28 #[.int .i64 (n : Int)] w fun e w' => e = .returned (.string (S (Lib.decDigits n))) ∧ Below w.heap.size w w' :=
  (Tryd.strconv_Itoa (n : Int) (by omega) (by omega) w hE.pows).mono fun e w' hh => by
    obtain ⟨he, k, os, rfl⟩ := hh
    refine ⟨?_, Grow_below w k os⟩
    rw [he, Lib.itoa, if_neg (by omega), Int.toNat_natCast]
    rfl
/-- strconv.Atoi at every text. -/
theorem cAtoi (l : List UInt8) (hz : l.length ≤ 1000000) (w : World) (hE : Env w) :
    Calls Tryd.prog 42 #[.string (S l)] w fun e w' => ∃ er, e = .returned (.tuple #[.int .i64 (atoiV l), er]) ∧ Below w.heap.size w w' := by
  have hs : (S l).size ≤ 1000000 := by rw [S_size]; exact hz
  unfold atoiV
  obtain ⟨r, ha⟩ : ∃ r, Lib.atoiAll l = r := ⟨_, rfl⟩
  rw [ha]
  by_cases h1 : ∃ v, r = .ok v
  · obtain ⟨v, rfl⟩ := h1
    refine (Tryd.strconv_Atoi_ok (S l) (by omega) v ha w).mono fun e w' hh => ?_
    obtain ⟨he, hw⟩ := hh
    refine ⟨_, he, ?_⟩
    rcases hw with rfl | ⟨t, rfl⟩
    · exact Below.refl _ _
    · exact bytes_below _ _ _
  by_cases h2 : r = .range
  · subst h2
    obtain ⟨ev, g1, g2⟩ := hE.ran
    refine (Tryd.strconv_Atoi_range (S l) (by omega) ha ev w g1 g2).mono fun e w' hh => ?_
    obtain ⟨N, he, _, _, hb⟩ := hh
    exact ⟨_, he, hb⟩
  · obtain ⟨ev, g1, g2⟩ := hE.syn
    refine (Tryd.strconv_Atoi_syntax (S l) (by omega) ⟨fun v hv => h1 ⟨v, ha.symm.trans hv⟩, fun hv => h2 (ha.symm.trans hv)⟩ ev w g1 g2).mono fun e w' hh => ?_
    obtain ⟨N, he, _, _, hb⟩ := hh
    cases r
    case ok v => exact (h1 ⟨v, rfl⟩).elim
    case range => exact (h2 rfl).elim
    exact ⟨_, he, hb⟩
theorem count_le' (l d : List UInt8) : Lib.countB (S l) (S d) ≤ l.length + 1 := Lib.count_le l d
theorem cReplace (l old new r : List UInt8) (h0 : 1 ≤ old.length) (h2 : new.length ≤ 2) (hz : l.length ≤ 1000000) (hr : Lib.replaceAll l old new = r) (w : World) (hE : Env w) :
    Calls Tryd.prog 29 #[.string (S l), .string (S old), .string (S new)] w fun e w' => e = .returned (.string (S r)) ∧ Below w.heap.size w w' := by
  obtain ⟨m, hm⟩ := hE.most
  have hc := count_le' l old
  have hmul : Lib.countB (S l) (S old) * (S new).size ≤ (l.length + 1) * 2 := Nat.mul_le_mul hc (by rw [S_size]; exact h2)
  have h := Tryd.strings_ReplaceAll (S l) (S old) (S new) m w (by rw [S_size]; omega) hm (by rw [S_size]; exact h0) (by rw [S_size l]; omega)
  rw [show (S l).data.toList = l from rfl, show (S old).data.toList = old from rfl, show (S new).data.toList = new from rfl, hr] at h
  exact h
/-- A blank by nothing. -/
theorem cStrike (l : List UInt8) (hz : l.length ≤ 1000000) (w : World) (hE : Env w) :
    Calls Tryd.prog 29 #[.string (S l), .string ⟨#[32]⟩, .string ⟨#[]⟩] w fun e w' => e = .returned (.string (S (subL 32 [] l))) ∧ Below w.heap.size w w' :=
  cReplace l [32] [] _ (by simp) (by simp) hz (sub_all 32 [] l (by simp)) w hE
/-- A blank by a mark. -/
theorem cMark (l : List UInt8) (hz : l.length ≤ 1000000) (w : World) (hE : Env w) :
    Calls Tryd.prog 29 #[.string (S l), .string ⟨#[32]⟩, .string ⟨#[35]⟩] w fun e w' => e = .returned (.string (S (subL 32 [35] l))) ∧ Below w.heap.size w w' :=
  cReplace l [32] [35] _ (by simp) (by simp) hz (sub_all 32 [35] l (by simp)) w hE
/-- A mark by a blank. -/
theorem cUnmark (l : List UInt8) (hz : l.length ≤ 1000000) (w : World) (hE : Env w) :
    Calls Tryd.prog 29 #[.string (S l), .string ⟨#[35]⟩, .string ⟨#[32]⟩] w fun e w' => e = .returned (.string (S (l.map unB))) ∧ Below w.heap.size w w' :=
  cReplace l [35] [32] _ (by simp) (by simp) hz ((sub_all 35 [32] l (by simp)).trans (sub_un l)) w hE
/-- A dollar by two. -/
theorem cDouble (l : List UInt8) (hz : l.length ≤ 1000000) (w : World) (hE : Env w) :
    Calls Tryd.prog 29 #[.string (S l), .string ⟨#[36]⟩, .string ⟨#[36, 36]⟩] w fun e w' => e = .returned (.string (S (dblL l))) ∧ Below w.heap.size w w' :=
  cReplace l [36] [36, 36] _ (by simp) (by simp) hz ((sub_all 36 [36, 36] l (by simp)).trans (sub_dbl l)) w hE
/-- Two dollars by one. -/
theorem cHalve (l : List UInt8) (hz : l.length ≤ 1000000) (w : World) (hE : Env w) :
    Calls Tryd.prog 29 #[.string (S l), .string ⟨#[36, 36]⟩, .string ⟨#[36]⟩] w fun e w' => e = .returned (.string (S (halveL l))) ∧ Below w.heap.size w w' :=
  cReplace l [36, 36] [36] _ (by simp) (by simp) hz rfl w hE
/-- strings.Cut at a byte. -/
theorem cCut (l : List UInt8) (c : UInt8) (hz : l.length ≤ 1000000) (a b : List UInt8) (t : Bool) (h : Lib.cut l [c] = (a, b, t)) (w : World) (hE : Env w) :
    Calls Tryd.prog 33 #[.string (S l), .string (S [c])] w fun e w' => e = .returned (.tuple #[.string (S a), .string (S b), .bool t]) ∧ Below w.heap.size w w' := by
  obtain ⟨m, hm⟩ := hE.most
  refine (Tryd.strings_Cut (S l) (S [c]) m w (by rw [S_size]; omega) hm).mono fun e w' hh => ?_
  obtain ⟨he, n, rfl⟩ := hh
  refine ⟨?_, drewN_below w n⟩
  rw [he, show (S l).data.toList = l from rfl, show (S [c]).data.toList = [c] from rfl, h]
  rfl
/-- strings.HasPrefix. -/
theorem cPrefix (l p : List UInt8) (b : Bool) (hb : Lib.hasPrefix l p = b) (w : World) :
    Calls Tryd.prog 92 #[.string (S l), .string (S p)] w fun e w' => e = .returned (.bool b) ∧ w' = w := by
  have h := Tryd.strings_HasPrefix (S l) (S p) w
  rw [show (S l).data.toList = l from rfl, show (S p).data.toList = p from rfl, hb] at h
  exact h
/-- strings.TrimPrefix. -/
theorem cTrimP (l p : List UInt8) (w : World) :
    Calls Tryd.prog 41 #[.string (S l), .string (S p)] w fun e w' => e = .returned (.string (S (Lib.trimPrefix l p))) ∧ w' = w :=
  Tryd.strings_TrimPrefix (S l) (S p) w
/-- strings.SplitN at a byte. -/
theorem cSplitN (l : List UInt8) (c : UInt8) (n : Nat) (hn : 1 ≤ n) (hn2 : n ≤ 100) (hz : l.length ≤ 1000000) (w : World) (hE : Env w) :
    Calls Tryd.prog 40 #[.string (S l), .string (S [c]), .int .i64 n] w fun e w' => ∃ P : List (List UInt8), P = Lib.splitK [c] 0 (min n (l.length + 1) - 1) l ∧ ∃ N, P.length ≤ N ∧ N ≤ 100 ∧
      e = .returned (.slice (some ⟨w.heap.size, 0, none⟩) P.length N) ∧ w' = w.alloc (.cells (P.map strB ++ List.replicate (N - P.length) (Value.string ⟨#[]⟩)).toArray 9) := by
  obtain ⟨m, hm⟩ := hE.most
  refine (Tryd.strings_SplitN (S l) (S [c]) n m w (by rw [S_size]; omega) hm (by rw [S_size]; simp) hn (by omega)).mono fun e w' hh => ?_
  obtain ⟨he, hw⟩ := hh
  rw [S_size] at he hw
  have hd := Lib.splitB_data (S [c]) 0 (min n (l.length + 1) - 1) (S l)
  have hd : (Lib.splitB (S [c]) 0 (min n (l.length + 1) - 1) (S l)).map (·.data.toList) = Lib.splitK [c] 0 (min n (l.length + 1) - 1) l := hd
  have hle := Lib.splitB_length_le (S [c]) 0 (min n (l.length + 1) - 1) (S l)
  refine ⟨_, hd, min n (l.length + 1), ?_, ?_, ?_, ?_⟩
  · rw [List.length_map]; omega
  · omega
  · rw [he, List.length_map]
  · rw [hw, List.length_map]
    unfold Lib.cellsOf
    rw [List.map_map]
    rfl
end

end Go.Proofs.YtnfallkeicehiaaDoor
