/- The premise of layer 7 on the program's variables: the tables of unicode/utf8 and the powers of ten lie as their texts lay them, the cell of internal/bytealg.MaxLen holds some number, strconv's two errors lie in theirs. The library's functions as package field calls them. -/
import Derived.Test.YtjajihemcaihmaaGreatDoorShelf
import Derived.Test.YtjajihemcaihmaaGreatDoorPL07
import Derived.Test.YtjajihemcaihmaaGreatDoorTValid
import Derived.Lib.LaidTab
import Derived.Lib.ConvBytes
import Derived.Lib.AtoiAllMem
namespace Go.Proofs.YtjajihemcaihmaaGreatDoor
open Go.RowKit

theorem Grow_below (w : World) (k : Nat) (os : Array Obj) : Below w.heap.size w (Sort.grow (w.drewN k) os) :=
  ⟨rfl, rfl, rfl, by simp [Sort.grow], fun i hi => Sort.heap_grow_old (w.drewN k) os hi⟩
theorem bytes_below (w : World) (e : TypeId) (s : ByteArray) : Below w.heap.size w (Lib.bytesWorld w e s) :=
  ⟨rfl, rfl, rfl, by rw [Lib.bytesWorld_size]; omega, fun i hi => Lib.bytesWorld_at_old w e s i hi⟩
theorem drewN_below (w : World) (n : Nat) : Below w.heap.size w (w.drewN n) := ⟨rfl, rfl, rfl, Nat.le_refl _, fun _ _ => rfl⟩

structure Env (w : World) : Prop where
  tabs : Tabs w
  pows : Lib.TabIs Tryz.prog w "internal/strconv.uint64pow10" .u64 Lib.pow10Tab
  most : ∃ m, w.cell? ⟨0, 0, none⟩ = some (.int .i64 m)
  syn : ∃ ev, w.cell? ⟨3, 0, none⟩ = some ev ∧ (ev = .nilIface ∨ ∃ te pe, ev = .iface te pe)
  ran : ∃ ev, w.cell? ⟨4, 0, none⟩ = some ev ∧ (ev = .nilIface ∨ ∃ te pe, ev = .iface te pe)
theorem tabIs_below {w w' : World} {n : String} {k : IntKind} {zs : List Int} (h : Lib.TabIs Tryz.prog w n k zs) (hb : Below w.heap.size w w') : Lib.TabIs Tryz.prog w' n k zs := by
  unfold Lib.TabIs World.var? at *
  cases hg : Tryz.prog.globalNamed n with
  | none => simp [hg] at h
  | some g =>
    simp only [hg, Option.bind_some] at h ⊢
    have hlt : g < w.heap.size := by
      rcases Nat.lt_or_ge g w.heap.size with h' | h'
      · exact h'
      · rw [Array.getElem?_eq_none h'] at h; simp at h
    rw [hb.block g hlt]
    exact h
theorem cell_below {w w' : World} {g : Nat} {v : Value} (h : w.cell? ⟨g, 0, none⟩ = some v) (hb : Below w.heap.size w w') : w'.cell? ⟨g, 0, none⟩ = some v := by
  have hlt : g < w.heap.size := by
    rcases Nat.lt_or_ge g w.heap.size with h' | h'
    · exact h'
    · simp [World.cell?, Array.getElem?_eq_none h'] at h
  exact (hb.cell (p := ⟨g, 0, none⟩) hlt).trans h
theorem Env.after {w w' : World} (h : Env w) (hb : Below w.heap.size w w') : Env w' := by
  obtain ⟨h1, h2, ⟨m, hm⟩, ⟨e1, h3, h4⟩, ⟨e2, h5, h6⟩⟩ := h
  exact ⟨h1.after hb, tabIs_below h2 hb, ⟨m, cell_below hm hb⟩, ⟨e1, cell_below h3 hb, h4⟩, ⟨e2, cell_below h5 hb, h6⟩⟩

/-- text.Valid. -/
theorem cValid (l : List UInt8) (hz : l.length ≤ 1000000) (b : Bool) (hb : validT l = b) (w : World) (hE : Env w) :
    Calls Tryz.prog 48 #[.string (S l)] w fun e w' => e = .returned (.bool b) ∧ Below w.heap.size w w' :=
  valid_is (S l) b hb (by rw [S_size]; omega) w hE.tabs
/-- strconv.Itoa at a number that is not negative. -/
theorem cItoa (n : Nat) (h : n ≤ 99999) (w : World) (hE : Env w) :
    Calls Tryz.prog 19 #[.int .i64 (n : Int)] w fun e w' => e = .returned (.string (S (Lib.decDigits n))) ∧ Below w.heap.size w w' :=
  (Tryz.strconv_Itoa (n : Int) (by omega) (by omega) w hE.pows).mono fun e w' hh => by
    obtain ⟨he, k, os, rfl⟩ := hh
    refine ⟨?_, Grow_below w k os⟩
    rw [he, Lib.itoa, if_neg (by omega), Int.toNat_natCast]
    rfl
/-- strconv.Atoi at every text. -/
theorem cAtoi (l : List UInt8) (hz : l.length ≤ 1000000) (w : World) (hE : Env w) :
    Calls Tryz.prog 34 #[.string (S l)] w fun e w' => ∃ er, e = .returned (.tuple #[.int .i64 (atoiV l), er]) ∧ Below w.heap.size w w' := by
  have hs : (S l).size ≤ 1000000 := by rw [S_size]; exact hz
  unfold atoiV
  obtain ⟨r, ha⟩ : ∃ r, Lib.atoiAll l = r := ⟨_, rfl⟩
  rw [ha]
  by_cases h1 : ∃ v, r = .ok v
  · obtain ⟨v, rfl⟩ := h1
    refine (Tryz.strconv_Atoi_ok (S l) (by omega) v ha w).mono fun e w' hh => ?_
    obtain ⟨he, hw⟩ := hh
    refine ⟨_, he, ?_⟩
    rcases hw with rfl | ⟨t, rfl⟩
    · exact Below.refl _ _
    · exact bytes_below _ _ _
  by_cases h2 : r = .range
  · subst h2
    obtain ⟨ev, g1, g2⟩ := hE.ran
    refine (Tryz.strconv_Atoi_range (S l) (by omega) ha ev w g1 g2).mono fun e w' hh => ?_
    obtain ⟨N, he, _, _, hb⟩ := hh
    exact ⟨_, he, hb⟩
  · obtain ⟨ev, g1, g2⟩ := hE.syn
    refine (Tryz.strconv_Atoi_syntax (S l) (by omega) ⟨fun v hv => h1 ⟨v, ha.symm.trans hv⟩, fun hv => h2 (ha.symm.trans hv)⟩ ev w g1 g2).mono fun e w' hh => ?_
    obtain ⟨N, he, _, _, hb⟩ := hh
    cases r
    case ok v => exact (h1 ⟨v, rfl⟩).elim
    case range => exact (h2 rfl).elim
    exact ⟨_, he, hb⟩
theorem count_le' (l d : List UInt8) : Lib.countB (S l) (S d) ≤ l.length + 1 := Lib.count_le l d
theorem cReplace (l old new r : List UInt8) (h0 : 1 ≤ old.length) (h2 : new.length ≤ 2) (hz : l.length ≤ 1000000) (hr : Lib.replaceAll l old new = r) (w : World) (hE : Env w) :
    Calls Tryz.prog 20 #[.string (S l), .string (S old), .string (S new)] w fun e w' => e = .returned (.string (S r)) ∧ Below w.heap.size w w' := by
  obtain ⟨m, hm⟩ := hE.most
  have hc := count_le' l old
  have hmul : Lib.countB (S l) (S old) * (S new).size ≤ (l.length + 1) * 2 := Nat.mul_le_mul hc (by rw [S_size]; exact h2)
  have h := Tryz.strings_ReplaceAll (S l) (S old) (S new) m w (by rw [S_size]; omega) hm (by rw [S_size]; exact h0) (by rw [S_size l]; omega)
  rw [show (S l).data.toList = l from rfl, show (S old).data.toList = old from rfl, show (S new).data.toList = new from rfl, hr] at h
  exact h
/-- A blank by nothing. -/
theorem cStrike (l : List UInt8) (hz : l.length ≤ 1000000) (w : World) (hE : Env w) :
    Calls Tryz.prog 20 #[.string (S l), .string ⟨#[32]⟩, .string ⟨#[]⟩] w fun e w' => e = .returned (.string (S (subL 32 [] l))) ∧ Below w.heap.size w w' :=
  cReplace l [32] [] _ (by simp) (by simp) hz (sub_all 32 [] l (by simp)) w hE
/-- A blank by a mark. -/
theorem cMark (l : List UInt8) (hz : l.length ≤ 1000000) (w : World) (hE : Env w) :
    Calls Tryz.prog 20 #[.string (S l), .string ⟨#[32]⟩, .string ⟨#[35]⟩] w fun e w' => e = .returned (.string (S (subL 32 [35] l))) ∧ Below w.heap.size w w' :=
  cReplace l [32] [35] _ (by simp) (by simp) hz (sub_all 32 [35] l (by simp)) w hE
/-- A mark by a blank. -/
theorem cUnmark (l : List UInt8) (hz : l.length ≤ 1000000) (w : World) (hE : Env w) :
    Calls Tryz.prog 20 #[.string (S l), .string ⟨#[35]⟩, .string ⟨#[32]⟩] w fun e w' => e = .returned (.string (S (l.map unB))) ∧ Below w.heap.size w w' :=
  cReplace l [35] [32] _ (by simp) (by simp) hz ((sub_all 35 [32] l (by simp)).trans (sub_un l)) w hE
/-- A dollar by two. -/
theorem cDouble (l : List UInt8) (hz : l.length ≤ 1000000) (w : World) (hE : Env w) :
    Calls Tryz.prog 20 #[.string (S l), .string ⟨#[36]⟩, .string ⟨#[36, 36]⟩] w fun e w' => e = .returned (.string (S (dblL l))) ∧ Below w.heap.size w w' :=
  cReplace l [36] [36, 36] _ (by simp) (by simp) hz ((sub_all 36 [36, 36] l (by simp)).trans (sub_dbl l)) w hE
/-- Two dollars by one. -/
theorem cHalve (l : List UInt8) (hz : l.length ≤ 1000000) (w : World) (hE : Env w) :
    Calls Tryz.prog 20 #[.string (S l), .string ⟨#[36, 36]⟩, .string ⟨#[36]⟩] w fun e w' => e = .returned (.string (S (halveL l))) ∧ Below w.heap.size w w' :=
  cReplace l [36, 36] [36] _ (by simp) (by simp) hz rfl w hE
/-- strings.Cut at a byte. -/
theorem cCut (l : List UInt8) (c : UInt8) (hz : l.length ≤ 1000000) (a b : List UInt8) (t : Bool) (h : Lib.cut l [c] = (a, b, t)) (w : World) (hE : Env w) :
    Calls Tryz.prog 33 #[.string (S l), .string (S [c])] w fun e w' => e = .returned (.tuple #[.string (S a), .string (S b), .bool t]) ∧ Below w.heap.size w w' := by
  obtain ⟨m, hm⟩ := hE.most
  refine (Tryz.strings_Cut (S l) (S [c]) m w (by rw [S_size]; omega) hm).mono fun e w' hh => ?_
  obtain ⟨he, n, rfl⟩ := hh
  refine ⟨?_, drewN_below w n⟩
  rw [he, show (S l).data.toList = l from rfl, show (S [c]).data.toList = [c] from rfl, h]
  rfl
/-- strings.IndexByte. -/
theorem cIndex (l : List UInt8) (c : UInt8) (w : World) :
    Calls Tryz.prog 27 #[.string (S l), .int .u8 (c.toNat : Int)] w fun e w' => e = .returned (.int .i64 (Lib.indexByte l c)) ∧ w' = w := by
  have h := Tryz.strings_IndexByte (S l) (c.toNat : Int) w
  have e : ((c.toNat : Int)).toNat.toUInt8 = c := by simp
  rw [e] at h
  exact h
/-- strings.HasPrefix. -/
theorem cPrefix (l p : List UInt8) (b : Bool) (hb : Lib.hasPrefix l p = b) (w : World) :
    Calls Tryz.prog 71 #[.string (S l), .string (S p)] w fun e w' => e = .returned (.bool b) ∧ w' = w := by
  have h := Tryz.strings_HasPrefix (S l) (S p) w
  rw [show (S l).data.toList = l from rfl, show (S p).data.toList = p from rfl, hb] at h
  exact h
theorem joinK_small (L : List (List UInt8)) (hL : ∀ i, (L.getD i []).length ≤ 1000000) (hn : L.length ≤ 1000) : (joinK [32] L L.length).length ≤ 2000000000 := by
  have := joinK_le [32] L (by simp) hL L.length
  have h2 : L.length * 1001000 ≤ 1000 * 1001000 := Nat.mul_le_mul_right _ hn
  omega
/-- strings.Join with a blank. -/
theorem cJoin (v : Value) (L : List (List UInt8)) (w : World) (hv : BL v L w) (hL : ∀ i, (L.getD i []).length ≤ 1000000) (hn : L.length ≤ 1000) :
    Calls Tryz.prog 28 #[v, .string ⟨#[32]⟩] w fun e w' => e = .returned (.string (S (joinK [32] L L.length))) ∧ Below w.heap.size w w' := by
  have hjs := joinK_small L hL hn
  obtain ⟨a, cap, rfl, hcap, hmax, hn0, hcell⟩ := hv
  by_cases h0 : L.length = 0
  · have : L = [] := List.eq_nil_of_length_eq_zero h0
    subst this
    refine (Tryz.strings_Join_none a cap ⟨#[32]⟩ w).mono fun e w' hh => ?_
    obtain ⟨he, rfl⟩ := hh
    exact ⟨he, Below.refl _ _⟩
  · obtain ⟨g, o, rfl, hg, _⟩ := hcell 0 (by omega)
    have hmap : (L.map S).map (·.data.toList) = L := by
      rw [List.map_map]
      conv => rhs; rw [← List.map_id L]
      exact List.map_congr_left fun x _ => rfl
    have h := Tryz.strings_Join g o cap (L.map S) ⟨#[32]⟩ w (fun j x hx => by
      have hj : j < L.length := by
        have := (List.getElem?_eq_some_iff.1 hx).1
        rwa [List.length_map] at this
      obtain ⟨g', o', he, _, hc⟩ := hcell j hj
      simp only [Option.some.injEq, Addr.mk.injEq] at he
      obtain ⟨rfl, rfl, _⟩ := he
      rw [hc]
      rw [List.getElem?_map, List.getElem?_eq_getElem hj] at hx
      simp only [Option.map_some, Option.some.injEq] at hx
      rw [← hx, List.getD_eq_getElem?_getD, List.getElem?_eq_getElem hj]
      rfl) hg (by rw [List.length_map]; omega) (by rw [List.length_map]; exact hcap) (by
        rw [hmap, show (⟨#[32]⟩ : ByteArray).data.toList = [32] from rfl, join_plain]
        omega)
    rw [List.length_map, hmap, show (⟨#[32]⟩ : ByteArray).data.toList = [32] from rfl, join_plain] at h
    exact h
end Go.Proofs.YtjajihemcaihmaaGreatDoor
