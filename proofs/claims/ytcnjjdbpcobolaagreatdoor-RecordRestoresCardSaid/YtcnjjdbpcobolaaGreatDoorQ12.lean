/- Merged: Env07, FE07, FD07. -/
import Derived.Test.YtcnjjdbpcobolaaGreatDoorShelf
import Derived.Test.YtcnjjdbpcobolaaGreatDoorQ10
import Derived.Test.YtcnjjdbpcobolaaGreatDoorQ11
import Derived.Lib.LaidTab
import Derived.Lib.ConvBytes
import Derived.Lib.AtoiAllMem
import Derived.Test.YtcnjjdbpcobolaaGreatDoorQ03
import Derived.Test.YtcnjjdbpcobolaaGreatDoorQ05
namespace Go.Proofs.YtcnjjdbpcobolaaGreatDoor

section
open Go.RowKit
theorem Grow_below (w : World) (k : Nat) (os : Array Obj) : Below w.heap.size w (Sort.grow (w.drewN k) os) :=
  ⟨rfl, rfl, rfl, by simp [Sort.grow], fun i hi => Sort.heap_grow_old (w.drewN k) os hi⟩
theorem bytes_below (w : World) (e : TypeId) (s : ByteArray) : Below w.heap.size w (Lib.bytesWorld w e s) :=
  ⟨rfl, rfl, rfl, by rw [Lib.bytesWorld_size]; omega, fun i hi => Lib.bytesWorld_at_old w e s i hi⟩
theorem drewN_below (w : World) (n : Nat) : Below w.heap.size w (w.drewN n) := ⟨rfl, rfl, rfl, Nat.le_refl _, fun _ _ => rfl⟩

structure Env (w : World) : Prop where
  tabs : Tabs w
  most : ∃ m, w.cell? ⟨1, 0, none⟩ = some (.int .i64 m)
  syn : ∃ ev, w.cell? ⟨4, 0, none⟩ = some ev ∧ (ev = .nilIface ∨ ∃ te pe, ev = .iface te pe)
  ran : ∃ ev, w.cell? ⟨5, 0, none⟩ = some ev ∧ (ev = .nilIface ∨ ∃ te pe, ev = .iface te pe)
theorem tabIs_below {w w' : World} {n : String} {k : IntKind} {zs : List Int} (h : Lib.TabIs Tryz.prog w n k zs) (hb : Below w.heap.size w w') : Lib.TabIs Tryz.prog w' n k zs := by
  unfold Lib.TabIs World.var? at *
  cases hg : Tryz.prog.globalNamed n with
  | none => simp [hg] at h
  | some g =>
    simp only [hg, Option.bind_some] at h ⊢
    have hlt : g < w.heap.size := by
      rcases Nat.lt_or_ge g w.heap.size with h' | h'
      · exact h'
      · rw [Array.getElem?_eq_none h'] at h; simp at h
    rw [hb.block g hlt]
    exact h
theorem cell_below {w w' : World} {g : Nat} {v : Value} (h : w.cell? ⟨g, 0, none⟩ = some v) (hb : Below w.heap.size w w') : w'.cell? ⟨g, 0, none⟩ = some v := by
  have hlt : g < w.heap.size := by
    rcases Nat.lt_or_ge g w.heap.size with h' | h'
    · exact h'
    · simp [World.cell?, Array.getElem?_eq_none h'] at h
  exact (hb.cell (p := ⟨g, 0, none⟩) hlt).trans h
theorem Env.after {w w' : World} (h : Env w) (hb : Below w.heap.size w w') : Env w' := by
  obtain ⟨h1, ⟨m, hm⟩, ⟨e1, h3, h4⟩, ⟨e2, h5, h6⟩⟩ := h
  exact ⟨h1.after hb, ⟨m, cell_below hm hb⟩, ⟨e1, cell_below h3 hb, h4⟩, ⟨e2, cell_below h5 hb, h6⟩⟩

/-- text.Valid. -/
theorem cValid (l : List UInt8) (hz : l.length ≤ 1000000) (b : Bool) (hb : validT l = b) (w : World) (hE : Env w) :
    Calls Tryz.prog 101 #[.string (S l)] w fun e w' => e = .returned (.bool b) ∧ Below w.heap.size w w' :=
  valid_is (S l) b hb (by rw [S_size]; omega) w hE.tabs
/-- strconv.Atoi at every text. -/
theorem cAtoi (l : List UInt8) (hz : l.length ≤ 1000000) (w : World) (hE : Env w) :
    Calls Tryz.prog 94 #[.string (S l)] w fun e w' => ∃ er, e = .returned (.tuple #[.int .i64 (atoiV l), er]) ∧ Below w.heap.size w w' := by
  have hs : (S l).size ≤ 1000000 := by rw [S_size]; exact hz
  unfold atoiV
  obtain ⟨r, ha⟩ : ∃ r, Lib.atoiAll l = r := ⟨_, rfl⟩
  rw [ha]
  by_cases h1 : ∃ v, r = .ok v
  · obtain ⟨v, rfl⟩ := h1
    refine (Tryz.strconv_Atoi_ok (S l) (by omega) v ha w).mono fun e w' hh => ?_
    obtain ⟨he, hw⟩ := hh
    refine ⟨_, he, ?_⟩
    rcases hw with rfl | ⟨t, rfl⟩
    · exact Below.refl _ _
    · exact bytes_below _ _ _
  by_cases h2 : r = .range
  · subst h2
    obtain ⟨ev, g1, g2⟩ := hE.ran
    refine (Tryz.strconv_Atoi_range (S l) (by omega) ha ev w g1 g2).mono fun e w' hh => ?_
    obtain ⟨N, he, _, _, hb⟩ := hh
    exact ⟨_, he, hb⟩
  · obtain ⟨ev, g1, g2⟩ := hE.syn
    refine (Tryz.strconv_Atoi_syntax (S l) (by omega) ⟨fun v hv => h1 ⟨v, ha.symm.trans hv⟩, fun hv => h2 (ha.symm.trans hv)⟩ ev w g1 g2).mono fun e w' hh => ?_
    obtain ⟨N, he, _, _, hb⟩ := hh
    cases r
    case ok v => exact (h1 ⟨v, rfl⟩).elim
    case range => exact (h2 rfl).elim
    exact ⟨_, he, hb⟩
theorem count_le' (l d : List UInt8) : Lib.countB (S l) (S d) ≤ l.length + 1 := Lib.count_le l d
theorem cReplace (l old new r : List UInt8) (h0 : 1 ≤ old.length) (h2 : new.length ≤ 2) (hz : l.length ≤ 1000000) (hr : Lib.replaceAll l old new = r) (w : World) (hE : Env w) :
    Calls Tryz.prog 66 #[.string (S l), .string (S old), .string (S new)] w fun e w' => e = .returned (.string (S r)) ∧ Below w.heap.size w w' := by
  obtain ⟨m, hm⟩ := hE.most
  have hc := count_le' l old
  have hmul : Lib.countB (S l) (S old) * (S new).size ≤ (l.length + 1) * 2 := Nat.mul_le_mul hc (by rw [S_size]; exact h2)
  have h := Tryz.strings_ReplaceAll (S l) (S old) (S new) m w (by rw [S_size]; omega) hm (by rw [S_size]; exact h0) (by rw [S_size l]; omega)
  rw [show (S l).data.toList = l from rfl, show (S old).data.toList = old from rfl, show (S new).data.toList = new from rfl, hr] at h
  exact h
/-- A blank by nothing. -/
theorem cStrike (l : List UInt8) (hz : l.length ≤ 1000000) (w : World) (hE : Env w) :
    Calls Tryz.prog 66 #[.string (S l), .string ⟨#[32]⟩, .string ⟨#[]⟩] w fun e w' => e = .returned (.string (S (subL 32 [] l))) ∧ Below w.heap.size w w' :=
  cReplace l [32] [] _ (by simp) (by simp) hz (sub_all 32 [] l (by simp)) w hE
/-- A blank by a mark. -/
theorem cMark (l : List UInt8) (hz : l.length ≤ 1000000) (w : World) (hE : Env w) :
    Calls Tryz.prog 66 #[.string (S l), .string ⟨#[32]⟩, .string ⟨#[35]⟩] w fun e w' => e = .returned (.string (S (subL 32 [35] l))) ∧ Below w.heap.size w w' :=
  cReplace l [32] [35] _ (by simp) (by simp) hz (sub_all 32 [35] l (by simp)) w hE
/-- A mark by a blank. -/
theorem cUnmark (l : List UInt8) (hz : l.length ≤ 1000000) (w : World) (hE : Env w) :
    Calls Tryz.prog 66 #[.string (S l), .string ⟨#[35]⟩, .string ⟨#[32]⟩] w fun e w' => e = .returned (.string (S (l.map unB))) ∧ Below w.heap.size w w' :=
  cReplace l [35] [32] _ (by simp) (by simp) hz ((sub_all 35 [32] l (by simp)).trans (sub_un l)) w hE
/-- A dollar by two. -/
theorem cDouble (l : List UInt8) (hz : l.length ≤ 1000000) (w : World) (hE : Env w) :
    Calls Tryz.prog 66 #[.string (S l), .string ⟨#[36]⟩, .string ⟨#[36, 36]⟩] w fun e w' => e = .returned (.string (S (dblL l))) ∧ Below w.heap.size w w' :=
  cReplace l [36] [36, 36] _ (by simp) (by simp) hz ((sub_all 36 [36, 36] l (by simp)).trans (sub_dbl l)) w hE
/-- Two dollars by one. -/
theorem cHalve (l : List UInt8) (hz : l.length ≤ 1000000) (w : World) (hE : Env w) :
    Calls Tryz.prog 66 #[.string (S l), .string ⟨#[36, 36]⟩, .string ⟨#[36]⟩] w fun e w' => e = .returned (.string (S (halveL l))) ∧ Below w.heap.size w w' :=
  cReplace l [36, 36] [36] _ (by simp) (by simp) hz rfl w hE
/-- strings.IndexByte. -/
theorem cIndex (l : List UInt8) (c : UInt8) (w : World) :
    Calls Tryz.prog 91 #[.string (S l), .int .u8 (c.toNat : Int)] w fun e w' => e = .returned (.int .i64 (Lib.indexByte l c)) ∧ w' = w := by
  have h := Tryz.strings_IndexByte (S l) (c.toNat : Int) w
  have e : ((c.toNat : Int)).toNat.toUInt8 = c := by simp
  rw [e] at h
  exact h
/-- strings.HasPrefix. -/
theorem cPrefix (l p : List UInt8) (b : Bool) (hb : Lib.hasPrefix l p = b) (w : World) :
    Calls Tryz.prog 43 #[.string (S l), .string (S p)] w fun e w' => e = .returned (.bool b) ∧ w' = w := by
  have h := Tryz.strings_HasPrefix (S l) (S p) w
  rw [show (S l).data.toList = l from rfl, show (S p).data.toList = p from rfl, hb] at h
  exact h
theorem joinK_small (L : List (List UInt8)) (hL : ∀ i, (L.getD i []).length ≤ 1000000) (hn : L.length ≤ 1000) : (joinK [32] L L.length).length ≤ 2000000000 := by
  have := joinK_le [32] L (by simp) hL L.length
  have h2 : L.length * 1001000 ≤ 1000 * 1001000 := Nat.mul_le_mul_right _ hn
  omega
/-- strings.Join with a blank. -/
theorem cJoin (v : Value) (L : List (List UInt8)) (w : World) (hv : BL v L w) (hL : ∀ i, (L.getD i []).length ≤ 1000000) (hn : L.length ≤ 1000) :
    Calls Tryz.prog 63 #[v, .string ⟨#[32]⟩] w fun e w' => e = .returned (.string (S (joinK [32] L L.length))) ∧ Below w.heap.size w w' := by
  have hjs := joinK_small L hL hn
  obtain ⟨a, cap, rfl, hcap, hmax, hn0, hcell⟩ := hv
  by_cases h0 : L.length = 0
  · have : L = [] := List.eq_nil_of_length_eq_zero h0
    subst this
    refine (Tryz.strings_Join_none a cap ⟨#[32]⟩ w).mono fun e w' hh => ?_
    obtain ⟨he, rfl⟩ := hh
    exact ⟨he, Below.refl _ _⟩
  · obtain ⟨g, o, rfl, hg, _⟩ := hcell 0 (by omega)
    have hmap : (L.map S).map (·.data.toList) = L := by
      rw [List.map_map]
      conv => rhs; rw [← List.map_id L]
      exact List.map_congr_left fun x _ => rfl
    have h := Tryz.strings_Join g o cap (L.map S) ⟨#[32]⟩ w (fun j x hx => by
      have hj : j < L.length := by
        have := (List.getElem?_eq_some_iff.1 hx).1
        rwa [List.length_map] at this
      obtain ⟨g', o', he, _, hc⟩ := hcell j hj
      simp only [Option.some.injEq, Addr.mk.injEq] at he
      obtain ⟨rfl, rfl, _⟩ := he
      rw [hc]
      rw [List.getElem?_map, List.getElem?_eq_getElem hj] at hx
      simp only [Option.map_some, Option.some.injEq] at hx
      rw [← hx, List.getD_eq_getElem?_getD, List.getElem?_eq_getElem hj]
      rfl) hg (by rw [List.length_map]; omega) (by rw [List.length_map]; exact hcap) (by
        rw [hmap, show (⟨#[32]⟩ : ByteArray).data.toList = [32] from rfl, join_plain]
        omega)
    rw [List.length_map, hmap, show (⟨#[32]⟩ : ByteArray).data.toList = [32] from rfl, join_plain] at h
    exact h
end

section
open Go.RowKit Go.PlainAid
/-- A function value that looks for codes. -/
def CA (codes : List UInt8) (v : Value) (W : World) : Prop :=
  ∃ b, v = .func (.func 90) #[] #[.pointer (some ⟨b, 0, none⟩)] ∧ b < W.heap.size ∧ W.cell? ⟨b, 0, none⟩ = some (.string (S codes))
theorem CA.after {c : List UInt8} {v : Value} {W W' : World} (h : CA c v W) (hb : Below W.heap.size W W') : CA c v W' := by
  obtain ⟨b, rfl, h1, h2⟩ := h
  exact ⟨b, rfl, Nat.lt_of_lt_of_le h1 hb.size, (hb.cell (p := ⟨b, 0, none⟩) h1).trans h2⟩

set_option maxHeartbeats 4000000 in
theorem allIn_any (codes : List UInt8) (s : Sub) (b : Nat) (w : World) (hb : b < w.heap.size) (hc : w.cell? ⟨b, 0, none⟩ = some (.string (S codes))) (r : Bool) (hr : inB s.1 codes = r) :
    Calls Tryz.prog 90 #[.agg #[.int .u8 (s.1.toNat : Int), .string (S s.2)], .pointer (some ⟨b, 0, none⟩)] w fun e w' => e = .returned (.bool r) ∧ Below w.heap.size w w' := by
  have b0 := (Below.refl w.heap.size w).alloc (Nat.le_refl _) (.cells #[.int .u8 (s.1.toNat : Int), .string (S s.2)] 54)
  have hc' := (b0.cell (p := ⟨b, 0, none⟩) hb).trans hc
  have hne : b ≠ w.heap.size := Nat.ne_of_lt hb
  by_cases h0 : codes = []
  · subst h0
    obtain rfl : r = true := by rw [← hr]; unfold inB; simp
    have hE : (S []).toList.isEmpty = true := by rw [ByteArray.toList_eq]; rfl
    have hE2 : (S []).toList = [] := by rw [ByteArray.toList_eq]; rfl
    clear hr hc
    generalize S [] = cs at *
    generalize ((s.1.toNat : Nat) : Int) = x at *
    generalize S s.2 = t at *
    go_enter Tryz.func90, Tryz.ntmps90
    go_wp2
    go_ret
    exact ⟨rfl, b0⟩
  · obtain ⟨hE, hE2⟩ := S_facts codes h0
    have cI := Lib.hid (fun W => cIndex codes s.1 W)
    have hrr : decide (0 ≤ Lib.indexByte codes s.1) = r := by
      rw [index_in, ← hr]
      unfold inB
      rw [decide_eq_false h0, Bool.or_false]
    clear hr hc h0
    generalize Lib.indexByte codes s.1 = ix at *
    generalize S codes = cs at *
    generalize ((s.1.toNat : Nat) : Int) = x at *
    generalize S s.2 = t at *
    go_enter Tryz.func90, Tryz.ntmps90
    go_wp2_with fail
    refine (cI.out _).mono ?_
    rintro e w1 ⟨rfl, rfl⟩
    go_wp2
    go_ret
    exact ⟨rfl, b0⟩

set_option maxHeartbeats 8000000 in
set_option maxRecDepth 100000 in
theorem values_any (f : Fld) (u fv : Value) (w : World) (hu : QL u f.subs w) (codes : List UInt8) (hf : CA codes fv w) (hs : f.subs.length ≤ 100000) :
    Calls Tryz.prog 89 #[FV f u, fv] w fun e w' => ∃ v', e = .returned v' ∧ BL v' (allL f.subs codes) w' ∧ Below w.heap.size w w' := by
  obtain ⟨a, cap, rfl, hcap, hmax, _, hcell⟩ := hu
  obtain ⟨bc, rfl, hbc, hbcell⟩ := hf
  unfold maxLen at hmax
  unfold FV
  obtain ⟨n, hn⟩ : ∃ n, f.subs.length = n := ⟨_, rfl⟩
  have HCell := Lib.hid hcell
  rw [hn] at hcap hs ⊢
  have HN := Lib.hid hn
  clear hcell hn
  obtain ⟨W0, hW0⟩ : ∃ W0, w.alloc (.cells #[.string (S f.tag), .string (S f.ind), .slice a n cap, .int .i64 f.auth] 35) = W0 := ⟨_, rfl⟩
  have b0 : Below w.heap.size w W0 := by rw [← hW0]; exact (Below.refl w.heap.size w).alloc (Nat.le_refl _) _
  have k2 : W0.cell? ⟨w.heap.size, 2, none⟩ = some (.slice a n cap) := by rw [← hW0]; simp
  have hbc0 : bc < W0.heap.size := Nat.lt_of_lt_of_le hbc b0.size
  have hbcell0 := (b0.cell (p := ⟨bc, 0, none⟩) hbc).trans hbcell
  have cI := Lib.hid (fun (s : Sub) (W : World) (h : Below W0.heap.size W0 W) r hr => allIn_any codes s bc W (Nat.lt_of_lt_of_le hbc0 h.size) ((h.cell (p := ⟨bc, 0, none⟩) hbc0).trans hbcell0) r hr)
  clear hbcell hbcell0
  obtain ⟨i0, hi, hz0, hz1, hz2⟩ := info_string
  have HZ0 := Lib.hid hz0
  have HZ1 := Lib.hid hz1
  have HZ2 := Lib.hid hz2
  have HI := Lib.hid hi
  clear hi hz0 hz1 hz2
  have HW0 := Lib.hid hW0
  clear hW0
  go_enter Tryz.func89, Tryz.ntmps89
  go_wp2
  rw [HW0.out]
  go_loopw [5, 11] (fun v i wr => ∃ k : Nat, k ≤ n ∧ i = .int .i64 (k : Int) ∧ wr.ownsRow W0.heap.size 9 1 v (allL (f.subs.take k) codes).length ((allL (f.subs.take k) codes).map strB) ∧ Below W0.heap.size W0 wr) (fun _ i _ => n - (intOf i).toNat)
  case atStart => exact ⟨0, Nat.zero_le _, rfl, World.ownsRow_nil _ _ _ _, Below.refl _ _⟩
  case round =>
    obtain ⟨k, hk, rfl, hown, hbw⟩ := hrel
    by_cases hkn : k < n
    · obtain ⟨g, o, rfl, hg, c1, c2⟩ := HCell.out k (by rw [HN.out]; exact hkn)
      have hg0 : g < W0.heap.size := Nat.lt_of_lt_of_le hg b0.size
      have c1 : wr.cell? ⟨g, o + k * 2, none⟩ = some (.int .u8 ((f.subs.getD k sub0).1.toNat : Int)) := ((hbw.cell (p := ⟨g, o + k * 2, none⟩) hg0).trans (b0.cell (p := ⟨g, o + k * 2, none⟩) hg)).trans c1
      have c2 : wr.cell? ⟨g, o + k * 2 + 1, none⟩ = some (.string (S (f.subs.getD k sub0).2)) := ((hbw.cell (p := ⟨g, o + k * 2 + 1, none⟩) hg0).trans (b0.cell (p := ⟨g, o + k * 2 + 1, none⟩) hg)).trans c2
      have i1 : (0 : Int) ≤ (k : Int) := by omega
      have i2 : (k : Int) < (n : Int) := by omega
      have hsn := allL_snoc f.subs codes k (by rw [HN.out]; exact hkn)
      have hll : (allL (f.subs.take k) codes).length ≤ k := Nat.le_trans (allL_length _ _) (by rw [List.length_take]; omega)
      have hsz := hbw.size
      have cI2 := Lib.hid (fun W h r hr => cI.out (f.subs.getD k sub0) W h r hr)
      generalize allL (f.subs.take k) codes = M at hown hsn hll
      generalize f.subs.getD k sub0 = sb at c1 c2 hsn cI2
      have ha := hbw.alloc hsz (.cells #[.int .u8 (sb.1.toNat : Int), .string (S sb.2)] 54)
      have hown1 := hown.alloc (.cells #[.int .u8 (sb.1.toNat : Int), .string (S sb.2)] 54)
      obtain ⟨wa, hwa⟩ : ∃ wa, wr.alloc (.cells #[.int .u8 (sb.1.toNat : Int), .string (S sb.2)] 54) = wa := ⟨_, rfl⟩
      have hbx : wa.cell? ⟨wr.heap.size, 0, none⟩ = some (.int .u8 (sb.1.toNat : Int)) ∧ wa.cell? ⟨wr.heap.size, 1, none⟩ = some (.string (S sb.2)) ∧ wr.heap.size < wa.heap.size := by rw [← hwa]; simp
      rw [hwa] at ha hown1
      have HWA := Lib.hid hwa
      have HA := Lib.hid ha
      have HBX := Lib.hid hbx
      have HOwn1 := Lib.hid hown1
      clear hwa ha hbx hown hown1
      cases hin : inB sb.1 codes
      · have cC := cI2.out wa HA.out false hin
        rw [hin, if_neg (fun h => by cases h), List.append_nil] at hsn
        have HS := Lib.hid hsn
        clear hsn hin hbw
        generalize ((sb.1.toNat : Nat) : Int) = y at *
        generalize S sb.2 = x at *
        go_wp2_with fail
        rw [HWA.out]
        refine cC.mono ?_
        rintro e w5 ⟨rfl, hb5⟩
        have hb6 := HA.out.trans (hb5.mono HA.out.size)
        have hown5 := own_after HOwn1.out hb5
        go_wp2
        go_roundw
        case rel => exact ⟨k + 1, by omega, by go_num, by rw [HS.out]; exact hown5, hb6⟩
        case measure => simp [intOf]; omega
      · have cC := cI2.out wa HA.out true hin
        rw [hin, if_pos rfl] at hsn
        have HS := Lib.hid hsn
        obtain ⟨m, hm⟩ : ∃ m, M.length = m := ⟨_, rfl⟩
        obtain ⟨val, hval⟩ : ∃ val, sb.2 = val := ⟨_, rfl⟩
        rw [hval] at cC HS HBX HWA
        have HM := Lib.hid hm
        rw [hm] at hll
        clear hsn hin hbw hm
        rw [hval] at c2
        clear hval
        generalize ((sb.1.toNat : Nat) : Int) = y at *
        go_wp2_with fail
        rw [HWA.out]
        refine cC.mono ?_
        rintro e w5 ⟨rfl, hb5⟩
        have hb6 := HA.out.trans (hb5.mono HA.out.size)
        have hown5 := own_after HOwn1.out hb5
        rw [HM.out] at hown5
        have hown2 := hown5.alloc (.cells #[strB val] 9)
        have e1 := (hb5.cell (p := ⟨wr.heap.size, 1, none⟩) HBX.out.2.2).trans HBX.out.2.1
        have hsz6 := hb6.size
        clear hb5 hown5 c1 c2
        go_wp2_with (at_builtin; refine wpList_append_own _ rfl _ _ 45 rfl W0.heap.size 9 i0 (.string ⟨#[]⟩) 1 16 Tryz.underlying45 HI.out HZ0.out HZ1.out HZ2.out rfl (by decide) _ _ _ rfl hown2 ⟨w5.heap.size, 0, none⟩ 1 1 [strB val] rfl rfl (cells_one _ _ _) (by intro u hu; simp at hu; subst hu; rfl) (by unfold maxLen; omega) (by omega) (by simp; omega) ?_; intro v3 w3 hown3 hgrow3 hnil3)
        go_roundw
        case rel =>
          refine ⟨k + 1, by omega, by go_num, ?_, (hb6.alloc hsz6 _).grown hgrow3 (by simp; omega) (fun j hj => (hown2.lt j hj).1)⟩
          rw [HS.out, List.length_append, HM.out, List.map_append]
          exact hown3
        case measure => simp [intOf]; omega
    · obtain rfl : k = n := by omega
      have hT : f.subs.take k = f.subs := by rw [← HN.out, List.take_length]
      rw [hT] at hown
      have hbl := BL.of_row hown
      have HBL := Lib.hid hbl
      have Fin := Lib.hid (b0.trans (hbw.mono b0.size))
      clear hown hbw hbl hT
      go_wp2
      go_ret
      exact ⟨_, rfl, HBL.out, Fin.out⟩

set_option maxHeartbeats 4000000 in
theorem fAll_any (f : Fld) (u : Value) (w : World) (hu : QL u f.subs w) (codes : List UInt8) (hs : f.subs.length ≤ 100000) :
    Calls Tryz.prog 59 #[FV f u, .string (S codes)] w fun e w' => ∃ v', e = .returned v' ∧ BL v' (allL f.subs codes) w' ∧ Below w.heap.size w w' := by
  have b1 := (Below.refl w.heap.size w).alloc (Nat.le_refl _) (.cells #[.string (S f.tag), .string (S f.ind), u, .int .i64 f.auth] 35)
  have b2 := b1.alloc b1.size (.cells #[.string (S codes)] 9)
  obtain ⟨a, cap, rfl, _, _⟩ := hu.length
  obtain ⟨W0, hW0⟩ : ∃ W0, (w.alloc (.cells #[.string (S f.tag), .string (S f.ind), .slice a f.subs.length cap, .int .i64 f.auth] 35)).alloc (.cells #[.string (S codes)] 9) = W0 := ⟨_, rfl⟩
  have k0 : W0.cell? ⟨w.heap.size, 0, none⟩ = some (.string (S f.tag)) := by rw [← hW0]; simp
  have k1 : W0.cell? ⟨w.heap.size, 1, none⟩ = some (.string (S f.ind)) := by rw [← hW0]; simp
  have k2 : W0.cell? ⟨w.heap.size, 2, none⟩ = some (.slice a f.subs.length cap) := by rw [← hW0]; simp
  have k3 : W0.cell? ⟨w.heap.size, 3, none⟩ = some (.int .i64 f.auth) := by rw [← hW0]; simp
  have hca : CA codes (.func (.func 90) #[] #[.pointer (some ⟨w.heap.size + 1, 0, none⟩)]) W0 := by
    rw [← hW0]
    exact ⟨w.heap.size + 1, rfl, by simp, by simp⟩
  rw [hW0] at b2
  have cV := values_any f _ _ W0 (hu.after b2) codes hca hs
  unfold FV at cV ⊢
  have HW0 := Lib.hid hW0
  clear hW0 hca b1 hu
  generalize f.subs.length = n at *
  go_enter Tryz.func59, Tryz.ntmps59
  go_wp2_with fail
  rw [HW0.out]
  refine cV.mono ?_
  rintro e w1 ⟨v', rfl, h1, h2⟩
  have b3 := b2.trans (h2.mono b2.size)
  go_wp2
  go_ret
  exact ⟨_, rfl, h1, b3⟩

set_option maxHeartbeats 4000000 in
theorem fPlain_any (f : Fld) (u : Value) (w : World) (hu : QL u f.subs w) (codes : List UInt8) (hs : f.subs.length ≤ 1000) (hL : ∀ i, ((allL f.subs codes).getD i []).length ≤ 1000000) :
    Calls Tryz.prog 53 #[FV f u, .string (S codes)] w fun e w' => e = .returned (.string (S (plainL f.subs codes))) ∧ Below w.heap.size w w' := by
  have b0 : Below w.heap.size w (w.alloc (.cells #[.string (S f.tag), .string (S f.ind), u, .int .i64 f.auth] 35)) := (Below.refl w.heap.size w).alloc (Nat.le_refl _) _
  have cA := Lib.hid (fAll_any f u _ (hu.after b0) codes (by omega))
  have hl := allL_length f.subs codes
  have cJ := Lib.hid (fun v W hv => cJoin v (allL f.subs codes) W hv hL (by omega))
  have HB0 := Lib.hid b0
  clear hl b0
  unfold plainL
  unfold FV at cA ⊢
  obtain ⟨a, cap, rfl, _, _⟩ := hu.length
  generalize f.subs.length = n at *
  generalize S codes = cs at *
  go_enter Tryz.func53, Tryz.ntmps53
  go_wp2_with fail
  refine (cA.out).mono ?_
  rintro e w1 ⟨v', rfl, h1, h2⟩
  have b3 := HB0.out.trans (h2.mono HB0.out.size)
  clear h2
  go_wp2_with fail
  refine (cJ.out _ _ h1).mono ?_
  rintro e w2 ⟨rfl, h2⟩
  have b4 := b3.trans (h2.mono b3.size)
  go_wp2
  go_ret
  exact ⟨rfl, b4⟩
end

section
open Go.RowKit Go.PlainAid
set_option maxHeartbeats 16000000 in
theorem equal_any (L M : List Sub) (u v : Value) (w : World) (hu : QL u L w) (hv : QL v M w) (b : Bool) (hb : decide (L = M) = b) :
    Calls Tryz.prog 72 #[u, v] w fun e w' => e = .returned (.bool b) ∧ Below w.heap.size w w' := by
  obtain ⟨a, cap, rfl, hcap, hmax, _, hcell⟩ := hu
  obtain ⟨a', cap', rfl, hcap', hmax', _, hcell'⟩ := hv
  unfold maxLen at hmax hmax'
  obtain ⟨n, hn⟩ : ∃ n, L.length = n := ⟨_, rfl⟩
  obtain ⟨m, hm⟩ : ∃ m, M.length = m := ⟨_, rfl⟩
  have HCell := Lib.hid hcell
  have HCell' := Lib.hid hcell'
  rw [hn] at hcap ⊢
  rw [hm] at hcap' ⊢
  have HN := Lib.hid hn
  have HM := Lib.hid hm
  have HX := Lib.hid (subs_ext L M)
  have HBB := Lib.hid hb
  clear hcell hcell' hn hm hb
  by_cases hnm : n ≠ m
  · have t : ((n : Int) == (m : Int)) = false := by
      rw [beq_eq_false_iff_ne]
      omega
    obtain rfl : b = false := by
      rw [← HBB.out]
      exact decide_eq_false (fun h => hnm (by rw [← HN.out, ← HM.out, h]))
    have hnm' : ¬ (n : Int) = (m : Int) := by omega
    clear hnm
    go_enter Tryz.func72, Tryz.ntmps72
    go_wp2
    go_ret
    exact ⟨rfl, Below.refl _ _⟩
  obtain rfl : n = m := Decidable.not_not.1 hnm
  clear hnm
  go_enter Tryz.func72, Tryz.ntmps72
  go_wp2
  go_loopw [13] (fun i wr => ∃ k : Nat, k ≤ n ∧ i = .int .i64 (k : Int) ∧ RowKit.Hid (∀ j, j < k → L.getD j sub0 = M.getD j sub0) ∧ Below w.heap.size w wr) (fun i _ => n - (intOf i).toNat)
  case atStart => exact ⟨0, Nat.zero_le _, rfl, (fun j hj => by omega), Below.refl _ _⟩
  case round =>
    obtain ⟨k, hk, rfl, HJ, hbw⟩ := hrel
    by_cases hkn : k < n
    · obtain ⟨ga, oa, rfl, hga, c1, c2⟩ := HCell.out k (by rw [HN.out]; exact hkn)
      obtain ⟨gb, ob, rfl, hgb, d1, d2⟩ := HCell'.out k (by rw [HM.out]; exact hkn)
      have c1 := (hbw.cell (p := ⟨ga, oa + k * 2, none⟩) hga).trans c1
      have c2 := (hbw.cell (p := ⟨ga, oa + k * 2 + 1, none⟩) hga).trans c2
      have d1 := (hbw.cell (p := ⟨gb, ob + k * 2, none⟩) hgb).trans d1
      have d2 := (hbw.cell (p := ⟨gb, ob + k * 2 + 1, none⟩) hgb).trans d2
      have i1 : (0 : Int) ≤ (k : Int) := by omega
      have i2 : (k : Int) < (n : Int) := by omega
      have hq := S_eq (L.getD k sub0).2 (M.getD k sub0).2
      by_cases he : L.getD k sub0 = M.getD k sub0
      · have HJ2 : RowKit.Hid (∀ j, j < k + 1 → L.getD j sub0 = M.getD j sub0) := by
          intro j hj
          rcases Nat.lt_or_ge j k with h | h
          · exact HJ.out j h
          · rw [show j = k by omega]; exact he
        rw [he] at c1 c2 hq
        rw [decide_eq_true rfl] at hq
        clear he HJ
        generalize S (M.getD k sub0).2 = x at *
        generalize (((M.getD k sub0).1.toNat : Nat) : Int) = y at *
        go_wp2
        go_region
        all_goals
          go_wp2
          go_roundw
          case rel => exact ⟨k + 1, by omega, by go_num, HJ2, hbw.drew⟩
          case measure => simp [intOf]; omega
      · obtain rfl : b = false := by rw [← HBB.out]; exact decide_eq_false (fun h => he (by rw [h]))
        have hor : ((((L.getD k sub0).1.toNat : Nat) : Int) == (((M.getD k sub0).1.toNat : Nat) : Int)) = false ∨ decide ((L.getD k sub0).2 = (M.getD k sub0).2) = false := by
          by_cases hc : (L.getD k sub0).1 = (M.getD k sub0).1
          · exact .inr (decide_eq_false (fun h => he (Prod.ext hc h)))
          · have : (L.getD k sub0).1.toNat ≠ (M.getD k sub0).1.toNat := fun h => hc (UInt8.toNat_inj.1 h)
            exact .inl (beq_eq_false_iff_ne.2 (fun h => this (by omega)))
        have Fin := Lib.hid hbw
        have FinD := Lib.hid hbw.drew
        clear he HJ
        generalize decide ((L.getD k sub0).2 = (M.getD k sub0).2) = eqv at *
        generalize S (L.getD k sub0).2 = x at *
        generalize S (M.getD k sub0).2 = x' at *
        generalize (((L.getD k sub0).1.toNat : Nat) : Int) = y at *
        generalize (((M.getD k sub0).1.toNat : Nat) : Int) = y' at *
        rcases hor with ho | ho
        · go_wp2
          go_region
          all_goals
            go_wp2
            go_ret
            exact ⟨rfl, FinD.out⟩
        · rw [ho] at hq
          go_wp2
          go_region
          all_goals
            go_wp2
            go_ret
            exact ⟨rfl, FinD.out⟩
    · obtain rfl : k = n := by omega
      obtain rfl : b = true := by rw [← HBB.out]; exact decide_eq_true (HX.out (by rw [HN.out, HM.out]) (fun j hj => HJ.out j (by rw [HN.out] at hj; exact hj)))
      go_wp2
      go_ret
      exact ⟨rfl, hbw⟩

set_option maxHeartbeats 16000000 in
theorem fSame_any (f g : Fld) (u v : Value) (w : World) (hu : QL u f.subs w) (hv : QL v g.subs w) (b : Bool) (hb : sameB f g = b) :
    Calls Tryz.prog 42 #[FV f u, FV g v] w fun e w' => e = .returned (.bool b) ∧ Below w.heap.size w w' := by
  unfold FV
  unfold sameB at hb
  have HB := Lib.hid hb
  have q1 := S_eq f.tag g.tag
  have q2 := S_eq f.ind g.ind
  obtain ⟨a, cap, rfl, _, _⟩ := hu.length
  obtain ⟨a', cap', rfl, _, _⟩ := hv.length
  obtain ⟨W0, hW0⟩ : ∃ W0, (w.alloc (.cells #[.string (S f.tag), .string (S f.ind), .slice a f.subs.length cap, .int .i64 f.auth] 35)).alloc (.cells #[.string (S g.tag), .string (S g.ind), .slice a' g.subs.length cap', .int .i64 g.auth] 35) = W0 := ⟨_, rfl⟩
  have b1 := (Below.refl w.heap.size w).alloc (Nat.le_refl _) (.cells #[.string (S f.tag), .string (S f.ind), .slice a f.subs.length cap, .int .i64 f.auth] 35)
  have b0 : Below w.heap.size w W0 := by rw [← hW0]; exact b1.alloc (by simp) _
  have hlt : w.heap.size + 1 < W0.heap.size := by rw [← hW0]; simp
  have k0 : W0.cell? ⟨w.heap.size, 0, none⟩ = some (.string (S f.tag)) := by rw [← hW0]; simp
  have k1 : W0.cell? ⟨w.heap.size, 1, none⟩ = some (.string (S f.ind)) := by rw [← hW0]; simp
  have k2 : W0.cell? ⟨w.heap.size, 2, none⟩ = some (.slice a f.subs.length cap) := by rw [← hW0]; simp
  have k3 : W0.cell? ⟨w.heap.size, 3, none⟩ = some (.int .i64 f.auth) := by rw [← hW0]; simp
  have l0 : W0.cell? ⟨w.heap.size + 1, 0, none⟩ = some (.string (S g.tag)) := by rw [← hW0]; simp
  have l1 : W0.cell? ⟨w.heap.size + 1, 1, none⟩ = some (.string (S g.ind)) := by rw [← hW0]; simp
  have l2 : W0.cell? ⟨w.heap.size + 1, 2, none⟩ = some (.slice a' g.subs.length cap') := by rw [← hW0]; simp
  have l3 : W0.cell? ⟨w.heap.size + 1, 3, none⟩ = some (.int .i64 g.auth) := by rw [← hW0]; simp
  have cE := Lib.hid (fun c hc => equal_any f.subs g.subs _ _ W0 (hu.after b0) (hv.after b0) c hc)
  have HW0 := Lib.hid hW0
  clear hW0 b1 hu hv hb
  by_cases h1 : f.tag ≠ g.tag
  · rw [decide_eq_false h1] at q1
    obtain rfl : b = false := by rw [← HB.out, decide_eq_false h1]; rfl
    clear h1
    go_enter Tryz.func42, Tryz.ntmps42
    go_wp2
    go_ret
    rw [HW0.out]
    exact ⟨rfl, b0⟩
  have h1 : f.tag = g.tag := Decidable.not_not.1 h1
  rw [decide_eq_true h1] at q1
  by_cases h2 : f.ind ≠ g.ind
  · rw [decide_eq_false h2] at q2
    obtain rfl : b = false := by rw [← HB.out, decide_eq_false h2, Bool.and_false]; rfl
    clear h1 h2
    go_enter Tryz.func42, Tryz.ntmps42
    go_wp2
    go_ret
    rw [HW0.out]
    exact ⟨rfl, b0⟩
  have h2 : f.ind = g.ind := Decidable.not_not.1 h2
  rw [decide_eq_true h2] at q2
  by_cases h3 : f.auth ≠ g.auth
  · have t3 : (f.auth == g.auth) = false := beq_eq_false_iff_ne.2 h3
    obtain rfl : b = false := by rw [← HB.out, decide_eq_false h3, Bool.and_false]; rfl
    clear h1 h2 h3
    go_enter Tryz.func42, Tryz.ntmps42
    go_wp2
    go_ret
    rw [HW0.out]
    exact ⟨rfl, b0⟩
  have h3 : f.auth = g.auth := Decidable.not_not.1 h3
  have hE := cE.out b (by rw [← HB.out, decide_eq_true h1, decide_eq_true h2, decide_eq_true h3]; rfl)
  rw [h3] at HW0 k3 ⊢
  have t3 : (g.auth == g.auth) = true := by simp
  clear h1 h2 h3 cE
  go_enter Tryz.func42, Tryz.ntmps42
  go_wp2_with fail
  rw [HW0.out]
  refine hE.mono ?_
  rintro e w1 ⟨rfl, hb⟩
  have b2 := b0.trans (hb.mono b0.size)
  go_wp2
  go_ret
  exact ⟨rfl, b2⟩
end

end Go.Proofs.YtcnjjdbpcobolaaGreatDoor
