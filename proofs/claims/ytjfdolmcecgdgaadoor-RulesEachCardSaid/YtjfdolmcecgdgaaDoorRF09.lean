/- libraryref09: Tagged, Count, problem, SameProblems, Same. -/
import Derived.Test.YtjfdolmcecgdgaaDoorRE09
import Derived.Test.YtjfdolmcecgdgaaDoorFL
import Derived.Laws.StructEq
namespace Go.Proofs.YtjfdolmcecgdgaaDoor
open Go.RowKit Go.PlainAid

def cntT (L : List Fld) (g : List UInt8) : Nat → Nat
  | 0 => 0
  | k + 1 => cntT L g k + if (L.getD k fd0).tag = g then 1 else 0
def cntC (L : List Sub) (c : UInt8) : Nat → Nat
  | 0 => 0
  | k + 1 => cntC L c k + if (L.getD k sub0).1 = c then 1 else 0
theorem cntT_le (L : List Fld) (g : List UInt8) : ∀ m, cntT L g m ≤ m
  | 0 => Nat.le_refl 0
  | k + 1 => by
    have := cntT_le L g k
    rw [cntT]
    split <;> omega
theorem cntC_le (L : List Sub) (c : UInt8) : ∀ m, cntC L c m ≤ m
  | 0 => Nat.le_refl 0
  | k + 1 => by
    have := cntC_le L c k
    rw [cntC]
    split <;> omega
theorem cntT_in (L : List Fld) (g : List UInt8) : ∀ m, m ≤ L.length → decide (0 < cntT L g m) = tagIn (L.take m) g
  | 0, _ => by simp [cntT, tagIn]
  | k + 1, h => by
    rw [tagIn_snoc L k (by omega) fd0, ← cntT_in L g k (by omega), cntT]
    by_cases he : (L.getD k fd0).tag = g
    · rw [if_pos he, decide_eq_true he, Bool.or_true]
      exact decide_eq_true (by omega)
    · rw [if_neg he, decide_eq_false he, Bool.or_false, Nat.add_zero]
theorem cntC_in (L : List Sub) (c : UInt8) : ∀ m, m ≤ L.length → decide (0 < cntC L c m) = codeIn (L.take m) c
  | 0, _ => by simp [cntC, codeIn]
  | k + 1, h => by
    rw [codeIn_snoc L k (by omega), ← cntC_in L c k (by omega), cntC]
    by_cases he : (L.getD k sub0).1 = c
    · rw [if_pos he, decide_eq_true he, Bool.or_true]
      exact decide_eq_true (by omega)
    · rw [if_neg he, decide_eq_false he, Bool.or_false, Nat.add_zero]

set_option maxHeartbeats 16000000 in
theorem refTagged_any (r : Rec) (u : Value) (w : World) (hu : FL u r.fields w) (m : Nat) (hm : m ≤ r.fields.length) (g : List UInt8) (hz : r.fields.length ≤ 100000) :
    Calls Tryd.prog 30 #[RV r u, .int .i64 (m : Int), .string (S g)] w fun e w' => e = .returned (.int .i64 (cntT r.fields g m : Int)) ∧ Below w.heap.size w w' := by
  have HU := Lib.hid hu
  obtain ⟨a, cap, rfl, hcap, hmax⟩ := hu.length
  unfold maxLen at hmax
  obtain ⟨n, hn⟩ : ∃ n, r.fields.length = n := ⟨_, rfl⟩
  have HN := Lib.hid hn
  have HEq := Lib.hid (fun k => S_eq9 (r.fields.getD k fd0).tag g)
  have HSt := Lib.hid (fun k => show cntT r.fields g (k + 1) = cntT r.fields g k + if (r.fields.getD k fd0).tag = g then 1 else 0 from rfl)
  have HLe := Lib.hid (cntT_le r.fields g)
  have H0 : RowKit.Hid (cntT r.fields g 0 = 0) := rfl
  obtain ⟨cn, hcn⟩ : ∃ cn, cntT r.fields g = cn := ⟨_, rfl⟩
  rw [hcn] at HSt HLe H0 ⊢
  unfold RV
  rw [hn] at hcap HU hm hz ⊢
  obtain ⟨W0, hW0⟩ : ∃ W0, w.alloc (.cells #[.int .i64 r.id, .int .i64 r.ver, .int .i64 r.kind, .string (S r.lang), .slice a n cap] 36) = W0 := ⟨_, rfl⟩
  have b0 : Below w.heap.size w W0 := by rw [← hW0]; exact (Below.refl w.heap.size w).alloc (Nat.le_refl _) _
  have k4 : W0.cell? ⟨w.heap.size, 4, none⟩ = some (.slice a n cap) := by rw [← hW0]; simp
  have HW0 := Lib.hid hW0
  have HU0 := Lib.hid (HU.out.after b0)
  have HB0 := Lib.hid b0
  clear hn hW0 hu b0 hcn
  generalize r.id = vi at *
  generalize r.ver = vv at *
  generalize r.kind = vk at *
  generalize S r.lang = vl at *
  generalize S g = sg at *
  go_enter Tryd.func30, Tryd.ntmps30
  go_wp2
  rw [HW0.out]
  go_loopw [7, 8] (fun c i wr => ∃ k : Nat, k ≤ m ∧ i = .int .i64 (k : Int) ∧ c = .int .i64 (cn k : Int) ∧ wr = W0) (fun _ i _ => m - (intOf i).toNat)
  case atStart => exact ⟨0, Nat.zero_le _, rfl, by rw [H0.out]; rfl, rfl⟩
  case round =>
    obtain ⟨k, hk, rfl, rfl, rfl⟩ := hrel
    by_cases hkn : k < m
    · obtain ⟨g', o, cap', x, he, hg, c0, c1, c2, c3, hq⟩ := (HU0.out).at k (by rw [HN.out]; omega)
      obtain ⟨ha, -, hcp⟩ := Value.slice.inj he
      subst ha hcp
      clear he hq c1 c2 c3
      have i1 : (0 : Int) ≤ (k : Int) := by omega
      have i2 : (k : Int) < (n : Int) := by omega
      have i3 : (k : Int) < (m : Int) := by omega
      have hte := HEq.out k
      have hst := HSt.out k
      have hle := HLe.out k
      generalize S (r.fields.getD k fd0).tag = st at *
      by_cases htg : (r.fields.getD k fd0).tag = g
      · rw [decide_eq_true htg] at hte
        rw [if_pos htg] at hst
        have HS := Lib.hid hst
        clear htg hst
        go_wp2
        go_roundw
        case rel => exact ⟨k + 1, by omega, by go_num, by rw [HS.out]; go_num, trivial⟩
        case measure => simp [intOf]; omega
      · rw [decide_eq_false htg] at hte
        rw [if_neg htg] at hst
        have HS := Lib.hid hst
        clear htg hst
        go_wp2
        go_roundw
        case rel => exact ⟨k + 1, by omega, by go_num, by rw [HS.out, Nat.add_zero], trivial⟩
        case measure => simp [intOf]; omega
    · obtain rfl : k = m := by omega
      go_wp2
      go_ret
      exact ⟨rfl, HB0.out⟩

set_option maxHeartbeats 16000000 in
theorem refCount_any (f : Fld) (u : Value) (w : World) (hu : QL u f.subs w) (m : Nat) (hm : m ≤ f.subs.length) (c : UInt8) (hz : f.subs.length ≤ 100000) :
    Calls Tryd.prog 33 #[FV f u, .int .i64 (m : Int), .int .u8 (c.toNat : Int)] w fun e w' => e = .returned (.int .i64 (cntC f.subs c m : Int)) ∧ Below w.heap.size w w' := by
  obtain ⟨a, cap, rfl, hcap, hmax, _, hcell⟩ := hu
  unfold maxLen at hmax
  obtain ⟨n, hn⟩ : ∃ n, f.subs.length = n := ⟨_, rfl⟩
  have HN := Lib.hid hn
  have HCell := Lib.hid hcell
  have HSt := Lib.hid (fun k => show cntC f.subs c (k + 1) = cntC f.subs c k + if (f.subs.getD k sub0).1 = c then 1 else 0 from rfl)
  have HLe := Lib.hid (cntC_le f.subs c)
  have H0 : RowKit.Hid (cntC f.subs c 0 = 0) := rfl
  obtain ⟨cn, hcn⟩ : ∃ cn, cntC f.subs c = cn := ⟨_, rfl⟩
  rw [hcn] at HSt HLe H0 ⊢
  unfold FV
  rw [hn] at hcap hm hz ⊢
  obtain ⟨W0, hW0⟩ : ∃ W0, w.alloc (.cells #[.string (S f.tag), .string (S f.ind), .slice a n cap, .int .i64 f.auth] 47) = W0 := ⟨_, rfl⟩
  have b0 : Below w.heap.size w W0 := by rw [← hW0]; exact (Below.refl w.heap.size w).alloc (Nat.le_refl _) _
  have k2 : W0.cell? ⟨w.heap.size, 2, none⟩ = some (.slice a n cap) := by rw [← hW0]; simp
  have HW0 := Lib.hid hW0
  have HB0 := Lib.hid b0
  have HX : RowKit.Hid (∀ k, (c.toNat : Int) = ((f.subs.getD k sub0).1.toNat : Int) ↔ (f.subs.getD k sub0).1 = c) := fun k => ⟨fun h => UInt8.toNat_inj.1 (by omega), fun h => by rw [h]⟩
  clear hn hW0 hcell b0 hcn
  generalize f.auth = va at *
  generalize S f.tag = vt at *
  generalize S f.ind = vi at *
  obtain ⟨cv, hcv⟩ : ∃ cv, (c.toNat : Int) = cv := ⟨_, rfl⟩
  rw [hcv] at HX ⊢
  clear hcv
  go_enter Tryd.func33, Tryd.ntmps33
  go_wp2
  rw [HW0.out]
  go_loopw [7, 8] (fun c i wr => ∃ k : Nat, k ≤ m ∧ i = .int .i64 (k : Int) ∧ c = .int .i64 (cn k : Int) ∧ wr = W0) (fun _ i _ => m - (intOf i).toNat)
  case atStart => exact ⟨0, Nat.zero_le _, rfl, by rw [H0.out]; rfl, rfl⟩
  case round =>
    obtain ⟨k, hk, rfl, rfl, rfl⟩ := hrel
    by_cases hkn : k < m
    · obtain ⟨g', o, rfl, hg, c0, c1⟩ := HCell.out k (by rw [HN.out]; omega)
      have c0 := (HB0.out.cell (p := ⟨g', o + k * 2, none⟩) hg).trans c0
      have i1 : (0 : Int) ≤ (k : Int) := by omega
      have i2 : (k : Int) < (n : Int) := by omega
      have i3 : (k : Int) < (m : Int) := by omega
      have hst := HSt.out k
      have hle := HLe.out k
      have hx := HX.out k
      clear c1
      generalize (((f.subs.getD k sub0).1.toNat : Nat) : Int) = y at *
      by_cases htg : (f.subs.getD k sub0).1 = c
      · obtain rfl := hx.2 htg
        rw [if_pos htg] at hst
        have HS := Lib.hid hst
        clear htg hst hx
        go_wp2
        go_roundw
        case rel => exact ⟨k + 1, by omega, by go_num, by rw [HS.out]; go_num, trivial⟩
        case measure => simp [intOf]; omega
      · have t1 : (y == cv) = false := beq_eq_false_iff_ne.2 (fun h => htg (hx.1 h.symm))
        rw [if_neg htg] at hst
        have HS := Lib.hid hst
        clear htg hst hx
        go_wp2
        go_roundw
        case rel => exact ⟨k + 1, by omega, by go_num, by rw [HS.out, Nat.add_zero], trivial⟩
        case measure => simp [intOf]; omega
    · obtain rfl : k = m := by omega
      go_wp2
      go_ret
      exact ⟨rfl, HB0.out⟩

/-! Problems and rules are equal. -/
theorem eqIn_prb (p q : Prb) (w : World) : (Op.equalIn 10000 44 (PV p) (PV q)).run Tryd.prog w = .ok (samePrb p q) w := by
  have uI := Tryd.underlying3
  have aI := Tryd.isAgg3
  have zI := Tryd.sizeOf3
  have uS := Tryd.underlying9
  have aS := Tryd.isAgg9
  have zS := Tryd.sizeOf9
  have uB := Tryd.underlying5
  have aB := Tryd.isAgg5
  have zB := Tryd.sizeOf5
  have hS : Tryd.prog.underlying 44 = some (.struct (Tryd.prog.fieldsOf 44)) := by kernel_rfl
  have hp : Tryd.prog.stoodInHeld 44 = false := by kernel_rfl
  unfold PV
  rw [show (10000 : Nat) = 9999 + 1 from rfl, run_equalIn_agg w 9999 44 _ _ hS hp]
  simp only [Program.fieldsOf, Tryd.underlying44]
  have h2 := S_eq9 p.tag q.tag
  go_simp
  unfold samePrb
  have h3 : ((p.code.toNat : Int) = (q.code.toNat : Int)) ↔ p.code = q.code := ⟨fun h => UInt8.toNat_inj.1 (by omega), fun h => by rw [h]⟩
  by_cases e0 : p.kind = q.kind <;> by_cases e1 : p.index = q.index <;> by_cases e2 : p.tag = q.tag <;> by_cases e3 : p.code = q.code <;> simp [e0, e1, e2, e3, h3]
theorem eqIn_rul (p q : Rul) (w : World) : (Op.equalIn 10000 25 (UV p) (UV q)).run Tryd.prog w = .ok (sameRul p q) w := by
  have uI := Tryd.underlying3
  have aI := Tryd.isAgg3
  have zI := Tryd.sizeOf3
  have uS := Tryd.underlying9
  have aS := Tryd.isAgg9
  have zS := Tryd.sizeOf9
  have uB := Tryd.underlying4
  have aB := Tryd.isAgg4
  have zB := Tryd.sizeOf4
  have hS : Tryd.prog.underlying 25 = some (.struct (Tryd.prog.fieldsOf 25)) := by kernel_rfl
  have hp : Tryd.prog.stoodInHeld 25 = false := by kernel_rfl
  unfold UV
  rw [show (10000 : Nat) = 9999 + 1 from rfl, run_equalIn_agg w 9999 25 _ _ hS hp]
  simp only [Program.fieldsOf, Tryd.underlying25]
  have h0 := S_eq9 p.tag q.tag
  have h3 := S_eq9 p.codes q.codes
  have h4 := S_eq9 p.once q.once
  have h5 := S_eq9 p.needs q.needs
  go_simp
  unfold sameRul
  by_cases e0 : p.tag = q.tag <;> by_cases e1 : p.rep = q.rep <;> by_cases e2 : p.must = q.must <;> by_cases e3 : p.codes = q.codes <;> by_cases e4 : p.once = q.once <;> by_cases e5 : p.needs = q.needs <;> by_cases e6 : p.auth = q.auth <;> simp [e0, e1, e2, e3, e4, e5, e6]
end Go.Proofs.YtjfdolmcecgdgaaDoor
