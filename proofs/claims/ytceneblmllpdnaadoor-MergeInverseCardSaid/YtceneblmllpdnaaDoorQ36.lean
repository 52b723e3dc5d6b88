/- Merged: RM16. -/
import Derived.Test.YtceneblmllpdnaaDoorQ34
import Derived.Test.YtceneblmllpdnaaDoorQ24
import Derived.Test.YtceneblmllpdnaaDoorQ26
import Derived.Test.YtceneblmllpdnaaDoorQ35
import Derived.Test.YtceneblmllpdnaaDoorQ12
import Derived.BigRegion
namespace Go.Proofs.YtceneblmllpdnaaDoor

section
open Go.RowKit Go.PlainAid
theorem FR.keptT16 {W0 : World} {B : Nat} {v : Value} {L : List Fld} {w W : World} (h : FR W0 B v L w) (hk : ∀ b cs, B ≤ b → w.heap[b]? = some (.cells cs 45 (0, 0)) → W.heap[b]? = w.heap[b]?) : FR W0 B v L W := by
  obtain ⟨us, h1, h2, h3⟩ := h
  exact ⟨us, h1, own_kept h2 hk, h3⟩
theorem FR.blk16 {W0 : World} {B : Nat} {v : Value} {L : List Fld} {w : World} (h : FR W0 B v L w) (b : Nat) (hb : v.ownBlock = some b) : B ≤ b ∧ ∃ cs, w.heap[b]? = some (.cells cs 45 (0, 0)) := by
  obtain ⟨us, h1, h2, h3⟩ := h
  rcases h2.2 with ⟨rfl, _⟩ | ⟨g, cap, cur, rfl, hB, hg, _⟩
  · cases hb
  · obtain rfl : g = b := Option.some.inj hb
    exact ⟨hB, _, hg⟩
theorem FR.lt16 {W0 : World} {B : Nat} {v : Value} {L : List Fld} {w : World} (h : FR W0 B v L w) (b : Nat) (hb : v.ownBlock = some b) : B ≤ b := (h.blk16 b hb).1
theorem FR.ne16 {W0 : World} {B : Nat} {v : Value} {L : List Fld} {w : World} (h : FR W0 B v L w) {b : Nat} {cs : Array Value} {t : TypeId} {fr : Nat × Nat} (hb : w.heap[b]? = some (.cells cs t fr)) (ht : t ≠ 45) : some b ≠ v.ownBlock := fun e => by
  obtain ⟨-, cs', hc⟩ := h.blk16 b e.symm
  rw [hb] at hc
  injection Option.some.inj hc with e1 e2
  exact ht e2
/-- append of one laid field to a row: its run. -/
theorem run_fr16 {W0 : World} {B : Nat} {mv : Value} {M : List Fld} {f : Fld} {u : Value} {w : World} (h : FR W0 B mv M w) (hu : QL u f.subs W0) (hB : B ≤ w.heap.size) (hz : M.length ≤ 100000) (ty : TypeId) (b : Nat) (hb : w.heap[b]? = some (.cells (encF f u).toArray 45 (0, 0))) :
    ∃ v' w', (Builtin.append_ #[29, 29] ty #[mv, .slice (some ⟨b, 0, none⟩) 1 1]).run Tryd.prog w = .ok v' w' ∧ FR W0 B v' (M ++ [f]) w' ∧ w.grownBy w' mv.ownBlock := by
  obtain ⟨i0, hi, hz0, hz1, hz2⟩ := info_fld
  obtain ⟨xs, hrow, hpush⟩ := h.open
  obtain ⟨v', w', hr, hown, hg, -, -⟩ := run_append_own_at (P := Tryd.prog) w B 29 ty 45 i0 (.agg #[.string ⟨#[]⟩, .string ⟨#[]⟩, .slice none 0 0, .int .i64 0]) 4 64 Tryd.underlying29 hi hz0 hz1 hz2 rfl (by decide) mv M.length xs hrow ⟨b, 0, none⟩ 1 1 (encF f u) rfl
    (fun j x hx => by rw [add_zero16, Nat.zero_add, Lib.cell_of_heap hb]; simpa using hx) (encF_one f u hu.one) (by unfold maxLen; omega) (by omega) hB
  refine ⟨v', w', hr, hpush [f] [u] v' w' rfl (fun i hi => ?_) ?_, hg⟩
  · obtain rfl : i = 0 := by simpa using hi
    exact hu
  · have e : cellsF [f] [u] = encF f u := by simp [cellsF]
    rw [e]
    exact hown

/-- What the reference's Merge answers. -/
def MrgL (a b : Rec) (l : List Kp) (w : World) (e : Ending) (w' : World) : Prop :=
  ∃ mv fv tv, e = .returned (.tuple #[RV (mrgR a b l) mv, PgV (mrgP a b l) fv tv, .int .i64 (errM a b l)]) ∧ FL mv (mrgR a b l).fields w' ∧ FL fv (mrgP a b l).frm.fields w' ∧ TL tv (mrgP a b l).taken w' ∧ Below w.heap.size w w'

set_option maxHeartbeats 64000000 in
set_option maxRecDepth 100000 in
theorem refMerge16_any (a b : Rec) (l : List Kp) (u v kv : Value) (w : World) (hu : FL u a.fields w) (hv : FL v b.fields w) (hk : KpL kv l w) (ha : BndR a) (hb : BndR b) :
    Calls Tryd.prog 14 #[RV a u, RV b v, kv] w fun e w' => MrgL a b l w e w' := by
  obtain ⟨Q, hQ⟩ : ∃ Q, (fun (e : Ending) (w' : World) => MrgL a b l w e w') = Q := ⟨_, rfl⟩
  rw [hQ]
  have HErr : RowKit.Hid (∀ (e : Int) (W : World), (errM a b l = e ∧ e ≠ 0) → Below w.heap.size w W → Q (.returned (.tuple #[.agg #[.int .i64 0, .int .i64 0, .int .i64 0, .string ⟨#[]⟩, .slice none 0 0], .agg #[.int .i64 0, .int .i64 0, .int .i64 0, .int .i64 0, .string ⟨#[]⟩, .slice none 0 0, .slice none 0 0], .int .i64 e])) W) := by
    rw [← hQ]
    intro e W h hb
    obtain ⟨mv, fv, tv, h1, h2, h3, h4, h5⟩ := MrgT.err e h.1 h.2 hb
    exact ⟨mv, fv, tv, h1, h2.fl, h3.fl, h4.tl, h5⟩
  have HOk : RowKit.Hid (errM a b l = 0 → ∀ (mv tv : Value) (W : World), (FL mv (mergeF a.fields b.fields l).1 W ∧ TL tv (NtoI (mergeF a.fields b.fields l).2) W) → Below w.heap.size w W →
      Q (.returned (.tuple #[.agg #[.int .i64 a.id, .int .i64 a.ver, .int .i64 a.kind, .string (S a.lang), mv], .agg #[.int .i64 a.id, .int .i64 b.id, .int .i64 b.ver, .int .i64 b.kind, .string (S b.lang), v, tv], .int .i64 0])) W) := by
    rw [← hQ]
    intro h mv tv W hn hb
    have e1 : mrgR a b l = { a with fields := (mergeF a.fields b.fields l).1 } := by unfold mrgR; rw [if_pos h]
    have e2 : mrgP a b l = ⟨a.id, b, NtoI (mergeF a.fields b.fields l).2⟩ := by unfold mrgP; rw [if_pos h]; rfl
    refine ⟨mv, v, tv, ?_, ?_, ?_, ?_, hb⟩
    · rw [e1, e2, h]; rfl
    · rw [e1]; exact hn.1
    · rw [e2]; exact hv.after hb
    · rw [e2]; exact hn.2
  have HEM : RowKit.Hid (errM a b l = if rightRI a ≠ 0 then rightRI a else if rightRI b ≠ 0 then rightRI b else if a.id = 0 ∨ b.id = 0 then 2 else if a.id = b.id then 1 else if a.ver ≠ b.ver then 20
      else if 64 < (mergeF a.fields b.fields l).1.length then 13 else 0) := rfl
  obtain ⟨ea, hea⟩ : ∃ e, rightRI a = e := ⟨_, rfl⟩
  obtain ⟨eb, heb⟩ : ∃ e, rightRI b = e := ⟨_, rfl⟩
  rw [hea, heb] at HEM
  have m0 := M4.first w a u b v
  obtain ⟨W0, hW0⟩ : ∃ W0, M4W w a u b v = W0 := ⟨_, rfl⟩
  rw [hW0] at m0
  have cRa := Lib.hid (fun (W : World) (h : Below w.heap.size w W) => refRight08_any a u W (hu.after h) ha.hz ea hea)
  have cRb := Lib.hid (fun (W : World) (h : Below w.heap.size w W) => refRight08_any b v W (hv.after h) hb.hz eb heb)
  have cC := Lib.hid (fun (W : World) (h : Below w.heap.size w W) => refCopy16_any a u w W h hu ha.fields)
  have cHow := Lib.hid (fun (W : World) (h : Below w.heap.size w W) (t : List UInt8) => refHow16_any l kv t W (hk.after h))
  have cHas := Lib.hid (fun (W : World) (X : List Fld) (mu : Value) (f : Fld) (fu : Value) (hm : FL mu X W) (hf : QL fu f.subs W) => refHas16_any X mu f fu W hm hf _ rfl)
  have cTag := Lib.hid (fun (W : World) (h : Below w.heap.size w W) (t : List UInt8) => refTagged16_any a.fields u t W (hu.after h) _ rfl)
  obtain ⟨va, vc, gv, ov, us, hva, hvc, hvm, hvg, hvx⟩ := hv.open16
  obtain ⟨ua, uc, hua, hu1, hu2⟩ := hu.length
  obtain ⟨ka, kc, gk, ok, hka, hk1, hk2, -, -⟩ := hk.opened
  have HStep := Lib.hid (fun i (h : i < b.fields.length) => merge_step a.fields b.fields l fd0 i h)
  have HLen := Lib.hid (fun i => merge_len a.fields (b.fields.take i) l)
  have hal := ha.fields
  have hbl := hb.fields
  have HM0 := Lib.hid m0
  have HMx := Lib.hid (fun (W : World) (h : M4 w a u b v W) => h.x)
  have HMy := Lib.hid (fun (W : World) (h : M4 w a u b v W) => h.y)
  unfold M4W at hW0
  unfold RV at *
  obtain ⟨n, hn⟩ : ∃ n, b.fields.length = n := ⟨_, rfl⟩
  have HN := Lib.hid hn
  rw [hn] at hva hvc hvg hvx HStep hbl
  have HVX := Lib.hid hvx
  unfold maxLen at hvm
  have HW0 := Lib.hid hW0
  obtain ⟨⟨x0, x1, x2, x3, x4⟩, -⟩ := rcells m0.x
  subst hva hua hka
  clear hQ hea heb hW0 m0 hu hv hk ha hb hvx hn hk1 hk2
  generalize S a.lang = la at *
  generalize S b.lang = lb at *
  generalize a.id = aid at *
  generalize b.id = bid at *
  generalize a.ver = aver at *
  generalize b.ver = bver at *
  generalize a.kind = akind at *
  generalize b.kind = bkind at *
  go_enter Tryd.func14, Tryd.ntmps14
  go_upto_region 1 with fail
  rw [HW0.out]
  clear HW0
  go_wp2_with fail
  refine (cRa.out W0 HM0.out.bel).mono ?_
  rintro e w1 ⟨rfl, hb1⟩
  have m1 := HM0.out.after hb1
  have HM1 := Lib.hid m1
  clear x0 x1 x2 x3 x4 hb1 HM0 cRa m1
  by_cases h0 : ea = 0
  rotate_left
  · have he := HEM.out
    rw [if_pos h0] at he
    have q0 : (ea == 0) = false := beq_false_of_ne h0
    have d0 : decide (ea = 0) = false := decide_eq_false h0
    have hfn := HM1.out.finW #[.int .i64 0, .int .i64 0, .int .i64 0, .string ⟨#[]⟩, .slice none 0 0] #[.int .i64 0, .int .i64 0, .int .i64 0, .int .i64 0, .string ⟨#[]⟩, .slice none 0 0, .slice none 0 0]
    have HG := Lib.hid (HErr.out _ _ ⟨he, h0⟩ hfn.2.2.1)
    have FA1 := Lib.hid hfn.1
    have FA2 := Lib.hid hfn.2.1
    have HRz := Lib.hid HM1.out.r
    have HPz := Lib.hid hfn.2.2.2.2.2
    clear hfn HErr HOk he
    go_wp2_with (first | (refine wpList_store_row rfl 31 _ _ rfl (w.heap.size + 2) #[.int .i64 0, .int .i64 0, .int .i64 0, .string ⟨#[]⟩, .slice none 0 0] rfl rfl 31 _ HRz.out (by kernel_rfl) rfl (by simp [Value.oneCell']) ?_) | (refine wpList_store_row rfl 36 _ _ rfl (w.heap.size + 3) #[.int .i64 0, .int .i64 0, .int .i64 0, .int .i64 0, .string ⟨#[]⟩, .slice none 0 0, .slice none 0 0] rfl rfl 36 _ HPz.out (by kernel_rfl) rfl (by simp [Value.oneCell']) ?_))
    (try simp only [Exit.inBlock, Exit.then])
    refine bodyPost_ret (results_three16 rfl _ _ (w.heap.size + 2) (w.heap.size + 3) _ _ _ _ _ _ _ _ rfl rfl FA1.out FA2.out Tryd.underlying31 rfl (by kernel_rfl) Tryd.underlying36 rfl (by kernel_rfl)) rfl ?_
    exact HG.out
  subst h0
  have he0 := HEM.out
  rw [if_neg (fun g => g rfl)] at he0
  have HEM1 := Lib.hid he0
  clear he0 HEM
  obtain ⟨⟨y0, y1, y2, y3, y4⟩, -⟩ := rcells (HMy.out _ HM1.out)
  go_wp2_with fail
  refine (cRb.out w1 HM1.out.bel).mono ?_
  rintro e w2 ⟨rfl, hb2⟩
  have HM2 := Lib.hid (HM1.out.after hb2)
  clear y0 y1 y2 y3 y4 hb2 HM1 cRb
  by_cases h0 : eb = 0
  rotate_left
  · have he := HEM1.out
    rw [if_pos h0] at he
    have q0 : (eb == 0) = false := beq_false_of_ne h0
    have d0 : decide (eb = 0) = false := decide_eq_false h0
    have hfn := HM2.out.finW #[.int .i64 0, .int .i64 0, .int .i64 0, .string ⟨#[]⟩, .slice none 0 0] #[.int .i64 0, .int .i64 0, .int .i64 0, .int .i64 0, .string ⟨#[]⟩, .slice none 0 0, .slice none 0 0]
    have HG := Lib.hid (HErr.out _ _ ⟨he, h0⟩ hfn.2.2.1)
    have FA1 := Lib.hid hfn.1
    have FA2 := Lib.hid hfn.2.1
    have HRz := Lib.hid HM2.out.r
    have HPz := Lib.hid hfn.2.2.2.2.2
    clear hfn HErr HOk he
    go_wp2_with (first | (refine wpList_store_row rfl 31 _ _ rfl (w.heap.size + 2) #[.int .i64 0, .int .i64 0, .int .i64 0, .string ⟨#[]⟩, .slice none 0 0] rfl rfl 31 _ HRz.out (by kernel_rfl) rfl (by simp [Value.oneCell']) ?_) | (refine wpList_store_row rfl 36 _ _ rfl (w.heap.size + 3) #[.int .i64 0, .int .i64 0, .int .i64 0, .int .i64 0, .string ⟨#[]⟩, .slice none 0 0, .slice none 0 0] rfl rfl 36 _ HPz.out (by kernel_rfl) rfl (by simp [Value.oneCell']) ?_))
    (try simp only [Exit.inBlock, Exit.then])
    refine bodyPost_ret (results_three16 rfl _ _ (w.heap.size + 2) (w.heap.size + 3) _ _ _ _ _ _ _ _ rfl rfl FA1.out FA2.out Tryd.underlying31 rfl (by kernel_rfl) Tryd.underlying36 rfl (by kernel_rfl)) rfl ?_
    exact HG.out
  subst h0
  have he0 := HEM1.out
  rw [if_neg (fun g => g rfl)] at he0
  have HEM2 := Lib.hid he0
  clear he0 HEM1
  obtain ⟨⟨x0, x1, x2, x3, x4⟩, -⟩ := rcells (HMx.out _ HM2.out)
  obtain ⟨⟨y0, y1, y2, y3, y4⟩, -⟩ := rcells (HMy.out _ HM2.out)
  by_cases hid : aid = 0 ∨ bid = 0
  · have he := HEM2.out
    rw [if_pos hid] at he
    by_cases h0 : aid = 0
    · have q0 : (aid == 0) = true := beq_iff_eq.2 h0
      have d0 : decide (aid = 0) = true := decide_eq_true h0
      have hfn := HM2.out.finW #[.int .i64 0, .int .i64 0, .int .i64 0, .string ⟨#[]⟩, .slice none 0 0] #[.int .i64 0, .int .i64 0, .int .i64 0, .int .i64 0, .string ⟨#[]⟩, .slice none 0 0, .slice none 0 0]
      have HG := Lib.hid (HErr.out _ _ ⟨he, by decide⟩ hfn.2.2.1)
      have FA1 := Lib.hid hfn.1
      have FA2 := Lib.hid hfn.2.1
      have HRz := Lib.hid HM2.out.r
      have HPz := Lib.hid hfn.2.2.2.2.2
      clear hfn HErr HOk he
      go_wp2_with (first | (refine wpList_store_row rfl 31 _ _ rfl (w.heap.size + 2) #[.int .i64 0, .int .i64 0, .int .i64 0, .string ⟨#[]⟩, .slice none 0 0] rfl rfl 31 _ HRz.out (by kernel_rfl) rfl (by simp [Value.oneCell']) ?_) | (refine wpList_store_row rfl 36 _ _ rfl (w.heap.size + 3) #[.int .i64 0, .int .i64 0, .int .i64 0, .int .i64 0, .string ⟨#[]⟩, .slice none 0 0, .slice none 0 0] rfl rfl 36 _ HPz.out (by kernel_rfl) rfl (by simp [Value.oneCell']) ?_))
      (try simp only [Exit.inBlock, Exit.then])
      refine bodyPost_ret (results_three16 rfl _ _ (w.heap.size + 2) (w.heap.size + 3) _ _ _ _ _ _ _ _ rfl rfl FA1.out FA2.out Tryd.underlying31 rfl (by kernel_rfl) Tryd.underlying36 rfl (by kernel_rfl)) rfl ?_
      exact HG.out
    · have hb0 : bid = 0 := hid.resolve_left h0
      have q0 : (aid == 0) = false := beq_false_of_ne h0
      have d0 : decide (aid = 0) = false := decide_eq_false h0
      have q1 : (bid == 0) = true := beq_iff_eq.2 hb0
      have d1 : decide (bid = 0) = true := decide_eq_true hb0
      have hfn := HM2.out.finW #[.int .i64 0, .int .i64 0, .int .i64 0, .string ⟨#[]⟩, .slice none 0 0] #[.int .i64 0, .int .i64 0, .int .i64 0, .int .i64 0, .string ⟨#[]⟩, .slice none 0 0, .slice none 0 0]
      have HG := Lib.hid (HErr.out _ _ ⟨he, by decide⟩ hfn.2.2.1)
      have FA1 := Lib.hid hfn.1
      have FA2 := Lib.hid hfn.2.1
      have HRz := Lib.hid HM2.out.r
      have HPz := Lib.hid hfn.2.2.2.2.2
      clear hfn HErr HOk he
      go_wp2_with (first | (refine wpList_store_row rfl 31 _ _ rfl (w.heap.size + 2) #[.int .i64 0, .int .i64 0, .int .i64 0, .string ⟨#[]⟩, .slice none 0 0] rfl rfl 31 _ HRz.out (by kernel_rfl) rfl (by simp [Value.oneCell']) ?_) | (refine wpList_store_row rfl 36 _ _ rfl (w.heap.size + 3) #[.int .i64 0, .int .i64 0, .int .i64 0, .int .i64 0, .string ⟨#[]⟩, .slice none 0 0, .slice none 0 0] rfl rfl 36 _ HPz.out (by kernel_rfl) rfl (by simp [Value.oneCell']) ?_))
      (try simp only [Exit.inBlock, Exit.then])
      refine bodyPost_ret (results_three16 rfl _ _ (w.heap.size + 2) (w.heap.size + 3) _ _ _ _ _ _ _ _ rfl rfl FA1.out FA2.out Tryd.underlying31 rfl (by kernel_rfl) Tryd.underlying36 rfl (by kernel_rfl)) rfl ?_
      exact HG.out
  have he0 := HEM2.out
  rw [if_neg hid] at he0
  have HEM3 := Lib.hid he0
  clear he0 HEM2
  have hia : ¬ aid = 0 := fun e => hid (.inl e)
  have hib : ¬ bid = 0 := fun e => hid (.inr e)
  have q1 : (aid == 0) = false := beq_false_of_ne hia
  have d1 : decide (aid = 0) = false := decide_eq_false hia
  have q2 : (bid == 0) = false := beq_false_of_ne hib
  have d2 : decide (bid = 0) = false := decide_eq_false hib
  clear hia hib hid
  by_cases h0 : aid = bid
  · have he := HEM3.out
    rw [if_pos h0] at he
    have q0 : (aid == bid) = true := beq_iff_eq.2 h0
    have d0 : decide (aid = bid) = true := decide_eq_true h0
    have hfn := HM2.out.finW #[.int .i64 0, .int .i64 0, .int .i64 0, .string ⟨#[]⟩, .slice none 0 0] #[.int .i64 0, .int .i64 0, .int .i64 0, .int .i64 0, .string ⟨#[]⟩, .slice none 0 0, .slice none 0 0]
    have HG := Lib.hid (HErr.out _ _ ⟨he, by decide⟩ hfn.2.2.1)
    have FA1 := Lib.hid hfn.1
    have FA2 := Lib.hid hfn.2.1
    have HRz := Lib.hid HM2.out.r
    have HPz := Lib.hid hfn.2.2.2.2.2
    clear hfn HErr HOk he
    go_wp2_with (first | (refine wpList_store_row rfl 31 _ _ rfl (w.heap.size + 2) #[.int .i64 0, .int .i64 0, .int .i64 0, .string ⟨#[]⟩, .slice none 0 0] rfl rfl 31 _ HRz.out (by kernel_rfl) rfl (by simp [Value.oneCell']) ?_) | (refine wpList_store_row rfl 36 _ _ rfl (w.heap.size + 3) #[.int .i64 0, .int .i64 0, .int .i64 0, .int .i64 0, .string ⟨#[]⟩, .slice none 0 0, .slice none 0 0] rfl rfl 36 _ HPz.out (by kernel_rfl) rfl (by simp [Value.oneCell']) ?_))
    (try simp only [Exit.inBlock, Exit.then])
    refine bodyPost_ret (results_three16 rfl _ _ (w.heap.size + 2) (w.heap.size + 3) _ _ _ _ _ _ _ _ rfl rfl FA1.out FA2.out Tryd.underlying31 rfl (by kernel_rfl) Tryd.underlying36 rfl (by kernel_rfl)) rfl ?_
    exact HG.out
  have he0 := HEM3.out
  rw [if_neg h0] at he0
  have HEM4 := Lib.hid he0
  have q3 : (aid == bid) = false := beq_false_of_ne h0
  have d3 : decide (aid = bid) = false := decide_eq_false h0
  clear he0 HEM3 h0
  by_cases h0 : aver = bver
  rotate_left
  · have he := HEM4.out
    rw [if_pos h0] at he
    have q0 : (aver == bver) = false := beq_false_of_ne h0
    have d0 : decide (aver = bver) = false := decide_eq_false h0
    have hfn := HM2.out.finW #[.int .i64 0, .int .i64 0, .int .i64 0, .string ⟨#[]⟩, .slice none 0 0] #[.int .i64 0, .int .i64 0, .int .i64 0, .int .i64 0, .string ⟨#[]⟩, .slice none 0 0, .slice none 0 0]
    have HG := Lib.hid (HErr.out _ _ ⟨he, by decide⟩ hfn.2.2.1)
    have FA1 := Lib.hid hfn.1
    have FA2 := Lib.hid hfn.2.1
    have HRz := Lib.hid HM2.out.r
    have HPz := Lib.hid hfn.2.2.2.2.2
    clear hfn HErr HOk he
    go_wp2_with (first | (refine wpList_store_row rfl 31 _ _ rfl (w.heap.size + 2) #[.int .i64 0, .int .i64 0, .int .i64 0, .string ⟨#[]⟩, .slice none 0 0] rfl rfl 31 _ HRz.out (by kernel_rfl) rfl (by simp [Value.oneCell']) ?_) | (refine wpList_store_row rfl 36 _ _ rfl (w.heap.size + 3) #[.int .i64 0, .int .i64 0, .int .i64 0, .int .i64 0, .string ⟨#[]⟩, .slice none 0 0, .slice none 0 0] rfl rfl 36 _ HPz.out (by kernel_rfl) rfl (by simp [Value.oneCell']) ?_))
    (try simp only [Exit.inBlock, Exit.then])
    refine bodyPost_ret (results_three16 rfl _ _ (w.heap.size + 2) (w.heap.size + 3) _ _ _ _ _ _ _ _ rfl rfl FA1.out FA2.out Tryd.underlying31 rfl (by kernel_rfl) Tryd.underlying36 rfl (by kernel_rfl)) rfl ?_
    exact HG.out
  have he0 := HEM4.out
  rw [if_neg (fun g => g h0)] at he0
  have HPre := Lib.hid he0
  have q4 : (aver == bver) = true := beq_iff_eq.2 h0
  have d4 : decide (aver = bver) = true := decide_eq_true h0
  clear he0 HEM4 h0
  go_wp2_with fail
  refine (cC.out w2 HM2.out.bel).mono ?_
  rintro e w3 ⟨cv, rfl, hf3, hb3⟩
  obtain ⟨wc, hwc⟩ : ∃ x, w2 = x := ⟨_, rfl⟩
  rw [hwc] at hf3 hb3
  have HMc : RowKit.Hid (M4 w a (.slice ua a.fields.length uc) b (.slice va n vc) wc) := by rw [← hwc]; exact HM2.out
  clear x0 x1 x2 x3 x4 y0 y1 y2 y3 y4 HM2 cC q1 q2 q3 q4 d1 d2 d3 d4
  clear hwc
  obtain ⟨ma0, mc0, rfl⟩ := hf3.form16
  obtain ⟨W3, hW3⟩ : ∃ W3, w3.alloc (.cells #[.int .i64 aid, .int .i64 aver, .int .i64 akind, .string la, .slice ma0 a.fields.length mc0] 31) = W3 := ⟨_, rfl⟩
  have b3 : Below w3.heap.size w3 W3 := by rw [← hW3]; exact (Below.refl _ _).alloc (Nat.le_refl _) _
  obtain ⟨bM, hbM⟩ : ∃ x, w3.heap.size = x := ⟨_, rfl⟩
  have hBx3 : W3.heap[bM]? = some (.cells #[.int .i64 aid, .int .i64 aver, .int .i64 akind, .string la, .slice ma0 a.fields.length mc0] 31 (0, 0)) := by rw [← hW3, ← hbM]; exact heap_alloc_new w3 _
  have hBM : wc.heap.size ≤ bM := by have := hb3.size; omega
  obtain ⟨B3, hB3⟩ : ∃ x, W3.heap.size = x := ⟨_, rfl⟩
  have hbM3 : bM + 1 = B3 := by rw [← hB3, ← hW3, ← hbM]; simp
  have HF3 := Lib.hid (hf3.after b3)
  have HX3 := Lib.hid hBx3
  have HBl3 := Lib.hid (hb3.trans (b3.mono hb3.size))
  have HBs := Lib.hid (show wc.heap.size ≤ bM ∧ wc.heap.size ≤ B3 from ⟨hBM, by omega⟩)
  have HB3 := Lib.hid hB3
  have HMl := Lib.hid (fun (W : World) (h : Below wc.heap.size wc W) => HMc.out.after h)
  have HWc := Lib.hid HMc.out.size
  clear hf3 hb3 hBx3 hBM hbM3 hB3 b3
  go_upto_region 13 with fail
  (try rw [hW3])
  (try rw [hbM])
  clear hW3 hbM
  go_wp2
  go_loopw [11, 12] (fun s11 s12 wr => ∃ k : Nat, s12 = .int .i64 (k : Int) ∧ k ≤ n ∧ RowKit.Hid (∃ mv, FR w wc.heap.size mv (mergeF a.fields (b.fields.take k) l).1 wr ∧ wr.heap[bM]? = some (.cells #[.int .i64 aid, .int .i64 aver, .int .i64 akind, .string la, mv] 31 (0, 0))) ∧
    RowKit.Hid (TR B3 s11 (NtoI (mergeF a.fields (b.fields.take k) l).2) wr) ∧ RowKit.Hid (Below wc.heap.size wc wr) ∧ RowKit.Hid (B3 ≤ wr.heap.size)) (fun _ s12 _ => n - (intOf s12).toNat)
  case atStart => exact ⟨0, rfl, Nat.zero_le _, ⟨_, HF3.out, HX3.out⟩, TR.nil _ _, HBl3.out, Nat.le_of_eq HB3.out.symm⟩
  case round =>
    obtain ⟨k, rfl, hk, HFT0, HTR, HBl, HS3⟩ := hrel
    clear HF3 HX3 HBl3 HB3
    obtain ⟨mv, hft, hbox⟩ := HFT0.out
    clear HFT0
    have HM := Lib.hid (HMl.out wr HBl.out)
    obtain ⟨⟨y0, y1, y2, y3, y4⟩, -⟩ := rcells (HMy.out _ HM.out)
    by_cases hkn : k < n
    · have i1 : (0 : Int) ≤ (k : Int) := by omega
      have i2 : (k : Int) < (n : Int) := by omega
      obtain rfl := hvg (by omega)
      obtain ⟨⟨c0, c1, c2, c3⟩, hq⟩ := HVX.out wr HM.out.bel k hkn
      have hqc := (HVX.out w (Below.refl _ _) k hkn).2
      have hst := HStep.out k hkn
      obtain ⟨f, hf⟩ : ∃ f, b.fields.getD k fd0 = f := ⟨_, rfl⟩
      rw [hf] at c0 c1 c3 hq hst hqc
      obtain ⟨xa, xc, hxu, -, -⟩ := hq.length
      rw [hxu] at c2 hq hqc
      obtain ⟨xn, hxn⟩ : ∃ x, f.subs.length = x := ⟨_, rfl⟩
      rw [hxn] at c2 hq hqc
      obtain ⟨ML, hML⟩ : ∃ x, (mergeF a.fields (b.fields.take k) l).1 = x := ⟨_, rfl⟩
      obtain ⟨Tk, hTk⟩ : ∃ x, (mergeF a.fields (b.fields.take k) l).2 = x := ⟨_, rfl⟩
      have hlen := HLen.out k
      have hpair : mergeF a.fields (b.fields.take k) l = (ML, Tk) := by rw [← hML, ← hTk]
      rw [hML, hTk, List.length_take] at hlen
      rw [hML] at hft
      rw [hTk] at HTR
      rw [hpair] at hst
      obtain ⟨ma, mc, rfl⟩ := hft.form16
      obtain ⟨wb, hwb⟩ : ∃ W, wr.alloc (.cells #[.string (S f.tag), .string (S f.ind), .slice xa xn xc, .int .i64 f.auth] 45) = W := ⟨_, rfl⟩
      have bb : Below wr.heap.size wr wb := by rw [← hwb]; exact (Below.refl _ _).alloc (Nat.le_refl _) _
      have hFx : wb.heap[wr.heap.size]? = some (.cells #[.string (S f.tag), .string (S f.ind), .slice xa xn xc, .int .i64 f.auth] 45 (0, 0)) := by rw [← hwb]; exact heap_alloc_new wr _
      have hBlb := HBl.out.trans (bb.mono HBl.out.size)
      have hftb := hft.after bb
      have hboxb := (bb.block bM (Array.getElem?_eq_some_iff.1 hbox).1).trans hbox
      have htrb := HTR.out.after bb
      obtain ⟨bf, hbf⟩ : ∃ x, wr.heap.size = x := ⟨_, rfl⟩
      rw [hbf] at hFx
      have hbfl : bf < wb.heap.size := (Array.getElem?_eq_some_iff.1 hFx).1
      obtain ⟨h, hh⟩ : ∃ h, howK l f.tag = h := ⟨_, rfl⟩
      obtain ⟨tk, htk⟩ : ∃ t, takP a.fields ML h f = t := ⟨_, rfl⟩
      have htB : takeB a.fields ML l f = tk := by rw [← htk, ← hh]; rfl
      rw [htB] at hst
      obtain ⟨hs, hhs⟩ : ∃ x, hasF ML f = x := ⟨_, rfl⟩
      obtain ⟨tg, htg⟩ : ∃ x, tagdF a.fields f.tag = x := ⟨_, rfl⟩
      have htk2 : ((decide (h = 1) && !hs) || (decide (h = 2) && !tg)) = tk := by rw [← htk, ← hhs, ← htg]; rfl
      have cH := Lib.hid (fun (W : World) (hw : Below wb.heap.size wb W) => cHow.out W (HMc.out.bel.trans ((hBlb.trans (hw.mono hBlb.size)).mono HMc.out.bel.size)) f.tag)
      rw [hh] at cH
      have cA := Lib.hid (fun (W : World) (hw : Below wb.heap.size wb W) => cHas.out W ML (.slice ma ML.length mc) f (.slice xa xn xc) ((hftb.after hw).fl (HMc.out.bel.trans ((hBlb.trans (hw.mono hBlb.size)).mono HMc.out.bel.size))) ((hq.after bb).after hw))
      have cT := Lib.hid (fun (W : World) (hw : Below wb.heap.size wb W) => cTag.out W (HMc.out.bel.trans ((hBlb.trans (hw.mono hBlb.size)).mono HMc.out.bel.size)) f.tag)
      rw [hhs] at cA
      rw [htg] at cT
      have HMxr := Lib.hid (fun (W : World) (hw : Below wb.heap.size wb W) => HMx.out W (HMl.out W (hBlb.trans (hw.mono hBlb.size))))
      have HFTr := Lib.hid (fun (W : World) (hw : Below wb.heap.size wb W) => hftb.after hw)
      have HTRr := Lib.hid (fun (W : World) (hw : Below wb.heap.size wb W) => htrb.after hw)
      have HBoxr := Lib.hid (fun (W : World) (hw : Below wb.heap.size wb W) => (hw.block bM (Array.getElem?_eq_some_iff.1 hboxb).1).trans hboxb)
      have HFxr := Lib.hid (fun (W : World) (hw : Below wb.heap.size wb W) => (hw.block bf hbfl).trans hFx)
      have HBlr := Lib.hid (fun (W : World) (hw : Below wb.heap.size wb W) => hBlb.trans (hw.mono hBlb.size))
      have HSr := Lib.hid (show B3 ≤ wb.heap.size from Nat.le_trans HS3.out bb.size)
      have HSt := Lib.hid hst
      have HQc := Lib.hid hqc
      have HLz : RowKit.Hid (ML.length ≤ 100000 ∧ Tk.length ≤ 100000) := ⟨by omega, by omega⟩
      have HEnc : RowKit.Hid ((encF f (.slice xa xn xc)).toArray = #[.string (S f.tag), .string (S f.ind), .slice xa xn xc, .int .i64 f.auth]) := rfl
      unfold FV at cA
      obtain ⟨ft, hft1⟩ : ∃ x, S f.tag = x := ⟨_, rfl⟩
      obtain ⟨fi, hft2⟩ : ∃ x, S f.ind = x := ⟨_, rfl⟩
      obtain ⟨fau, hft3⟩ : ∃ x, f.auth = x := ⟨_, rfl⟩
      rw [hft1] at c0 cT cA HFxr cH HEnc hwb
      rw [hft2] at c1 cA HFxr HEnc hwb
      rw [hft3] at c3 cA HFxr HEnc hwb
      have HWb := Lib.hid hwb
      clear hst hf hq hqc hxu hxn hlen hML hTk hpair hft hbox bb hFx hBlb hftb hboxb htrb hh htk hhs htg htB hft1 hft2 hft3 hbfl hwb HM HTR
      go_upto_region 18 with fail
      rw [HWb.out]
      (try rw [hbf])
      clear c0 c1 c2 c3 HWb y0 y1 y2 y3 y4
      obtain ⟨⟨f0, f1, f2, f3⟩, -⟩ := fcells4 (HFxr.out wb (Below.refl _ _))
      go_wp2_with fail
      refine (cH.out wb (Below.refl _ _)).mono ?_
      rintro e wh ⟨rfl, hbh⟩
      have Hh := Lib.hid hbh
      clear f0 f1 f2 f3 hbh
      obtain ⟨⟨f0, f1, f2, f3⟩, -⟩ := fcells4 (HFxr.out wh Hh.out)
      obtain ⟨⟨m0, m1, m2, m3, m4⟩, -⟩ := rcells (HBoxr.out wh Hh.out)
      obtain ⟨⟨x0, x1, x2, x3, x4⟩, -⟩ := rcells (HMxr.out wh Hh.out)
      by_cases h1 : h = 1
      · subst h1
        rw [show (decide ((1 : Int) = 1)) = true from rfl, show (decide ((1 : Int) = 2)) = false from rfl, Bool.true_and, Bool.false_and, Bool.or_false] at htk2
        go_wp2_with fail
        refine (cA.out wh Hh.out).mono ?_
        rintro e wq ⟨rfl, hbq⟩
        have Hw := Lib.hid (Hh.out.trans (hbq.mono Hh.out.size))
        clear f0 f1 f2 f3 m0 m1 m2 m3 m4 x0 x1 x2 x3 x4 hbq Hh HMxr
        cases hs with
        | true =>
          obtain rfl : false = tk := htk2
          have hst2 := HSt.out
          rw [if_neg (by simp)] at hst2
          have HFTk : RowKit.Hid (FR w wc.heap.size (.slice ma ML.length mc) (mergeF a.fields (b.fields.take (k + 1)) l).1 wq) := by rw [hst2]; exact HFTr.out wq Hw.out
          have HTRk : RowKit.Hid (TR B3 u11 (NtoI (mergeF a.fields (b.fields.take (k + 1)) l).2) wq) := by rw [hst2]; exact HTRr.out wq Hw.out
          have HBk := Lib.hid (HBoxr.out wq Hw.out)
          have HBl := Lib.hid (HBlr.out wq Hw.out)
          have HSk := Lib.hid (Nat.le_trans HSr.out Hw.out.size)
          clear hst2 HSt HFTr HTRr HBoxr HSr Hw HBlr cH cA cT HVX hvg
          go_wp2
          go_roundw
          case rel => exact ⟨k + 1, by go_num, by omega, ⟨_, HFTk.out, HBk.out⟩, HTRk.out, HBl.out, HSk.out⟩
          case measure => simp [intOf]; omega
        | false =>
          obtain rfl : true = tk := htk2
          have hst2 := HSt.out
          rw [if_pos rfl] at hst2
          have hFTq := HFTr.out wq Hw.out
          have hBoxq := HBoxr.out wq Hw.out
          have hTRq := HTRr.out wq Hw.out
          have hBlq := HBlr.out wq Hw.out
          have hSq := Nat.le_trans HSr.out Hw.out.size
          obtain ⟨⟨m0, m1, m2, m3, m4⟩, -⟩ := rcells hBoxq
          obtain ⟨⟨f0, f1, f2, f3⟩, -⟩ := fcells4 (HFxr.out wq Hw.out)
          obtain ⟨Wa, hWa⟩ : ∃ X, wq.alloc (.cells #[.string ft, .string fi, .slice xa xn xc, .int .i64 fau] 45) = X := ⟨_, rfl⟩
          have hba : Below wq.heap.size wq Wa := by rw [← hWa]; exact (Below.refl _ _).alloc (Nat.le_refl _) _
          have hXa : Wa.heap[wq.heap.size]? = some (.cells (encF f (.slice xa xn xc)).toArray 45 (0, 0)) := by rw [← hWa, HEnc.out]; exact heap_alloc_new wq _
          obtain ⟨v2, w2, hr2, hf2, hg2⟩ := run_fr16 (hFTq.after hba) HQc.out (Nat.le_trans hBlq.size hba.size) HLz.out.1 29 wq.heap.size hXa
          have hnM : some bM ≠ (Value.slice ma ML.length mc).ownBlock := hFTq.ne16 hBoxq (by decide)
          have hBox2 : w2.heap[bM]? = _ := (hg2.block bM (Nat.lt_of_lt_of_le (Array.getElem?_eq_some_iff.1 hBoxq).1 hba.size) (fun e => hnM e)).trans ((hba.block bM (Array.getElem?_eq_some_iff.1 hBoxq).1).trans hBoxq)
          have hTR2 : TR B3 u11 (NtoI Tk) w2 := (hTRq.after hba).keptT (fun i cs hB hi => hg2.block i (Array.getElem?_eq_some_iff.1 hi).1 (fun e => (hFTq.after hba).ne16 hi (by decide) e))
          have hBl2 : Below wc.heap.size wc w2 := (hBlq.trans (hba.mono hBlq.size)).grown hg2 (Nat.le_trans hBlq.size hba.size) (fun j hj => (hFTq.lt16 j hj))
          have hS2 : B3 ≤ w2.heap.size := Nat.le_trans hSq (Nat.le_trans hba.size hg2.size)
          obtain ⟨na, nc, h5⟩ := hf2.form16
          rw [show (ML ++ [f]).length = ML.length + 1 by simp] at h5
          subst h5
          obtain ⟨W4, hW4⟩ : ∃ X, w2.setCell ⟨bM, 4, none⟩ (.slice na (ML.length + 1) nc) = X := ⟨_, rfl⟩
          have hs4 : W4.heap.size = w2.heap.size := by rw [← hW4]; simp [World.setCell]
          have ho4 : ∀ i, i ≠ bM → W4.heap[i]? = w2.heap[i]? := fun i hi => by rw [← hW4]; exact heap_setn _ _ _ _ hi
          have hb4 : W4.heap[bM]? = some (.cells #[.int .i64 aid, .int .i64 aver, .int .i64 akind, .string la, .slice na (ML.length + 1) nc] 31 (0, 0)) := by
            rw [← hW4]
            simp [World.setCell, Array.getElem?_modify, hBox2]
          have HF4 := Lib.hid (hf2.keptT16 (W := W4) (fun i cs _ hi => ho4 i (typ_ne hi hBox2 (by decide))))
          have HT4 := Lib.hid (hTR2.keptT (W := W4) (fun i cs _ hi => ho4 i (typ_ne hi hBox2 (by decide))))
          have HBl4 : RowKit.Hid (Below wc.heap.size wc W4) := by rw [← hW4]; exact hBl2.setCell (p := ⟨bM, 4, none⟩) HBs.out.1 _
          have HB4 := Lib.hid hb4
          have HS4 : RowKit.Hid (B3 ≤ W4.heap.size) := by unfold RowKit.Hid; rw [hs4]; exact hS2
          obtain ⟨⟨-, -, -, -, z4⟩, -, -, -, -, g4⟩ := rcells hBox2
          have HR2 := Lib.hid hr2
          clear hFTq hBoxq hTRq hBlq hSq hba hXa hr2 hf2 hg2 hnM hBox2 hTR2 hBl2 hS2 hs4 ho4 hb4 HSt HFTr HTRr HBoxr HSr HBlr HFxr cH cA cT HVX hvg Hw
          go_upto_region 21 with (at_builtin; go_must (refine wpList_run16 rfl _ _ _ _ rfl _ _ rfl rfl HR2.out ?_))
          (try rw [hW4])
          clear hW4 HR2 hWa m0 m1 m2 m3 m4 f0 f1 f2 f3 z4 g4
          go_wp2_with (at_builtin; go_must (refine append_tr W4 rfl _ _ rfl B3 u11 (NtoI Tk) (k : Int) rfl HT4.out rfl (by unfold NtoI; rw [List.length_map]; have := HLz.out; omega) HS4.out ?_; intro v5 w5 htr5 hg5))
          have HT5 : RowKit.Hid (TR B3 v5 (NtoI (mergeF a.fields (b.fields.take (k + 1)) l).2) w5) := by
            rw [hst2]
            unfold NtoI at htr5 ⊢
            rw [List.map_append]
            exact htr5
          have HF5 : RowKit.Hid (FR w wc.heap.size (.slice na (ML.length + 1) nc) (mergeF a.fields (b.fields.take (k + 1)) l).1 w5) := by
            rw [hst2]
            exact HF4.out.keptT16 (fun i cs hB hi => (KpF.grownI (B := wc.heap.size) HT4.out hg5).2 i _ _ _ hB hi (.inl rfl))
          have HB5 := Lib.hid (HT4.out.other hg5 HB4.out (by decide))
          have HBl5 := Lib.hid ((HBl4.out.alloc HBl4.out.size (.cells #[.int .i64 (k : Int)] 3)).grown hg5 (Nat.le_trans HBl4.out.size (by simp)) (fun j hj => Nat.le_trans HBs.out.2 (HT4.out.blk j hj).1))
          have HS5 := Lib.hid (Nat.le_trans HS4.out (Nat.le_trans (by simp) hg5.size))
          clear htr5 hg5 hst2 HT4 HF4 HB4 HBl4 HS4
          go_wp2
          go_roundw
          case rel => exact ⟨k + 1, by go_num, by omega, ⟨_, HF5.out, HB5.out⟩, HT5.out, HBl5.out, HS5.out⟩
          case measure => simp [intOf]; omega
      · rw [decide_eq_false h1, Bool.false_and, Bool.false_or] at htk2
        have q1 : (h == 1) = false := beq_false_of_ne h1
        have d1 : decide (h = 1) = false := decide_eq_false h1
        by_cases h2 : h = 2
        · subst h2
          rw [show (decide ((2 : Int) = 2)) = true from rfl, Bool.true_and] at htk2
          go_wp2_with fail
          refine (cT.out wh Hh.out).mono ?_
          rintro e wq ⟨rfl, hbq⟩
          have Hw := Lib.hid (Hh.out.trans (hbq.mono Hh.out.size))
          clear f0 f1 f2 f3 m0 m1 m2 m3 m4 x0 x1 x2 x3 x4 hbq Hh HMxr
          cases tg with
          | true =>
            obtain rfl : false = tk := htk2
            have hst2 := HSt.out
            rw [if_neg (by simp)] at hst2
            have HFTk : RowKit.Hid (FR w wc.heap.size (.slice ma ML.length mc) (mergeF a.fields (b.fields.take (k + 1)) l).1 wq) := by rw [hst2]; exact HFTr.out wq Hw.out
            have HTRk : RowKit.Hid (TR B3 u11 (NtoI (mergeF a.fields (b.fields.take (k + 1)) l).2) wq) := by rw [hst2]; exact HTRr.out wq Hw.out
            have HBk := Lib.hid (HBoxr.out wq Hw.out)
            have HBl := Lib.hid (HBlr.out wq Hw.out)
            have HSk := Lib.hid (Nat.le_trans HSr.out Hw.out.size)
            clear hst2 HSt HFTr HTRr HBoxr HSr Hw HBlr cH cA cT HVX hvg
            go_wp2
            go_roundw
            case rel => exact ⟨k + 1, by go_num, by omega, ⟨_, HFTk.out, HBk.out⟩, HTRk.out, HBl.out, HSk.out⟩
            case measure => simp [intOf]; omega
          | false =>
            obtain rfl : true = tk := htk2
            have hst2 := HSt.out
            rw [if_pos rfl] at hst2
            have hFTq := HFTr.out wq Hw.out
            have hBoxq := HBoxr.out wq Hw.out
            have hTRq := HTRr.out wq Hw.out
            have hBlq := HBlr.out wq Hw.out
            have hSq := Nat.le_trans HSr.out Hw.out.size
            obtain ⟨⟨m0, m1, m2, m3, m4⟩, -⟩ := rcells hBoxq
            obtain ⟨⟨f0, f1, f2, f3⟩, -⟩ := fcells4 (HFxr.out wq Hw.out)
            obtain ⟨Wa, hWa⟩ : ∃ X, wq.alloc (.cells #[.string ft, .string fi, .slice xa xn xc, .int .i64 fau] 45) = X := ⟨_, rfl⟩
            have hba : Below wq.heap.size wq Wa := by rw [← hWa]; exact (Below.refl _ _).alloc (Nat.le_refl _) _
            have hXa : Wa.heap[wq.heap.size]? = some (.cells (encF f (.slice xa xn xc)).toArray 45 (0, 0)) := by rw [← hWa, HEnc.out]; exact heap_alloc_new wq _
            obtain ⟨v2, w2, hr2, hf2, hg2⟩ := run_fr16 (hFTq.after hba) HQc.out (Nat.le_trans hBlq.size hba.size) HLz.out.1 29 wq.heap.size hXa
            have hnM : some bM ≠ (Value.slice ma ML.length mc).ownBlock := hFTq.ne16 hBoxq (by decide)
            have hBox2 : w2.heap[bM]? = _ := (hg2.block bM (Nat.lt_of_lt_of_le (Array.getElem?_eq_some_iff.1 hBoxq).1 hba.size) (fun e => hnM e)).trans ((hba.block bM (Array.getElem?_eq_some_iff.1 hBoxq).1).trans hBoxq)
            have hTR2 : TR B3 u11 (NtoI Tk) w2 := (hTRq.after hba).keptT (fun i cs hB hi => hg2.block i (Array.getElem?_eq_some_iff.1 hi).1 (fun e => (hFTq.after hba).ne16 hi (by decide) e))
            have hBl2 : Below wc.heap.size wc w2 := (hBlq.trans (hba.mono hBlq.size)).grown hg2 (Nat.le_trans hBlq.size hba.size) (fun j hj => (hFTq.lt16 j hj))
            have hS2 : B3 ≤ w2.heap.size := Nat.le_trans hSq (Nat.le_trans hba.size hg2.size)
            obtain ⟨na, nc, h5⟩ := hf2.form16
            rw [show (ML ++ [f]).length = ML.length + 1 by simp] at h5
            subst h5
            obtain ⟨W4, hW4⟩ : ∃ X, w2.setCell ⟨bM, 4, none⟩ (.slice na (ML.length + 1) nc) = X := ⟨_, rfl⟩
            have hs4 : W4.heap.size = w2.heap.size := by rw [← hW4]; simp [World.setCell]
            have ho4 : ∀ i, i ≠ bM → W4.heap[i]? = w2.heap[i]? := fun i hi => by rw [← hW4]; exact heap_setn _ _ _ _ hi
            have hb4 : W4.heap[bM]? = some (.cells #[.int .i64 aid, .int .i64 aver, .int .i64 akind, .string la, .slice na (ML.length + 1) nc] 31 (0, 0)) := by
              rw [← hW4]
              simp [World.setCell, Array.getElem?_modify, hBox2]
            have HF4 := Lib.hid (hf2.keptT16 (W := W4) (fun i cs _ hi => ho4 i (typ_ne hi hBox2 (by decide))))
            have HT4 := Lib.hid (hTR2.keptT (W := W4) (fun i cs _ hi => ho4 i (typ_ne hi hBox2 (by decide))))
            have HBl4 : RowKit.Hid (Below wc.heap.size wc W4) := by rw [← hW4]; exact hBl2.setCell (p := ⟨bM, 4, none⟩) HBs.out.1 _
            have HB4 := Lib.hid hb4
            have HS4 : RowKit.Hid (B3 ≤ W4.heap.size) := by unfold RowKit.Hid; rw [hs4]; exact hS2
            obtain ⟨⟨-, -, -, -, z4⟩, -, -, -, -, g4⟩ := rcells hBox2
            have HR2 := Lib.hid hr2
            clear hFTq hBoxq hTRq hBlq hSq hba hXa hr2 hf2 hg2 hnM hBox2 hTR2 hBl2 hS2 hs4 ho4 hb4 HSt HFTr HTRr HBoxr HSr HBlr HFxr cH cA cT HVX hvg Hw
            go_upto_region 21 with (at_builtin; go_must (refine wpList_run16 rfl _ _ _ _ rfl _ _ rfl rfl HR2.out ?_))
            (try rw [hW4])
            clear hW4 HR2 hWa m0 m1 m2 m3 m4 f0 f1 f2 f3 z4 g4
            go_wp2_with (at_builtin; go_must (refine append_tr W4 rfl _ _ rfl B3 u11 (NtoI Tk) (k : Int) rfl HT4.out rfl (by unfold NtoI; rw [List.length_map]; have := HLz.out; omega) HS4.out ?_; intro v5 w5 htr5 hg5))
            have HT5 : RowKit.Hid (TR B3 v5 (NtoI (mergeF a.fields (b.fields.take (k + 1)) l).2) w5) := by
              rw [hst2]
              unfold NtoI at htr5 ⊢
              rw [List.map_append]
              exact htr5
            have HF5 : RowKit.Hid (FR w wc.heap.size (.slice na (ML.length + 1) nc) (mergeF a.fields (b.fields.take (k + 1)) l).1 w5) := by
              rw [hst2]
              exact HF4.out.keptT16 (fun i cs hB hi => (KpF.grownI (B := wc.heap.size) HT4.out hg5).2 i _ _ _ hB hi (.inl rfl))
            have HB5 := Lib.hid (HT4.out.other hg5 HB4.out (by decide))
            have HBl5 := Lib.hid ((HBl4.out.alloc HBl4.out.size (.cells #[.int .i64 (k : Int)] 3)).grown hg5 (Nat.le_trans HBl4.out.size (by simp)) (fun j hj => Nat.le_trans HBs.out.2 (HT4.out.blk j hj).1))
            have HS5 := Lib.hid (Nat.le_trans HS4.out (Nat.le_trans (by simp) hg5.size))
            clear htr5 hg5 hst2 HT4 HF4 HB4 HBl4 HS4
            go_wp2
            go_roundw
            case rel => exact ⟨k + 1, by go_num, by omega, ⟨_, HF5.out, HB5.out⟩, HT5.out, HBl5.out, HS5.out⟩
            case measure => simp [intOf]; omega
        · rw [decide_eq_false h2, Bool.false_and] at htk2
          have q2 : (h == 2) = false := beq_false_of_ne h2
          have d2 : decide (h = 2) = false := decide_eq_false h2
          obtain rfl : false = tk := htk2
          have ⟨wq, hwq, Hw⟩ : ∃ x, wh = x ∧ RowKit.Hid (Below wb.heap.size wb x) := ⟨_, rfl, Hh.out⟩
          rw [hwq]
          clear hwq
          clear f0 f1 f2 f3 m0 m1 m2 m3 m4 x0 x1 x2 x3 x4 HMxr
          have hst2 := HSt.out
          rw [if_neg (by simp)] at hst2
          have HFTk : RowKit.Hid (FR w wc.heap.size (.slice ma ML.length mc) (mergeF a.fields (b.fields.take (k + 1)) l).1 wq) := by rw [hst2]; exact HFTr.out wq Hw.out
          have HTRk : RowKit.Hid (TR B3 u11 (NtoI (mergeF a.fields (b.fields.take (k + 1)) l).2) wq) := by rw [hst2]; exact HTRr.out wq Hw.out
          have HBk := Lib.hid (HBoxr.out wq Hw.out)
          have HBl := Lib.hid (HBlr.out wq Hw.out)
          have HSk := Lib.hid (Nat.le_trans HSr.out Hw.out.size)
          clear hst2 HSt HFTr HTRr HBoxr HSr Hw HBlr cH cA cT HVX hvg
          go_wp2
          go_roundw
          case rel => exact ⟨k + 1, by go_num, by omega, ⟨_, HFTk.out, HBk.out⟩, HTRk.out, HBl.out, HSk.out⟩
          case measure => simp [intOf]; omega
    · obtain rfl : k = n := by omega
      have hT : b.fields.take k = b.fields := by rw [← HN.out, List.take_length]
      rw [hT] at hft HTR
      clear hT hkn hvg HVX HStep
      obtain ⟨ML, hML⟩ : ∃ x, (mergeF a.fields b.fields l).1 = x := ⟨_, rfl⟩
      obtain ⟨TN, hTN⟩ : ∃ x, NtoI (mergeF a.fields b.fields l).2 = x := ⟨_, rfl⟩
      rw [hML] at hft HPre HOk
      rw [hTN] at HTR HOk
      obtain ⟨ma, mc, rfl⟩ := hft.form16
      obtain ⟨ta, tc, rfl⟩ := HTR.out.form
      clear hML hTN
      obtain ⟨⟨m0, m1, m2, m3, m4⟩, -⟩ := rcells hbox
      by_cases h64 : 64 < ML.length
      · have he := HPre.out
        rw [if_pos h64] at he
        have d64 : decide ((64 : Int) < (ML.length : Int)) = true := decide_eq_true (by omega)
        have hfn := HM.out.finW #[.int .i64 0, .int .i64 0, .int .i64 0, .string ⟨#[]⟩, .slice none 0 0] #[.int .i64 0, .int .i64 0, .int .i64 0, .int .i64 0, .string ⟨#[]⟩, .slice none 0 0, .slice none 0 0]
        have HG := Lib.hid (HErr.out _ _ ⟨he, by decide⟩ hfn.2.2.1)
        have FA1 := Lib.hid hfn.1
        have FA2 := Lib.hid hfn.2.1
        have HRz := Lib.hid HM.out.r
        have HPz := Lib.hid hfn.2.2.2.2.2
        clear hfn HPre HOk HErr hft HTR HM HS3 hbox he h64
        go_wp2_with (first | (refine wpList_store_row rfl 31 _ _ rfl (w.heap.size + 2) #[.int .i64 0, .int .i64 0, .int .i64 0, .string ⟨#[]⟩, .slice none 0 0] rfl rfl 31 _ HRz.out (by kernel_rfl) rfl (by simp [Value.oneCell']) ?_) | (refine wpList_store_row rfl 36 _ _ rfl (w.heap.size + 3) #[.int .i64 0, .int .i64 0, .int .i64 0, .int .i64 0, .string ⟨#[]⟩, .slice none 0 0, .slice none 0 0] rfl rfl 36 _ HPz.out (by kernel_rfl) rfl (by simp [Value.oneCell']) ?_))
        (try simp only [Exit.inBlock, Exit.then])
        refine bodyPost_ret (results_three16 rfl _ _ (w.heap.size + 2) (w.heap.size + 3) _ _ _ _ _ _ _ _ rfl rfl FA1.out FA2.out Tryd.underlying31 rfl (by kernel_rfl) Tryd.underlying36 rfl (by kernel_rfl)) rfl ?_
        exact HG.out
      · have he := HPre.out
        rw [if_neg h64] at he
        have d64 : decide ((64 : Int) < (ML.length : Int)) = false := decide_eq_false (by omega)
        have HOk2 := Lib.hid (HOk.out he)
        have hWs := HM.out.size
        have HSz : RowKit.Hid (w.heap.size ≤ wr.heap.size) := by unfold RowKit.Hid; omega
        have HRr : RowKit.Hid (w.heap.size + 2 < wr.heap.size) := by unfold RowKit.Hid; omega
        have HRp : RowKit.Hid (w.heap.size + 3 < wr.heap.size) := by unfold RowKit.Hid; omega
        obtain ⟨Xr, hXr⟩ : ∃ X, Obj.cells #[.int .i64 aid, .int .i64 aver, .int .i64 akind, .string la, .slice ma ML.length mc] 31 (0, 0) = X := ⟨_, rfl⟩
        obtain ⟨Yp, hYp⟩ : ∃ Y : Value → Obj, (fun _ => Obj.cells #[.int .i64 aid, .int .i64 bid, .int .i64 bver, .int .i64 bkind, .string lb, .slice va k vc, .slice ta TN.length tc] 36 (0, 0)) = Y := ⟨_, rfl⟩
        have HXr := Lib.hid hXr.symm
        have HYp := Lib.hid (fun fv => (congrFun hYp fv).symm)
        have HR0 := Lib.hid HM.out.r
        have HP0 := Lib.hid HM.out.p
        have hx0 := HMx.out _ HM.out
        have hy0 := HMy.out _ HM.out
        have hltM := (Array.getElem?_eq_some_iff.1 hbox).1
        have hBM4 := Nat.le_trans HWc.out HBs.out.1
        have HBoxe := Lib.hid (fun (W : World) (h : Ra w.heap.size (w.heap.size + 2) (w.heap.size + 3) wr.heap.size Xr Yp [] wr W) => (h.but bM (by omega) (by omega) hltM).trans hbox)
        have HXe := Lib.hid (fun (W : World) (h : Ra w.heap.size (w.heap.size + 2) (w.heap.size + 3) wr.heap.size Xr Yp [] wr W) => (h.but w.heap.size (by omega) (by omega) (by omega)).trans hx0)
        have HYe := Lib.hid (fun (W : World) (h : Ra w.heap.size (w.heap.size + 2) (w.heap.size + 3) wr.heap.size Xr Yp [] wr W) => (h.but (w.heap.size + 1) (by omega) (by omega) (by omega)).trans hy0)
        have HEnd : RowKit.Hid (∀ W, Ra w.heap.size (w.heap.size + 2) (w.heap.size + 3) wr.heap.size Xr Yp [] wr W → PrX (w.heap.size + 2) Xr W → PpX (w.heap.size + 3) wr.heap.size Yp [] W → W.heap[w.heap.size + 2]? = some (.cells #[.int .i64 aid, .int .i64 aver, .int .i64 akind, .string la, .slice ma ML.length mc] 31 (0, 0)) ∧ W.heap[w.heap.size + 3]? = some (.cells #[.int .i64 aid, .int .i64 bid, .int .i64 bver, .int .i64 bkind, .string lb, .slice va k vc, .slice ta TN.length tc] 36 (0, 0)) ∧
            Q (.returned (.tuple #[.agg #[.int .i64 aid, .int .i64 aver, .int .i64 akind, .string la, .slice ma ML.length mc], .agg #[.int .i64 aid, .int .i64 bid, .int .i64 bver, .int .i64 bkind, .string lb, .slice va k vc, .slice ta TN.length tc], .int .i64 0])) W) := by
          intro W hR h1 h2
          obtain ⟨fv, h3, h4⟩ := h2
          have hbel := HM.out.bel.trans hR.low
          refine ⟨by rw [h1, HXr.out], by rw [h3, HYp.out], HOk2.out _ _ W ?_ hbel⟩
          have hwcs := HWc.out
          have hft2 : FR w wc.heap.size (.slice ma ML.length mc) ML W := hft.kept16 (fun i hi hl => hR.but i (by omega) (by omega) hl)
          have htr2 : TR B3 (.slice ta TN.length tc) TN W := HTR.out.keptT (fun i cs hi hc => hR.but i (by have := HBs.out; omega) (by have := HBs.out; omega) (Array.getElem?_eq_some_iff.1 hc).1)
          exact ⟨hft2.fl hbel, htr2.tl⟩
        clear hXr hYp HPre HOk HErr hft HTR HM HS3 hbox he h64 hx0 hy0 hltM hBM4 HOk2 hWs HBl HMl
        go_upto_region 24 with fail
        clear m0 m1 m2 m3 m4 y0 y1 y2 y3 y4
        apply wp_region_rel (R := Ra w.heap.size (w.heap.size + 2) (w.heap.size + 3) wr.heap.size Xr Yp []) (V := [SPR.eq _ (.agg #[.int .i64 aid, .int .i64 aver, .int .i64 akind, .string la, .slice ma ML.length mc]), SPR.eq _ (.pointer (some ⟨w.heap.size, 0, none⟩)), SPR.eq _ (.int .i64 aid), SPR.eq _ (.agg #[.int .i64 bid, .int .i64 bver, .int .i64 bkind, .string lb, .slice va k vc]), SPR.eq _ (.slice ta TN.length tc), SPR.eq _ (.agg #[.int .i64 aid, .int .i64 bid, .int .i64 bver, .int .i64 bkind, .string lb, .slice va k vc, .slice ta TN.length tc]), SPR.pr16 _ _ _ _ _ _ _, SPR.pp16 _ _ _ _ _ _ _, SPR.eq _ (.int .i64 0)])
        case htrans => exact fun _ _ _ h k => h.trans k
        case hdrew => exact Ra.below HSz.out (Below.refl _ _).drew
        case hm => kernel_rfl
        case hd => kernel_rfl
        case hb => kernel_rfl
        case hA =>
          intro vs
          simp only [puts, Act.put, List.setIfInBounds_toArray, List.set_cons_zero, List.set_cons_succ]
          exact rfl
        case hob =>
          refine ObsR.cons _ _ _ _ _ _ _ ?o0 (ObsR.cons _ _ _ _ _ _ _ ?o1 (ObsR.cons _ _ _ _ _ _ _ ?o2 (ObsR.cons _ _ _ _ _ _ _ ?o3 (ObsR.cons _ _ _ _ _ _ _ ?o4 (ObsR.cons _ _ _ _ _ _ _ ?o5 (ObsR.cons _ _ _ _ _ _ _ ?o6 (ObsR.cons _ _ _ _ _ _ _ ?o7 (ObsR.cons _ _ _ _ _ _ _ ?o8 (ObsR.nil _ _ _ _ _ _ _)))))))))
          case o0 =>
            intro vs W hw hd K hK
            obtain ⟨⟨m0, m1, m2, m3, m4⟩, -⟩ := rcells (HBoxe.out W hw)
            go_simp
            exact hK.out _ _ rfl Ra.refl
          case o1 =>
            intro vs W hw hd K hK
            go_simp
            exact hK.out _ _ rfl Ra.refl
          case o2 =>
            intro vs W hw hd K hK
            have h1 : vs 1 = .pointer (some ⟨w.heap.size, 0, none⟩) := hd 1 (by kernel_rfl)
            obtain ⟨⟨x0, x1, x2, x3, x4⟩, -⟩ := rcells (HXe.out W hw)
            simp only [Nat.reduceAdd, h1] at hK ⊢
            go_simp
            exact hK.out _ _ rfl Ra.refl
          case o3 =>
            intro vs W hw hd K hK
            obtain ⟨⟨y0, y1, y2, y3, y4⟩, -⟩ := rcells (HYe.out W hw)
            go_simp
            exact hK.out _ _ rfl Ra.refl
          case o4 =>
            intro vs W hw hd K hK
            go_simp
            exact hK.out _ _ rfl Ra.refl
          case o5 =>
            intro vs W hw hd K hK
            have h2 : vs 2 = .int .i64 aid := hd 2 (by kernel_rfl)
            have h3 : vs 3 = .agg #[.int .i64 bid, .int .i64 bver, .int .i64 bkind, .string lb, .slice va k vc] := hd 3 (by kernel_rfl)
            have h4 : vs 4 = .slice ta TN.length tc := hd 4 (by kernel_rfl)
            simp only [Nat.reduceAdd, h2, h3, h4] at hK ⊢
            go_simp
            exact hK.out _ _ rfl Ra.refl
          case o6 =>
            intro vs W hw hd K hK
            have h0 : vs 0 = .agg #[.int .i64 aid, .int .i64 aver, .int .i64 akind, .string la, .slice ma ML.length mc] := hd 0 (by kernel_rfl)
            obtain ⟨cs, hcs, hz⟩ := hw.shr _ _ HR0.out
            have hS := Ra.rowR (n0 := w.heap.size) (p := w.heap.size + 3) (N := wr.heap.size) (Y := Yp) (L := []) hcs HXr.out hz.symm (by omega) (by omega) HRr.out
            apply step_store_row16 (ty := 31) (x := .tmp 6) (y := .tmp 105) (g := w.heap.size + 2) (cells := #[.int .i64 aid, .int .i64 aver, .int .i64 akind, .string la, .slice ma ML.length mc]) (t := 31) (old := cs)
            case hgd => rfl
            case ho => rfl
            case hx => simp [Act.eval]
            case hy => simp [Act.eval, h0]
            case hg => exact hcs
            case hi => kernel_rfl
            case hold => exact hz
            case h1 => simp [Value.oneCell']
            case h => exact hK.out undef _ hS.2 hS.1
          case o7 =>
            intro vs W hw hd K hK
            have h5 : vs 5 = .agg #[.int .i64 aid, .int .i64 bid, .int .i64 bver, .int .i64 bkind, .string lb, .slice va k vc, .slice ta TN.length tc] := hd 5 (by kernel_rfl)
            obtain ⟨cs, hcs, hz⟩ := hw.shp _ _ HP0.out
            have hS := Ra.rowP (n0 := w.heap.size) (r := w.heap.size + 2) (X := Xr) hcs (HYp.out (.slice none 0 0)) hz.symm (FT.nil wr.heap.size W) (by omega) (by omega) HRp.out
            apply step_store_row16 (ty := 36) (x := .tmp 7) (y := .tmp 110) (g := w.heap.size + 3) (cells := #[.int .i64 aid, .int .i64 bid, .int .i64 bver, .int .i64 bkind, .string lb, .slice va k vc, .slice ta TN.length tc]) (t := 36) (old := cs)
            case hgd => rfl
            case ho => rfl
            case hx => simp [Act.eval]
            case hy => simp [Act.eval, h5]
            case hg => exact hcs
            case hi => kernel_rfl
            case hold => exact hz
            case h1 => simp [Value.oneCell']
            case h => exact hK.out undef _ hS.2 hS.1
          case o8 =>
            intro vs W hw hd K hK
            go_simp
            exact hK.out _ _ rfl Ra.refl
        case hfin =>
          intro vs W hw hd
          have h6 := hd 6 (by decide)
          have h7 := hd 7 (by decide)
          have h8 : vs 8 = .int .i64 0 := hd 8 (by decide)
          obtain ⟨FA1, FA2, HG⟩ := HEnd.out W hw h6 h7
          have FA1 := Lib.hid FA1
          have FA2 := Lib.hid FA2
          have HG := Lib.hid HG
          simp only [Nat.reduceAdd, h8]
          clear hd h6 h7 h8 hw HEnd HBoxe HXe HYe HR0 HP0
          go_wp2
          (try simp only [Exit.inBlock, Exit.then])
          refine bodyPost_ret (results_three16 rfl _ _ (w.heap.size + 2) (w.heap.size + 3) _ _ _ _ _ _ _ _ rfl rfl FA1.out FA2.out Tryd.underlying31 rfl (by kernel_rfl) Tryd.underlying36 rfl (by kernel_rfl)) rfl ?_
          exact HG.out
end

end Go.Proofs.YtceneblmllpdnaaDoor
