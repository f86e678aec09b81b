import PyProof.Rows.All
import Wide.All
import OpenK.AllK
import Wide.FinOn
import Open.SpecLaws
import KE.OsGo
import HandS.ForSpec
import HandS.WordsDict
import HandS.More
import HandS.SetFor
import HandS.Remove
import HandS.Lambda
import HandS.SortKw
import KE.SortKeyHeap
import KE.SortData
import KE.KNestM
import PySem.Challenge.RW_cacherules_s03_answers
set_option Elab.async false
set_option maxRecDepth 100000
set_option maxHeartbeats 2000000
/-! ### 1. The mirror -/
namespace Cr
open PySem L2
open Rb20 (sooner turned)
abbrev KVs := List (Key × V)
structure M where
  rule : Int
  room : Int
  line : List Int
  safe : List Int
  uses : KVs
  marked : KVs
abbrev ki (k : Int) : Key := Sum.inl k
def cnt (kvs : KVs) (k : Int) : Int := match valV kvs (ki k) with
  | some (.int n) => n
  | _ => 0
def TOP : Int := 4294967295
def after (n : Int) : Int := if TOP < n + 1 then TOP else n + 1
def lowPart (kvs : KVs) (u : Int) (l : List Int) : List Int := l.filter fun x => decide (cnt kvs x ≤ u)
def highPart (kvs : KVs) (u : Int) (l : List Int) : List Int := l.filter fun x => decide (u < cnt kvs x)
def M.place (m : M) (k : Int) : M := { m with line := lowPart m.uses (cnt m.uses k) m.line ++ k :: highPart m.uses (cnt m.uses k) m.line }
def M.put1 (m : M) (k : Int) : M := { m with uses := putK m.uses (ki k) (.int 1) }
def M.come (m : M) (k : Int) : M := if m.rule = 2 then (m.put1 k).place k else { m.put1 k with line := m.line ++ [k] }
def M.inSafe (m : M) (k : Int) : M := if k ∈ m.safe then { m with safe := m.safe.erase k ++ [k] } else { m with line := m.line.erase k, safe := m.safe ++ [k] }
def M.back (m : M) : M := if m.room / 2 < (m.safe.length : Int) then { m with line := m.line ++ m.safe.take 1, safe := m.safe.drop 1 } else m
def M.safer (m : M) (k : Int) : M := (m.inSafe k).back
def M.count (m : M) (k : Int) : M := { m with uses := putK m.uses (ki k) (.int (after (cnt m.uses k))) }
def M.off (m : M) (k : Int) : M := { m with line := m.line.erase k }
def M.again (m : M) (k : Int) : M :=
  if m.rule = 1 then { m.count k with line := m.line.erase k ++ [k] }
  else if m.rule = 2 then ((m.count k).off k).place k
  else if m.rule = 3 then { m.count k with marked := putK m.marked (ki k) (.bl true) }
  else if m.rule = 4 then (m.count k).safer k
  else m.count k
def M.turn (m : M) (x : Int) (r : List Int) : M := { m with line := r ++ [x], marked := dropK m.marked (ki x) }
def spin : Nat → M → M
  | 0, m => m
  | f + 1, m => match m.line with
    | [] => m
    | x :: r => if (valV m.marked (ki x)).isSome = true then spin f (m.turn x r) else m
def M.gone (m : M) : M := match m.line with
  | [] => m
  | x :: r => { m with line := r, uses := dropK m.uses (ki x) }
def M.leave (m : M) : M := (spin m.marked.length m).gone
def M.has (m : M) (k : Int) : Bool := (valV m.uses (ki k)).isSome
def M.use (m : M) (k : Int) : M := if m.has k = true then m.again k else (if (m.uses.length : Int) = m.room then m.leave else m).come k
def M.fresh (rule room : Int) : M := ⟨rule, room, [], [], [], []⟩
/-! ### 2. Dicts -/
section
variable {κ : Type} [DecidableEq κ]
theorem keys_put_old {kvs : List (κ × V)} {k : κ} {v : V} (h : (valV kvs k).isSome = true) : (putK kvs k v).map (·.1) = kvs.map (·.1) := by
  unfold putK
  rw [valV_any, if_pos h, List.map_map]
  refine List.map_congr_left fun a _ => ?_
  show (if a.1 = k then (a.1, v) else a).1 = a.1
  split <;> rfl
theorem keys_put_new {kvs : List (κ × V)} {k : κ} {v : V} (h : valV kvs k = none) : (putK kvs k v).map (·.1) = kvs.map (·.1) ++ [k] := by
  rw [putK_new v h, List.map_append]
  rfl
theorem keys_drop {kvs : List (κ × V)} {k : κ} : (dropK kvs k).map (·.1) = (kvs.map (·.1)).filter fun x => decide (x ≠ k) := by
  unfold dropK
  rw [List.filter_map]
  rfl
theorem valV_drop (k j : κ) : ∀ kvs : List (κ × V), valV (dropK kvs k) j = if j = k then none else valV kvs j
  | [] => by
    show none = _
    split <;> rfl
  | p :: r => by
    have ih := valV_drop k j r
    by_cases e : p.1 = k
    · rw [dropK_pos e, ih]
      by_cases ej : j = k
      · rw [if_pos ej, if_pos ej]
      · rw [if_neg ej, if_neg ej, valV_neg fun z => ej (z.symm.trans e)]
    · rw [dropK_neg e]
      by_cases ep : p.1 = j
      · rw [valV_pos ep, valV_pos ep, if_neg fun z => e (ep.trans z)]
      · rw [valV_neg ep, valV_neg ep, ih]
theorem isSome_iff {kvs : List (κ × V)} {k : κ} : (valV kvs k).isSome = true ↔ k ∈ kvs.map (·.1) := by
  rw [← valV_any, List.any_eq_true, List.mem_map]
  constructor
  · rintro ⟨p, hp, e⟩
    exact ⟨p, hp, of_decide_eq_true e⟩
  · rintro ⟨p, hp, e⟩
    exact ⟨p, hp, decide_eq_true e⟩
end
/-- all the counts are whole numbers -/
def Ints (kvs : KVs) : Prop := ∀ k v, valV kvs k = some v → ∃ n, v = .int n
theorem Ints.put {kvs : KVs} (h : Ints kvs) (k : Key) (n : Int) : Ints (putK kvs k (.int n)) := by
  intro j v e
  rw [valV_put] at e
  split at e
  · exact ⟨n, (Option.some.inj e).symm⟩
  · exact h j v e
theorem Ints.drop {kvs : KVs} (h : Ints kvs) (k : Key) : Ints (dropK kvs k) := by
  intro j v e
  rw [valV_drop] at e
  split at e
  · cases e
  · exact h j v e
theorem Ints.at {kvs : KVs} (h : Ints kvs) {k : Int} (e : (valV kvs (ki k)).isSome = true) : valV kvs (ki k) = some (.int (cnt kvs k)) := by
  unfold cnt
  cases q : valV kvs (ki k) with
  | none => rw [q] at e; cases e
  | some v =>
    obtain ⟨n, rfl⟩ := h _ _ q
    rfl
theorem ki_inj {a b : Int} : ki a = ki b ↔ a = b := ⟨fun h => Sum.inl.inj h, fun h => congrArg _ h⟩
theorem cnt_put {kvs : KVs} {k j n : Int} : cnt (putK kvs (ki k) (.int n)) j = if j = k then n else cnt kvs j := by
  unfold cnt
  rw [valV_put]
  by_cases e : j = k
  · rw [if_pos (ki_inj.mpr e), if_pos e]
  · rw [if_neg fun z => e (ki_inj.mp z), if_neg e]
theorem cnt_of {kvs : KVs} {k n : Int} (h : valV kvs (ki k) = some (.int n)) : cnt kvs k = n := by
  unfold cnt
  rw [h]
end Cr
namespace Cr
open PySem L2
open Rb20 (sooner turned)
/-! ### 3. What the mirror's state has to do with the specification's cache -/
abbrev ik (e : Rb20.Entry) : Int := (e.key : Int)
structure Rel (m : M) (s : Rb20.Cache) (es : List Rb20.Entry) : Prop where
  rule : m.rule = (s.rule : Int)
  room : m.room = (s.room : Int)
  r4 : s.rule ≤ 4
  r1 : 1 ≤ s.room
  rM : s.room ≤ 1024
  perm : es.Perm s.first
  same : s.rule ≠ 2 → es = s.first
  srt : s.rule = 2 → es.Pairwise (fun x y => sooner x y = true)
  line : m.line = es.map ik
  safe : m.safe = s.safe.map ik
  nd : (m.line ++ m.safe).Nodup
  sf0 : s.rule ≠ 4 → s.safe = []
  sfL : s.safe.length ≤ s.room / 2
  len : m.line.length + m.safe.length ≤ s.room
  ukeys : (m.uses.map (·.1)).Perm ((m.line ++ m.safe).map ki)
  uints : Ints m.uses
  ucnt : s.rule = 2 → ∀ e ∈ es, cnt m.uses (ik e) = e.uses
  clk : s.rule = 2 → ∀ e ∈ es, e.last ≤ s.clock
  mnd : (m.marked.map (·.1)).Nodup
  mkeys : ∀ q ∈ m.marked.map (·.1), q ∈ m.line.map ki
  mks : s.rule = 3 → ∀ e ∈ es, (valV m.marked (ki (ik e))).isSome = e.mark
  nomk : s.rule ≠ 3 → m.marked = []
theorem mem_ki {k : Int} {l : List Int} : ki k ∈ l.map ki ↔ k ∈ l := by
  rw [List.mem_map]
  constructor
  · rintro ⟨a, ha, e⟩
    rw [← ki_inj.mp e]
    exact ha
  · intro h
    exact ⟨k, h, rfl⟩
theorem Rel.has {m : M} {s : Rb20.Cache} {es : List Rb20.Entry} (R : Rel m s es) (k : Int) : (valV m.uses (ki k)).isSome = true ↔ k ∈ m.line ++ m.safe := by
  rw [isSome_iff, R.ukeys.mem_iff, mem_ki]
theorem Rel.ulen {m : M} {s : Rb20.Cache} {es : List Rb20.Entry} (R : Rel m s es) : m.uses.length = m.line.length + m.safe.length := by
  have h := R.ukeys.length_eq
  rw [List.length_map, List.length_map, List.length_append] at h
  exact h
theorem Rel.mlen {m : M} {s : Rb20.Cache} {es : List Rb20.Entry} (R : Rel m s es) : m.marked.length ≤ m.line.length := by
  have h := R.mnd.length_le_of_subset (l₂ := m.line.map ki) fun q hq => R.mkeys q hq
  rw [List.length_map, List.length_map] at h
  exact h
theorem mem_ik {k : Nat} {l : List Rb20.Entry} : (k : Int) ∈ l.map ik ↔ ∃ e ∈ l, e.key = k := by
  rw [List.mem_map]
  constructor
  · rintro ⟨e, he, h⟩
    exact ⟨e, he, by have h : (e.key : Int) = (k : Int) := h; omega⟩
  · rintro ⟨e, he, rfl⟩
    exact ⟨e, he, rfl⟩
theorem Rel.ll {m : M} {s : Rb20.Cache} {es : List Rb20.Entry} (R : Rel m s es) : m.line.length = s.first.length := by
  rw [R.line, List.length_map, R.perm.length_eq]
theorem Rel.sl {m : M} {s : Rb20.Cache} {es : List Rb20.Entry} (R : Rel m s es) : m.safe.length = s.safe.length := by
  rw [R.safe, List.length_map]
theorem Rel.mem {m : M} {s : Rb20.Cache} {es : List Rb20.Entry} (R : Rel m s es) (k : Nat) : (k : Int) ∈ m.line ++ m.safe ↔ ∃ e ∈ s.all, e.key = k := by
  rw [R.line, R.safe, ← List.map_append, mem_ik]
  constructor
  · rintro ⟨e, he, h⟩
    refine ⟨e, ?_, h⟩
    rcases List.mem_append.mp he with q | q
    · exact List.mem_append.mpr (.inl (R.perm.mem_iff.mp q))
    · exact List.mem_append.mpr (.inr q)
  · rintro ⟨e, he, h⟩
    refine ⟨e, ?_, h⟩
    rcases List.mem_append.mp he with q | q
    · exact List.mem_append.mpr (.inl (R.perm.mem_iff.mpr q))
    · exact List.mem_append.mpr (.inr q)
theorem Rel.holds {m : M} {s : Rb20.Cache} {es : List Rb20.Entry} (R : Rel m s es) (k : Nat) : s.holds k = m.has (k : Int) := by
  have h1 : s.holds k = true ↔ ∃ e ∈ s.all, e.key = k := by
    unfold Rb20.Cache.holds
    rw [List.any_eq_true]
    constructor
    · rintro ⟨e, he, h⟩
      exact ⟨e, he, beq_iff_eq.mp h⟩
    · rintro ⟨e, he, h⟩
      exact ⟨e, he, beq_iff_eq.mpr h⟩
  have h2 : m.has (k : Int) = true ↔ ∃ e ∈ s.all, e.key = k := (R.has k).trans (R.mem k)
  exact Bool.eq_iff_iff.mpr (h1.trans h2.symm)
/-! ### 4. Lists -/
theorem without_map {k : Nat} {l : List Rb20.Entry} (h : (l.map ik).Nodup) : (Rb20.without k l).map ik = (l.map ik).erase (k : Int) := by
  rw [h.erase_eq_filter, List.filter_map]
  unfold Rb20.without
  refine congrArg _ (List.filter_congr fun x _ => ?_)
  show (x.key != k) = ((x.key : Int) != (k : Int))
  rw [Bool.eq_iff_iff, bne_iff_ne, bne_iff_ne]
  omega
theorem without_no {k : Nat} {l : List Rb20.Entry} (h : ¬ (k : Int) ∈ l.map ik) : Rb20.without k l = l := by
  unfold Rb20.without
  rw [List.filter_eq_self]
  intro a ha
  rw [bne_iff_ne]
  intro e
  exact h (mem_ik.mpr ⟨a, ha, e⟩)
theorem without_mem {k : Nat} {l : List Rb20.Entry} {e : Rb20.Entry} (h : e ∈ Rb20.without k l) : e ∈ l ∧ e.key ≠ k := by
  unfold Rb20.without at h
  rw [List.mem_filter, bne_iff_ne] at h
  exact h
theorem sooner_iff {x y : Rb20.Entry} : sooner x y = true ↔ x.uses < y.uses ∨ (x.uses = y.uses ∧ x.last < y.last) := by
  unfold sooner
  rw [Bool.or_eq_true, Bool.and_eq_true, decide_eq_true_iff, decide_eq_true_iff, beq_iff_eq]
/-- the entry goes behind all that have no more uses -/
def ins (e : Rb20.Entry) (l : List Rb20.Entry) : List Rb20.Entry := (l.filter fun x => decide (x.uses ≤ e.uses)) ++ e :: l.filter fun x => decide (e.uses < x.uses)
theorem ins_perm (e : Rb20.Entry) (l : List Rb20.Entry) : (ins e l).Perm (e :: l) := by
  unfold ins
  refine List.perm_middle.trans (List.Perm.cons e ?_)
  have q := List.filter_append_perm (fun x : Rb20.Entry => decide (x.uses ≤ e.uses)) l
  have c : (l.filter fun x => !decide (x.uses ≤ e.uses)) = l.filter fun x => decide (e.uses < x.uses) := by
    refine List.filter_congr fun x _ => ?_
    rw [Bool.eq_iff_iff, Bool.not_eq_true', decide_eq_false_iff_not, decide_eq_true_iff]
    omega
  rw [c] at q
  exact q
theorem ins_srt {e : Rb20.Entry} {l : List Rb20.Entry} (h : l.Pairwise (fun x y => sooner x y = true)) (ht : ∀ x ∈ l, x.last < e.last) : (ins e l).Pairwise (fun x y => sooner x y = true) := by
  unfold ins
  rw [List.pairwise_append, List.pairwise_cons]
  refine ⟨h.filter _, ⟨fun a ha => ?_, h.filter _⟩, fun a ha b hb => ?_⟩
  · rw [List.mem_filter, decide_eq_true_iff] at ha
    exact sooner_iff.mpr (.inl ha.2)
  · rw [List.mem_filter, decide_eq_true_iff] at ha
    have hx := ht a ha.1
    rcases List.mem_cons.mp hb with q | q
    · subst q
      exact sooner_iff.mpr (by omega)
    · rw [List.mem_filter, decide_eq_true_iff] at q
      exact sooner_iff.mpr (by omega)
theorem ins_map {kvs : KVs} {e : Rb20.Entry} {l : List Rb20.Entry} (hc : ∀ x ∈ l, cnt kvs (ik x) = x.uses) : (ins e l).map ik = lowPart kvs e.uses (l.map ik) ++ ik e :: highPart kvs e.uses (l.map ik) := by
  unfold ins lowPart highPart
  rw [List.map_append, List.map_cons, List.filter_map, List.filter_map]
  congr 1
  · refine congrArg _ (List.filter_congr fun x hx => ?_)
    show decide (x.uses ≤ e.uses) = decide (cnt kvs (ik x) ≤ e.uses)
    rw [hc x hx, Bool.eq_iff_iff, decide_eq_true_iff, decide_eq_true_iff]
    omega
  · refine congrArg _ (congrArg _ (List.filter_congr fun x hx => ?_))
    show decide (e.uses < x.uses) = decide ((e.uses : Int) < cnt kvs (ik x))
    rw [hc x hx, Bool.eq_iff_iff, decide_eq_true_iff, decide_eq_true_iff]
    omega
/-- of a row in order the first leaves first -/
theorem first_of : ∀ (l : List Rb20.Entry) (a : Rb20.Entry), (l.foldl (fun a b => if sooner b a = true then b else a) a) ∈ a :: l ∧ ∀ b ∈ a :: l, sooner b (l.foldl (fun a b => if sooner b a = true then b else a) a) ≠ true
  | [], a => by
    refine ⟨List.mem_cons_self, fun b hb => ?_⟩
    have e : b = a := by simpa using hb
    subst e
    show sooner b b ≠ true
    rw [Ne, sooner_iff]
    omega
  | c :: r, a => by
    rw [List.foldl_cons]
    by_cases h : sooner c a = true
    · rw [if_pos h]
      obtain ⟨h1, h2⟩ := first_of r c
      refine ⟨List.mem_cons_of_mem _ h1, fun b hb => ?_⟩
      rcases List.mem_cons.mp hb with q | q
      · subst q
        have z := h2 c List.mem_cons_self
        rw [Ne, sooner_iff] at z ⊢
        rw [sooner_iff] at h
        omega
      · exact h2 b q
    · rw [if_neg h]
      obtain ⟨h1, h2⟩ := first_of r a
      refine ⟨?_, fun b hb => ?_⟩
      · rcases List.mem_cons.mp h1 with q | q
        · rw [q]
          exact List.mem_cons_self
        · exact List.mem_cons_of_mem _ (List.mem_cons_of_mem _ q)
      · rcases List.mem_cons.mp hb with q | q
        · subst q
          exact h2 b List.mem_cons_self
        · rcases List.mem_cons.mp q with q | q
          · subst q
            have z := h2 a List.mem_cons_self
            rw [Ne, sooner_iff] at z ⊢
            rw [sooner_iff] at h
            omega
          · exact h2 b (List.mem_cons_of_mem _ q)
theorem first_is {y x : Rb20.Entry} {es r : List Rb20.Entry} (hs : (y :: es).Pairwise (fun x y => sooner x y = true)) (hp : (y :: es).Perm (x :: r)) : (r.foldl (fun a b => if sooner b a = true then b else a) x) = y := by
  obtain ⟨h1, h2⟩ := first_of r x
  generalize (r.foldl (fun a b => if sooner b a = true then b else a) x) = z at h1 h2
  have hz := hp.mem_iff.mpr h1
  have hy := h2 y (hp.mem_iff.mp List.mem_cons_self)
  rcases List.mem_cons.mp hz with q | q
  · exact q
  · exact absurd ((List.pairwise_cons.mp hs).1 z q) hy
end Cr
namespace Cr
open PySem L2
open Rb20 (sooner turned)
/-! ### 5. One leaves -/
theorem cnt_drop {kvs : KVs} {k j : Int} (h : j ≠ k) : cnt (dropK kvs (ki k)) j = cnt kvs j := by
  unfold cnt
  rw [valV_drop, if_neg fun z => h (ki_inj.mp z)]
theorem Rel.ndl {m : M} {s : Rb20.Cache} {es : List Rb20.Entry} (R : Rel m s es) : (es.map ik).Nodup := by
  have h := R.nd
  rw [R.line] at h
  exact (List.nodup_append.mp h).1
theorem Rel.turn {m : M} {s : Rb20.Cache} {x : Rb20.Entry} {r : List Rb20.Entry} (R : Rel m s (x :: r)) (h3 : s.rule = 3) :
    Rel (m.turn (ik x) (r.map ik)) { s with first := r ++ [{ x with mark := false }] } (r ++ [{ x with mark := false }]) := by
  have hl : m.line = ik x :: r.map ik := R.line
  have hp : (r.map ik ++ [ik x]).Perm m.line := by
    rw [hl]
    exact List.perm_append_comm
  have hp2 : ((r.map ik ++ [ik x]) ++ m.safe).Perm (m.line ++ m.safe) := hp.append_right _
  have h2 : ¬ s.rule = 2 := by omega
  have hn := R.ndl
  rw [List.map_cons, List.nodup_cons] at hn
  refine ⟨R.rule, R.room, R.r4, R.r1, R.rM, .refl _, fun _ => rfl, fun z => absurd z h2, ?_, R.safe, hp2.nodup_iff.mpr R.nd, R.sf0, R.sfL, ?_, R.ukeys.trans (hp2.symm.map _), R.uints, fun z => absurd z h2, fun z => absurd z h2, nd_dropK R.mnd, ?_, ?_, fun z => absurd h3 z⟩
  · show r.map ik ++ [ik x] = _
    rw [List.map_append]
    rfl
  · show (r.map ik ++ [ik x]).length + m.safe.length ≤ s.room
    rw [hp.length_eq]
    exact R.len
  · intro q hq
    show q ∈ (r.map ik ++ [ik x]).map ki
    rw [(hp.map ki).mem_iff]
    change q ∈ (dropK m.marked (ki (ik x))).map (·.1) at hq
    rw [keys_drop, List.mem_filter] at hq
    exact R.mkeys q hq.1
  · intro _ e he
    show (valV (dropK m.marked (ki (ik x))) (ki (ik e))).isSome = e.mark
    rw [valV_drop]
    rcases List.mem_append.mp he with q | q
    · have ne : ik e ≠ ik x := fun z => hn.1 (by rw [← z]; exact List.mem_map_of_mem q)
      rw [if_neg fun z => ne (ki_inj.mp z)]
      exact R.mks h3 e (List.mem_cons_of_mem _ q)
    · have e1 := List.mem_singleton.mp q
      subst e1
      rw [if_pos rfl]
      rfl
theorem Rel.spin : ∀ (n : Nat) {m : M} {s : Rb20.Cache} {es : List Rb20.Entry} (f : Nat), m.marked.length = n → Rel m s es → s.rule = 3 → n < f → es = s.first →
    Rel (spin n m) { s with first := turned f es } (turned f es) ∧ (turned f es).length = es.length ∧ ∀ x r, turned f es = x :: r → x.mark = false := by
  intro n
  induction n with
  | zero =>
    intro m s es f hn R h3 hf he
    obtain ⟨f, rfl⟩ : ∃ g, f = g + 1 := ⟨f - 1, by omega⟩
    cases es with
    | nil =>
      refine ⟨?_, rfl, fun x r z => by cases z⟩
      show Rel m { s with first := [] } []
      rw [he]
      rw [he] at R
      exact R
    | cons x r =>
      have hm : x.mark = false := by
        have q := R.mks h3 x List.mem_cons_self
        rw [List.length_eq_zero_iff.mp hn] at q
        exact q.symm
      have ht : turned (f + 1) (x :: r) = x :: r := by
        show (if x.mark = true then _ else x :: r) = x :: r
        rw [hm]
        rfl
      rw [ht]
      refine ⟨?_, rfl, fun y t z => by rw [← (List.cons.inj z).1]; exact hm⟩
      show Rel m { s with first := x :: r } (x :: r)
      rw [he]
      rw [he] at R
      exact R
  | succ n ih =>
    intro m s es f hn R h3 hf he
    obtain ⟨f, rfl⟩ : ∃ g, f = g + 1 := ⟨f - 1, by omega⟩
    cases es with
    | nil =>
      have hl : m.line = [] := R.line
      refine ⟨?_, rfl, fun x r z => by cases z⟩
      have e1 : Cr.spin (n + 1) m = m := by
        unfold Cr.spin
        rw [hl]
      rw [e1]
      show Rel m { s with first := [] } []
      rw [he]
      rw [he] at R
      exact R
    | cons x r =>
      have hl : m.line = ik x :: r.map ik := R.line
      have hq := R.mks h3 x List.mem_cons_self
      have e1 : Cr.spin (n + 1) m = if (valV m.marked (ki (ik x))).isSome = true then Cr.spin n (m.turn (ik x) (r.map ik)) else m := by
        conv => lhs; unfold Cr.spin
        rw [hl]
      cases hm : x.mark with
      | false =>
        rw [hm] at hq
        have ht : turned (f + 1) (x :: r) = x :: r := by
          show (if x.mark = true then _ else x :: r) = x :: r
          rw [hm]
          rfl
        rw [ht, e1, hq]
        refine ⟨?_, rfl, fun y t z => by rw [← (List.cons.inj z).1]; exact hm⟩
        show Rel m { s with first := x :: r } (x :: r)
        rw [he]
        rw [he] at R
        exact R
      | true =>
        rw [hm] at hq
        have ht : turned (f + 1) (x :: r) = turned f (r ++ [{ x with mark := false }]) := by
          show (if x.mark = true then turned f (r ++ [{ x with mark := false }]) else x :: r) = _
          rw [hm]
          rfl
        rw [ht, e1, hq, if_pos rfl]
        have hd : (m.turn (ik x) (r.map ik)).marked.length = n := by
          have q := dropK_len R.mnd (isSome_iff.mp hq)
          show (dropK m.marked (ki (ik x))).length = n
          omega
        obtain ⟨a, b, c⟩ := ih f hd (R.turn h3) h3 (by omega) rfl
        refine ⟨a, ?_, c⟩
        rw [b, List.length_append]
        rfl
theorem Rel.gone {m : M} {s : Rb20.Cache} {x : Rb20.Entry} {r F : List Rb20.Entry} (R : Rel m s (x :: r)) (hm : s.rule = 3 → x.mark = false) (hF : r.Perm F) (hs : s.rule ≠ 2 → F = r) : Rel m.gone { s with first := F } r := by
  have hl : m.line = ik x :: r.map ik := R.line
  have eg : m.gone = { m with line := r.map ik, uses := dropK m.uses (ki (ik x)) } := by
    unfold M.gone
    rw [hl]
  have hnd := R.nd
  rw [hl, List.cons_append, List.nodup_cons] at hnd
  have hn := R.ndl
  rw [List.map_cons, List.nodup_cons] at hn
  rw [eg]
  refine ⟨R.rule, R.room, R.r4, R.r1, R.rM, hF, fun z => (hs z).symm, fun z => (List.pairwise_cons.mp (R.srt z)).2, rfl, R.safe, hnd.2, R.sf0, R.sfL, ?_, ?_, R.uints.drop _, fun z e he => ?_, fun z e he => R.clk z e (List.mem_cons_of_mem _ he), R.mnd, fun q hq => ?_, fun z e he => R.mks z e (List.mem_cons_of_mem _ he), R.nomk⟩
  · have q := R.len
    rw [hl, List.length_cons] at q
    show (r.map ik).length + m.safe.length ≤ s.room
    omega
  · show ((dropK m.uses (ki (ik x))).map (·.1)).Perm ((r.map ik ++ m.safe).map ki)
    rw [keys_drop]
    have q := R.ukeys.filter (fun z => decide (z ≠ ki (ik x)))
    rw [hl, List.cons_append, List.map_cons, List.filter_cons, if_neg (by simp)] at q
    have c : ((r.map ik ++ m.safe).map ki).filter (fun z => decide (z ≠ ki (ik x))) = (r.map ik ++ m.safe).map ki := by
      rw [List.filter_eq_self]
      intro a ha
      rw [decide_eq_true_iff]
      intro z
      rw [z, mem_ki] at ha
      exact hnd.1 ha
    rw [c] at q
    exact q
  · show cnt (dropK m.uses (ki (ik x))) (ik e) = e.uses
    have ne : ik e ≠ ik x := fun z => hn.1 (by rw [← z]; exact List.mem_map_of_mem he)
    rw [cnt_drop ne]
    exact R.ucnt z e (List.mem_cons_of_mem _ he)
  · have h3 : s.rule = 3 := by
      by_cases h3 : s.rule = 3
      · exact h3
      · change q ∈ m.marked.map (·.1) at hq
        rw [R.nomk h3] at hq
        cases hq
    have a := R.mkeys q hq
    rw [hl, List.map_cons] at a
    rcases List.mem_cons.mp a with z | z
    · have b := R.mks h3 x List.mem_cons_self
      rw [hm h3, ← z] at b
      rw [isSome_iff.mpr hq] at b
      cases b
    · exact z
/-- what stands in the way of nothing else: the leaving of one -/
theorem Rel.leave {m : M} {s : Rb20.Cache} {es : List Rb20.Entry} (R : Rel m s es) (hne : es ≠ []) :
    ∃ (g : Nat) (s' : Rb20.Cache) (es' : List Rb20.Entry), Rb20.leaves s = some (g, s') ∧ Rel m.leave s' es' ∧ s'.clock = s.clock ∧ s'.rule = s.rule ∧ s'.room = s.room ∧ s'.safe = s.safe ∧ s'.first.length + 1 = s.first.length ∧ (∀ e ∈ s'.first, ∃ e' ∈ s.first, e'.key = e.key) := by
  by_cases h2 : s.rule = 2
  · cases es with
    | nil => exact absurd rfl hne
    | cons y r =>
      have hp := R.perm
      cases hf : s.first with
      | nil =>
        rw [hf] at hp
        exact absurd hp.length_eq (by simp)
      | cons x t =>
        rw [hf] at hp
        have e1 := first_is (R.srt h2) hp
        have hm : m.marked = [] := R.nomk (by omega)
        have e2 : m.leave = m.gone := by
          unfold M.leave
          rw [hm]
          rfl
        have hy : s.rule = 3 → y.mark = false := fun z => absurd (h2.symm.trans z) (by decide)
        have hn := R.ndl
        rw [List.map_cons, List.nodup_cons] at hn
        have e3 : Rb20.without y.key (y :: r) = r := by
          have q : Rb20.without y.key r = r := without_no hn.1
          unfold Rb20.without at q ⊢
          rw [List.filter_cons, if_neg (by simp), q]
        have hF : r.Perm (Rb20.without y.key (x :: t)) := by
          have q := hp.filter (fun z => z.key != y.key)
          change (Rb20.without y.key (y :: r)).Perm (Rb20.without y.key (x :: t)) at q
          rw [e3] at q
          exact q
        refine ⟨y.key, { s with first := Rb20.without y.key (x :: t) }, r, ?_, ?_, rfl, rfl, rfl, rfl, ?_, fun e he => ⟨e, (without_mem he).1, rfl⟩⟩
        · unfold Rb20.leaves
          rw [if_pos h2, hf]
          show some (_, _) = _
          rw [e1]
        · rw [e2]
          exact R.gone hy hF fun z => absurd h2 z
        · show (Rb20.without y.key (x :: t)).length + 1 = (x :: t).length
          rw [← hF.length_eq, ← hp.length_eq]
          rfl
  · have hes := R.same h2
    by_cases h3 : s.rule = 3
    · have hlt : m.marked.length < s.first.length + 1 := by
        have a := R.mlen
        rw [R.ll] at a
        omega
      obtain ⟨a, b, c⟩ := Rel.spin m.marked.length (s.first.length + 1) rfl R h3 hlt hes
      cases ht : turned (s.first.length + 1) es with
      | nil =>
        rw [ht] at b
        exact absurd (List.length_eq_zero_iff.mp b.symm) hne
      | cons x r =>
        rw [ht] at a b
        refine ⟨x.key, { s with first := r }, r, ?_, a.gone (fun _ => c x r ht) (.refl _) fun _ => rfl, rfl, rfl, rfl, rfl, ?_, fun e he => ?_⟩
        · unfold Rb20.leaves
          rw [if_neg h2, if_pos h3, ← hes]
          show (match turned (es.length + 1) es with | x :: r => _ | [] => _) = _
          have ht' : turned (es.length + 1) es = x :: r := by
            rw [hes] at ht ⊢
            exact ht
          rw [ht']
        · show r.length + 1 = s.first.length
          rw [← hes, ← b]
          rfl
        · have hk : (e.key : Int) ∈ (Cr.spin m.marked.length m).line ++ (Cr.spin m.marked.length m).safe := (a.mem e.key).mpr ⟨e, List.mem_append.mpr (.inl (List.mem_cons_of_mem _ he)), rfl⟩
          have hu : ∀ (n : Nat) (m : M), (Cr.spin n m).uses = m.uses := by
            intro n
            induction n with
            | zero => exact fun m => rfl
            | succ n ih =>
              intro m
              unfold Cr.spin
              split
              · rfl
              · split
                · rw [ih]
                  rfl
                · rfl
          have h1 := (a.has e.key).mpr hk
          rw [hu] at h1
          have h4 := (R.mem e.key).mp ((R.has e.key).mp h1)
          obtain ⟨e', h5, h6⟩ := h4
          unfold Rb20.Cache.all at h5
          rw [R.sf0 (by omega), List.append_nil] at h5
          exact ⟨e', h5, h6⟩
    · have hm : m.marked = [] := R.nomk h3
      have e2 : m.leave = m.gone := by
        unfold M.leave
        rw [hm]
        rfl
      cases es with
      | nil => exact absurd rfl hne
      | cons y r =>
        have hy : s.rule = 3 → y.mark = false := fun z => absurd z h3
        refine ⟨y.key, { s with first := r }, r, ?_, ?_, rfl, rfl, rfl, rfl, ?_, fun e he => ?_⟩
        · unfold Rb20.leaves
          rw [if_neg h2, if_neg h3, ← hes]
        · rw [e2]
          exact R.gone hy (.refl _) fun _ => rfl
        · rw [← hes]
          rfl
        · rw [← hes]
          exact ⟨e, List.mem_cons_of_mem _ he, rfl⟩
end Cr
namespace Cr
open PySem L2
open Rb20 (sooner turned)
/-! ### 6. One comes -/
theorem cnt_has {kvs : KVs} {k n : Int} (h : Ints kvs) (hs : (valV kvs (ki k)).isSome = true) (e : cnt kvs k = n) : valV kvs (ki k) = some (.int n) := by
  rw [h.at hs, e]
/-- the mirror with another line, and one key more that is counted 1 -/
theorem Rel.add {m : M} {s : Rb20.Cache} {es es' : List Rb20.Entry} {t : Nat} {k : Nat} {L : List Int} (R : Rel m s es) (hk : ¬ (k : Int) ∈ m.line ++ m.safe) (hlen : m.line.length + m.safe.length + 1 ≤ s.room)
    (hp : es'.Perm (es ++ [⟨k, 1, t, false⟩])) (hs : s.rule ≠ 2 → es' = es ++ [⟨k, 1, t, false⟩]) (hq : s.rule = 2 → es'.Pairwise (fun x y => sooner x y = true)) (hL : L = es'.map ik) (ht : s.clock ≤ t) :
    Rel { m.put1 (k : Int) with line := L } { s with clock := t, first := s.first ++ [⟨k, 1, t, false⟩] } es' := by
  have hno : valV m.uses (ki (k : Int)) = none := by
    cases z : valV m.uses (ki (k : Int)) with
    | none => rfl
    | some v => exact absurd ((R.has (k : Int)).mp (by rw [z]; rfl)) hk
  have hLp : L.Perm (m.line ++ [(k : Int)]) := by
    rw [hL, R.line]
    have q := hp.map ik
    rw [List.map_append] at q
    exact q
  have hall : (L ++ m.safe).Perm ((m.line ++ m.safe) ++ [(k : Int)]) := by
    refine (hLp.append_right m.safe).trans ?_
    rw [List.append_assoc, List.append_assoc]
    exact List.Perm.append_left _ List.perm_append_comm
  have hnd2 : ((m.line ++ m.safe) ++ [(k : Int)]).Nodup := nd_snoc R.nd hk
  have hkl : ¬ (k : Int) ∈ m.line := fun z => hk (List.mem_append.mpr (.inl z))
  refine ⟨R.rule, R.room, R.r4, R.r1, R.rM, ?_, fun z => ?_, hq, hL, R.safe, hall.nodup_iff.mpr hnd2, R.sf0, R.sfL, ?_, ?_, R.uints.put _ _, fun z e he => ?_, fun z e he => ?_, R.mnd, fun q hq => ?_, fun z3 e he => ?_, R.nomk⟩
  · exact hp.trans (R.perm.append_right _)
  · rw [hs z, R.same z]
  · have a := hLp.length_eq
    rw [List.length_append] at a
    show L.length + m.safe.length ≤ s.room
    rw [a]
    show m.line.length + 1 + m.safe.length ≤ s.room
    omega
  · show ((putK m.uses (ki (k : Int)) (.int 1)).map (·.1)).Perm ((L ++ m.safe).map ki)
    rw [keys_put_new hno]
    refine List.Perm.trans ?_ (hall.map ki).symm
    rw [List.map_append]
    exact R.ukeys.append_right _
  · show cnt (putK m.uses (ki (k : Int)) (.int 1)) (ik e) = e.uses
    rw [cnt_put]
    rcases List.mem_append.mp (hp.mem_iff.mp he) with q | q
    · have ne : ¬ ik e = (k : Int) := fun y => hkl (by rw [R.line, ← y]; exact List.mem_map_of_mem q)
      rw [if_neg ne]
      exact R.ucnt z e q
    · have e1 := List.mem_singleton.mp q
      subst e1
      rw [if_pos rfl]
      rfl
  · show e.last ≤ t
    rcases List.mem_append.mp (hp.mem_iff.mp he) with q | q
    · exact Nat.le_trans (R.clk z e q) ht
    · have e1 := List.mem_singleton.mp q
      subst e1
      exact Nat.le_refl _
  · show q ∈ L.map ki
    rw [(hLp.map ki).mem_iff, List.map_append, List.mem_append]
    exact .inl (R.mkeys q hq)
  · show (valV m.marked (ki (ik e))).isSome = e.mark
    rcases List.mem_append.mp (hp.mem_iff.mp he) with q | q
    · exact R.mks z3 e q
    · have e1 := List.mem_singleton.mp q
      subst e1
      show (valV m.marked (ki (k : Int))).isSome = false
      cases z : (valV m.marked (ki (k : Int))).isSome with
      | false => rfl
      | true => exact absurd (mem_ki.mp (R.mkeys _ (isSome_iff.mp z))) hkl
theorem cnt_put_ne {kvs : KVs} {k n : Int} {l : List Rb20.Entry} (hk : ¬ k ∈ l.map ik) (hc : ∀ x ∈ l, cnt kvs (ik x) = x.uses) : ∀ x ∈ l, cnt (putK kvs (ki k) (.int n)) (ik x) = x.uses := by
  intro x hx
  rw [cnt_put, if_neg fun (z : ik x = k) => hk (by rw [← z]; exact List.mem_map_of_mem hx)]
  exact hc x hx
theorem Rel.come {m : M} {s : Rb20.Cache} {es : List Rb20.Entry} {k : Nat} (R : Rel m s es) (hk : ¬ (k : Int) ∈ m.line ++ m.safe) (hlen : m.line.length + m.safe.length + 1 ≤ s.room) :
    ∃ es', Rel (m.come (k : Int)) { s with clock := s.clock + 1, first := s.first ++ [⟨k, 1, s.clock + 1, false⟩] } es' := by
  have hkl : ¬ (k : Int) ∈ es.map ik := fun z => hk (List.mem_append.mpr (.inl (by rw [R.line]; exact z)))
  by_cases h2 : s.rule = 2
  · have hc := cnt_put_ne (n := 1) hkl (R.ucnt h2)
    have hm : m.come (k : Int) = { m.put1 (k : Int) with line := (ins ⟨k, 1, s.clock + 1, false⟩ es).map ik } := by
      unfold M.come
      rw [if_pos (by rw [R.rule, h2]; rfl)]
      unfold M.place
      have e1 : cnt (m.put1 (k : Int)).uses (k : Int) = 1 := by
        show cnt (putK m.uses (ki (k : Int)) (.int 1)) (k : Int) = 1
        rw [cnt_put, if_pos rfl]
      rw [e1, ins_map (kvs := (m.put1 (k : Int)).uses) hc, ← R.line]
      rfl
    refine ⟨ins ⟨k, 1, s.clock + 1, false⟩ es, ?_⟩
    rw [hm]
    refine R.add hk hlen ?_ (fun z => absurd h2 z) (fun _ => ins_srt (R.srt h2) fun x hx => ?_) rfl (Nat.le_succ _)
    · exact (ins_perm _ es).trans (List.perm_append_comm (l₁ := [_]))
    · have q := R.clk h2 x hx
      show x.last < s.clock + 1
      omega
  · have hm : m.come (k : Int) = { m.put1 (k : Int) with line := m.line ++ [(k : Int)] } := by
      unfold M.come
      rw [if_neg (by rw [R.rule]; omega)]
    refine ⟨es ++ [⟨k, 1, s.clock + 1, false⟩], ?_⟩
    rw [hm]
    refine R.add hk hlen (.refl _) (fun _ => rfl) (fun z => absurd z h2) ?_ (Nat.le_succ _)
    rw [List.map_append, R.line]
    rfl
/-! ### 7. One that is there is used -/
theorem after_eq (u : Nat) : after (u : Int) = ((min (u + 1) Rb20.TOP : Nat) : Int) := by
  unfold after TOP Rb20.TOP
  split <;> omega
theorem hit_some {s : Rb20.Cache} {k : Nat} {x : Rb20.Entry} (hf : (s.all.find? fun x => x.key == k) = some x) : Rb20.hit s k =
    if s.rule = 0 then { s with clock := s.clock + 1 }
    else if s.rule = 1 then { s with clock := s.clock + 1, first := Rb20.without k s.first ++ [Rb20.again (s.clock + 1) x] }
    else if s.rule = 2 then { s with clock := s.clock + 1, first := s.first.map fun y => if y.key = k then Rb20.again (s.clock + 1) y else y }
    else if s.rule = 3 then { s with clock := s.clock + 1, first := s.first.map fun y => if y.key = k then { y with mark := true } else y }
    else if s.room / 2 < (Rb20.without k s.safe ++ [Rb20.again (s.clock + 1) x]).length then
      { s with clock := s.clock + 1, first := Rb20.without k s.first ++ (Rb20.without k s.safe ++ [Rb20.again (s.clock + 1) x]).take 1, safe := (Rb20.without k s.safe ++ [Rb20.again (s.clock + 1) x]).drop 1 }
    else { s with clock := s.clock + 1, first := Rb20.without k s.first, safe := Rb20.without k s.safe ++ [Rb20.again (s.clock + 1) x] } := by
  unfold Rb20.hit
  show (match (s.all.find? fun x => x.key == k) with | none => _ | some x => _) = _
  rw [hf]
theorem find_some {s : Rb20.Cache} {k : Nat} (h : ∃ e ∈ s.all, e.key = k) : ∃ x, (s.all.find? fun x => x.key == k) = some x ∧ x ∈ s.all ∧ x.key = k := by
  obtain ⟨e, he, hk⟩ := h
  cases hf : s.all.find? fun x => x.key == k with
  | none =>
    have q := List.find?_eq_none.mp hf e he
    rw [hk] at q
    exact absurd (beq_self_eq_true k) q
  | some x =>
    refine ⟨x, rfl, List.mem_of_find?_eq_some hf, ?_⟩
    have q := List.find?_some hf
    exact beq_iff_eq.mp q
/-- the count alone -/
theorem Rel.count {m : M} {s : Rb20.Cache} {es : List Rb20.Entry} {t : Nat} {k : Int} (R : Rel m s es) (h2 : ¬ s.rule = 2) (hk : k ∈ m.line ++ m.safe) : Rel (m.count k) { s with clock := t } es := by
  have hh := (R.has k).mpr hk
  refine ⟨R.rule, R.room, R.r4, R.r1, R.rM, R.perm, R.same, fun z => absurd z h2, R.line, R.safe, R.nd, R.sf0, R.sfL, R.len, ?_, R.uints.put _ _, fun z => absurd z h2, fun z => absurd z h2, R.mnd, R.mkeys, R.mks, R.nomk⟩
  show ((putK m.uses (ki k) (.int (after (cnt m.uses k)))).map (·.1)).Perm ((m.line ++ m.safe).map ki)
  rw [keys_put_old hh]
  exact R.ukeys
/-- both lines anew, of the same keys; no marks -/
theorem Rel.move {m : M} {s : Rb20.Cache} {es : List Rb20.Entry} {F S : List Rb20.Entry} {L Z : List Int} (R : Rel m s es) (h2 : ¬ s.rule = 2) (h3 : ¬ s.rule = 3) (hL : L = F.map ik) (hZ : Z = S.map ik) (hp : (L ++ Z).Perm (m.line ++ m.safe))
    (hS : s.rule ≠ 4 → S = []) (hSl : S.length ≤ s.room / 2) : Rel { m with line := L, safe := Z } { s with first := F, safe := S } F := by
  have hm := R.nomk h3
  refine ⟨R.rule, R.room, R.r4, R.r1, R.rM, .refl _, fun _ => rfl, fun z => absurd z h2, hL, hZ, hp.nodup_iff.mpr R.nd, hS, hSl, ?_, R.ukeys.trans (hp.symm.map _), R.uints, fun z => absurd z h2, fun z => absurd z h2, R.mnd, fun q hq => ?_, fun z => absurd z h3, R.nomk⟩
  · have a := hp.length_eq
    rw [List.length_append, List.length_append] at a
    show L.length + Z.length ≤ s.room
    rw [a]
    exact R.len
  · rw [show ({ m with line := L, safe := Z } : M).marked = m.marked from rfl, hm] at hq
    cases hq
theorem erase_snoc_perm {l : List Int} {k : Int} (h : k ∈ l) : (l.erase k ++ [k]).Perm l :=
  List.perm_append_comm.trans (List.perm_cons_erase h).symm
end Cr
namespace Cr
open PySem L2
open Rb20 (sooner turned)
theorem split_at {x : Rb20.Entry} {l : List Rb20.Entry} (hx : x ∈ l) (hn : (l.map ik).Nodup) : l.Perm (x :: Rb20.without x.key l) ∧ ∀ e ∈ l, e.key = x.key → e = x := by
  obtain ⟨a, b, rfl⟩ := List.append_of_mem hx
  rw [List.map_append, List.map_cons, List.nodup_append, List.nodup_cons] at hn
  obtain ⟨_, ⟨h1, _⟩, h2⟩ := hn
  have ha : ¬ (x.key : Int) ∈ a.map ik := fun z => h2 _ z _ List.mem_cons_self rfl
  have hb : ¬ (x.key : Int) ∈ b.map ik := h1
  have e1 : Rb20.without x.key (a ++ x :: b) = a ++ b := by
    have q1 := without_no ha
    have q2 := without_no hb
    unfold Rb20.without at q1 q2 ⊢
    rw [List.filter_append, List.filter_cons, if_neg (by simp), q1, q2]
  refine ⟨?_, fun e he hk => ?_⟩
  · rw [e1]
    exact List.perm_middle
  · rcases List.mem_append.mp he with q | q
    · exact absurd (mem_ik.mpr ⟨e, q, hk⟩) ha
    · rcases List.mem_cons.mp q with q | q
      · exact q
      · exact absurd (mem_ik.mpr ⟨e, q, hk⟩) hb
theorem Rel.again {m : M} {s : Rb20.Cache} {es : List Rb20.Entry} {k : Nat} (R : Rel m s es) (hk : (k : Int) ∈ m.line ++ m.safe) : ∃ es', Rel (m.again (k : Int)) (Rb20.hit s k) es' := by
  obtain ⟨x, hf, hx, hxk⟩ := find_some ((R.mem k).mp hk)
  rw [hit_some hf]
  have hr := R.rule
  have h4 := R.r4
  by_cases c0 : s.rule = 0
  · rw [if_pos c0]
    have e1 : m.again (k : Int) = m.count (k : Int) := by
      unfold M.again
      rw [if_neg (by omega), if_neg (by omega), if_neg (by omega), if_neg (by omega)]
    rw [e1]
    exact ⟨es, R.count (by omega) hk⟩
  rw [if_neg c0]
  by_cases c1 : s.rule = 1
  · rw [if_pos c1]
    have e1 : m.again (k : Int) = { m.count (k : Int) with line := m.line.erase (k : Int) ++ [(k : Int)] } := by
      unfold M.again
      rw [if_pos (by omega)]
    rw [e1]
    have hs0 : s.safe = [] := R.sf0 (by omega)
    have hms : m.safe = [] := by
      rw [R.safe, hs0]
      rfl
    have hkl : (k : Int) ∈ m.line := by
      rw [hms, List.append_nil] at hk
      exact hk
    have hes := R.same (by omega)
    have C := R.count (t := s.clock + 1) (by omega) hk
    have hxf : x ∈ s.first := by
      unfold Rb20.Cache.all at hx
      rw [hs0, List.append_nil] at hx
      exact hx
    refine ⟨_, C.move (F := Rb20.without k s.first ++ [Rb20.again (s.clock + 1) x]) (S := s.safe) (L := m.line.erase (k : Int) ++ [(k : Int)]) (Z := m.safe) (by show ¬ s.rule = 2; omega) (by show ¬ s.rule = 3; omega) ?_ R.safe ?_ (fun _ => hs0) R.sfL⟩
    · rw [List.map_append, ← hes, without_map R.ndl, ← R.line]
      show _ = _ ++ [(x.key : Int)]
      rw [hxk]
    · exact (erase_snoc_perm hkl).append_right _
  rw [if_neg c1]
  by_cases c2 : s.rule = 2
  · rw [if_pos c2]
    have hs0 : s.safe = [] := R.sf0 (by omega)
    have hms : m.safe = [] := by
      rw [R.safe, hs0]
      rfl
    have hh := (R.has (k : Int)).mpr hk
    have hxf : x ∈ s.first := by
      unfold Rb20.Cache.all at hx
      rw [hs0, List.append_nil] at hx
      exact hx
    have hxe : x ∈ es := R.perm.mem_iff.mpr hxf
    obtain ⟨hsp, huq⟩ := split_at hxe R.ndl
    rw [hxk] at hsp huq
    have hcx : cnt m.uses (k : Int) = (x.uses : Int) := by
      have q := R.ucnt c2 x hxe
      rw [← hxk]
      exact q
    have hwk : ¬ (k : Int) ∈ (Rb20.without k es).map ik := fun z => by
      obtain ⟨e, he, h⟩ := mem_ik.mp z
      exact (without_mem he).2 h
    have hc0 : ∀ e ∈ Rb20.without k es, cnt m.uses (ik e) = e.uses := fun e he => R.ucnt c2 e (without_mem he).1
    have hc1 := cnt_put_ne (n := after (cnt m.uses (k : Int))) hwk hc0
    have hnew : ((Rb20.again (s.clock + 1) x).uses : Int) = after (cnt m.uses (k : Int)) := by
      rw [hcx, after_eq]
      rfl
    have hline : m.line.erase (k : Int) = (Rb20.without k es).map ik := by
      rw [without_map R.ndl, ← R.line]
    have e1 : m.again (k : Int) = { m.count (k : Int) with line := (ins (Rb20.again (s.clock + 1) x) (Rb20.without k es)).map ik } := by
      unfold M.again
      rw [if_neg (by omega), if_pos (by omega)]
      unfold M.place
      have e2 : cnt ((m.count (k : Int)).off (k : Int)).uses (k : Int) = ((Rb20.again (s.clock + 1) x).uses : Int) := by
        show cnt (putK m.uses (ki (k : Int)) (.int (after (cnt m.uses (k : Int))))) (k : Int) = _
        rw [cnt_put, if_pos rfl, hnew]
      have e3 : ik (Rb20.again (s.clock + 1) x) = (k : Int) := by
        show (x.key : Int) = _
        rw [hxk]
      rw [e2, ins_map (kvs := ((m.count (k : Int)).off (k : Int)).uses) hc1, e3, ← hline]
      rfl
    have hfe : ∀ e ∈ Rb20.without k es, (if e.key = k then Rb20.again (s.clock + 1) e else e) = e := fun e he => if_neg (without_mem he).2
    have hP : (ins (Rb20.again (s.clock + 1) x) (Rb20.without k es)).Perm (s.first.map fun y => if y.key = k then Rb20.again (s.clock + 1) y else y) := by
      refine (ins_perm _ _).trans ?_
      have q := (hsp.symm.trans R.perm).map (fun y => if y.key = k then Rb20.again (s.clock + 1) y else y)
      rw [List.map_cons, if_pos hxk, List.map_congr_left hfe, List.map_id'] at q
      exact q
    have hK : ((ins (Rb20.again (s.clock + 1) x) (Rb20.without k es)).map ik).Perm m.line := by
      rw [R.line]
      have q1 := (ins_perm (Rb20.again (s.clock + 1) x) (Rb20.without k es)).map ik
      have q2 := hsp.map ik
      exact q1.trans q2.symm
    have hm0 := R.nomk (by omega)
    have hmem : ∀ e ∈ ins (Rb20.again (s.clock + 1) x) (Rb20.without k es), e = Rb20.again (s.clock + 1) x ∨ e ∈ Rb20.without k es := fun e he => List.mem_cons.mp ((ins_perm _ _).mem_iff.mp he)
    refine ⟨ins (Rb20.again (s.clock + 1) x) (Rb20.without k es), ?_⟩
    rw [e1]
    refine ⟨R.rule, R.room, R.r4, R.r1, R.rM, hP, fun z => absurd c2 z, fun _ => ?_, rfl, R.safe, (hK.append_right _).nodup_iff.mpr R.nd, R.sf0, R.sfL, ?_, ?_, R.uints.put _ _, fun _ e he => ?_, fun _ e he => ?_, R.mnd, fun q hq => ?_, fun z => absurd (c2.symm.trans z) (by decide), R.nomk⟩
    · refine ins_srt ((R.srt c2).filter _) fun e he => ?_
      have q := R.clk c2 e (without_mem he).1
      show e.last < s.clock + 1
      omega
    · have q := hK.length_eq
      show ((ins (Rb20.again (s.clock + 1) x) (Rb20.without k es)).map ik).length + m.safe.length ≤ s.room
      rw [q]
      exact R.len
    · show ((putK m.uses (ki (k : Int)) (.int (after (cnt m.uses (k : Int))))).map (·.1)).Perm _
      rw [keys_put_old hh]
      exact R.ukeys.trans ((hK.append_right m.safe).symm.map ki)
    · show cnt (putK m.uses (ki (k : Int)) (.int (after (cnt m.uses (k : Int))))) (ik e) = e.uses
      rcases hmem e he with q | q
      · rw [q, cnt_put, if_pos (by show (x.key : Int) = _; rw [hxk]), hnew]
      · exact hc1 e q
    · show e.last ≤ s.clock + 1
      rcases hmem e he with q | q
      · rw [q]
        exact Nat.le_refl _
      · exact Nat.le_succ_of_le (R.clk c2 e (without_mem q).1)
    · rw [show ({ m.count (k : Int) with line := (ins (Rb20.again (s.clock + 1) x) (Rb20.without k es)).map ik } : M).marked = m.marked from rfl, hm0] at hq
      cases hq
  rw [if_neg c2]
  by_cases c3 : s.rule = 3
  · rw [if_pos c3]
    have hs0 : s.safe = [] := R.sf0 (by omega)
    have hms : m.safe = [] := by
      rw [R.safe, hs0]
      rfl
    have hkl : (k : Int) ∈ m.line := by
      rw [hms, List.append_nil] at hk
      exact hk
    have hes := R.same c2
    have e1 : m.again (k : Int) = { m.count (k : Int) with marked := putK m.marked (ki (k : Int)) (.bl true) } := by
      unfold M.again
      rw [if_neg (by omega), if_neg (by omega), if_pos (by omega)]
    have C := R.count (t := s.clock + 1) (by omega) hk
    have hik : ∀ y : Rb20.Entry, ik (if y.key = k then { y with mark := true } else y) = ik y := fun y => by
      by_cases z : y.key = k
      · rw [if_pos z]
      · rw [if_neg z]
    have hmm : (s.first.map fun y => if y.key = k then { y with mark := true } else y).map ik = s.first.map ik := by
      rw [List.map_map]
      exact List.map_congr_left fun y _ => hik y
    refine ⟨s.first.map fun y => if y.key = k then { y with mark := true } else y, ?_⟩
    rw [e1]
    refine ⟨C.rule, C.room, C.r4, C.r1, C.rM, .refl _, fun _ => rfl, fun z => absurd z c2, ?_, C.safe, C.nd, C.sf0, C.sfL, C.len, C.ukeys, C.uints, fun z => absurd z c2, fun z => absurd z c2, ?_, fun q hq => ?_, fun _ e he => ?_, fun z => absurd c3 z⟩
    · rw [hmm, ← hes]
      exact R.line
    · show ((putK m.marked (ki (k : Int)) (.bl true)).map (·.1)).Nodup
      cases z : valV m.marked (ki (k : Int)) with
      | none => exact nd_putK _ R.mnd z
      | some v =>
        rw [keys_put_old (by rw [z]; rfl)]
        exact R.mnd
    · show q ∈ m.line.map ki
      change q ∈ (putK m.marked (ki (k : Int)) (.bl true)).map (·.1) at hq
      cases z : valV m.marked (ki (k : Int)) with
      | none =>
        rw [keys_put_new z, List.mem_append] at hq
        rcases hq with y | y
        · exact R.mkeys q y
        · rw [List.mem_singleton.mp y, mem_ki]
          exact hkl
      | some v =>
        rw [keys_put_old (by rw [z]; rfl)] at hq
        exact R.mkeys q hq
    · show (valV (putK m.marked (ki (k : Int)) (.bl true)) (ki (ik e))).isSome = e.mark
      obtain ⟨y, hy, rfl⟩ := List.mem_map.mp he
      rw [valV_put, hik]
      by_cases z : y.key = k
      · rw [if_pos (by rw [ki_inj]; show (y.key : Int) = _; rw [z]), if_pos z]
        rfl
      · rw [if_neg (by rw [ki_inj]; show ¬ (y.key : Int) = _; omega), if_neg z]
        exact R.mks c3 y (by rw [hes]; exact hy)
  rw [if_neg c3]
  have c4 : s.rule = 4 := by omega
  have hes := R.same c2
  have e1 : m.again (k : Int) = (m.count (k : Int)).safer (k : Int) := by
    unfold M.again
    rw [if_neg (by omega), if_neg (by omega), if_neg (by omega), if_pos (by omega)]
  have C := R.count (t := s.clock + 1) c2 hk
  -- the key at the end of the safe ones
  have hnd := R.nd
  rw [List.nodup_append] at hnd
  have hS : ((Rb20.without k s.safe ++ [Rb20.again (s.clock + 1) x]).map ik) = m.safe.erase (k : Int) ++ [(k : Int)] := by
    rw [List.map_append, without_map (by rw [← R.safe]; exact hnd.2.1), ← R.safe]
    show _ ++ [(x.key : Int)] = _
    rw [hxk]
  have hF : (Rb20.without k s.first).map ik = m.line.erase (k : Int) := by
    rw [← hes, without_map R.ndl, ← R.line]
  have hsafe1 : (m.inSafe (k : Int)).safe = (Rb20.without k s.safe ++ [Rb20.again (s.clock + 1) x]).map ik := by
    rw [hS]
    unfold M.inSafe
    by_cases z : (k : Int) ∈ m.safe
    · rw [if_pos z]
    · rw [if_neg z, List.erase_of_not_mem z]
  have hline1 : (m.inSafe (k : Int)).line = (Rb20.without k s.first).map ik := by
    rw [hF]
    unfold M.inSafe
    by_cases z : (k : Int) ∈ m.safe
    · rw [if_pos z]
      exact (List.erase_of_not_mem fun y => hnd.2.2 _ y _ z rfl).symm
    · rw [if_neg z]
  have hall : ((m.inSafe (k : Int)).line ++ (m.inSafe (k : Int)).safe).Perm (m.line ++ m.safe) := by
    unfold M.inSafe
    by_cases z : (k : Int) ∈ m.safe
    · rw [if_pos z]
      exact (erase_snoc_perm z).append_left _
    · rw [if_neg z]
      have y : (k : Int) ∈ m.line := (List.mem_append.mp hk).resolve_right z
      show (m.line.erase (k : Int) ++ (m.safe ++ [(k : Int)])).Perm (m.line ++ m.safe)
      refine List.Perm.trans ?_ ((List.perm_cons_erase y).symm.append_right _)
      refine List.Perm.trans ((List.perm_append_comm (l₁ := m.safe)).append_left _) ?_
      exact List.perm_middle
  have hsl : (m.inSafe (k : Int)).safe.length = (Rb20.without k s.safe ++ [Rb20.again (s.clock + 1) x]).length := by
    rw [hsafe1, List.length_map]
  have hroom : m.room / 2 = ((s.room / 2 : Nat) : Int) := by
    rw [R.room]
    omega
  have e2 : (m.count (k : Int)).safer (k : Int) = { m.count (k : Int) with line := ((m.inSafe (k : Int)).back).line, safe := ((m.inSafe (k : Int)).back).safe } := by
    unfold M.safer M.back M.inSafe M.count
    by_cases z : (k : Int) ∈ m.safe
    · rw [if_pos z, if_pos z]
      dsimp only
      split <;> rfl
    · rw [if_neg z, if_neg z]
      dsimp only
      split <;> rfl
  have hroomI : (m.inSafe (k : Int)).room = m.room := by
    unfold M.inSafe
    split <;> rfl
  have hlen2 : (Rb20.without k s.safe).length ≤ s.room / 2 := Nat.le_trans (List.length_filter_le _ _) R.sfL
  rw [e1, e2]
  by_cases c5 : s.room / 2 < (Rb20.without k s.safe ++ [Rb20.again (s.clock + 1) x]).length
  · rw [if_pos c5]
    have e3 : (m.inSafe (k : Int)).back = { m.inSafe (k : Int) with line := (m.inSafe (k : Int)).line ++ (m.inSafe (k : Int)).safe.take 1, safe := (m.inSafe (k : Int)).safe.drop 1 } := by
      unfold M.back
      rw [if_pos (by rw [hroomI, hroom, hsl]; omega)]
    rw [e3]
    refine ⟨_, C.move (F := Rb20.without k s.first ++ (Rb20.without k s.safe ++ [Rb20.again (s.clock + 1) x]).take 1) (S := (Rb20.without k s.safe ++ [Rb20.again (s.clock + 1) x]).drop 1) c2 c3 ?_ ?_ ?_ (fun z => absurd c4 z) ?_⟩
    · show (m.inSafe (k : Int)).line ++ (m.inSafe (k : Int)).safe.take 1 = _
      rw [hline1, hsafe1, List.map_append (l₁ := Rb20.without k s.first), List.map_take]
    · show (m.inSafe (k : Int)).safe.drop 1 = _
      rw [hsafe1, List.map_drop]
    · show (((m.inSafe (k : Int)).line ++ (m.inSafe (k : Int)).safe.take 1) ++ (m.inSafe (k : Int)).safe.drop 1).Perm (m.line ++ m.safe)
      rw [List.append_assoc, List.take_append_drop]
      exact hall
    · show ((Rb20.without k s.safe ++ [Rb20.again (s.clock + 1) x]).drop 1).length ≤ s.room / 2
      rw [List.length_drop, List.length_append]
      show (Rb20.without k s.safe).length + 1 - 1 ≤ _
      omega
  · rw [if_neg c5]
    have e3 : (m.inSafe (k : Int)).back = m.inSafe (k : Int) := by
      unfold M.back
      rw [if_neg (by rw [hroomI, hroom, hsl]; omega)]
    rw [e3]
    exact ⟨_, C.move (F := Rb20.without k s.first) (S := Rb20.without k s.safe ++ [Rb20.again (s.clock + 1) x]) c2 c3 hline1 hsafe1 hall (fun z => absurd c4 z) (by show _ ≤ s.room / 2; omega)⟩
end Cr
namespace Cr
open PySem L2
open Rb20 (sooner turned)
/-! ### 8. One use, many uses -/
theorem Rel.fullp {m : M} {s : Rb20.Cache} {es : List Rb20.Entry} (R : Rel m s es) (h : m.line.length + m.safe.length = s.room) : es ≠ [] := by
  intro e
  have h1 : m.line.length = 0 := by
    rw [R.line, e]
    rfl
  have h2 := R.sfL
  have h3 := R.r1
  rw [← R.sl] at h2
  omega
theorem Rel.all_len {m : M} {s : Rb20.Cache} {es : List Rb20.Entry} (R : Rel m s es) : s.all.length = m.line.length + m.safe.length := by
  unfold Rb20.Cache.all
  rw [List.length_append, R.ll, R.sl]
theorem Rel.use {m : M} {s : Rb20.Cache} {es : List Rb20.Entry} (R : Rel m s es) (k : Nat) : (Rb20.use s k).1 = m.has (k : Int) ∧ ∃ es', Rel (m.use (k : Int)) (Rb20.use s k).2.2 es' := by
  unfold Rb20.use M.use
  rw [R.holds k]
  cases hh : m.has (k : Int) with
  | true =>
    rw [if_pos rfl, if_pos rfl]
    exact ⟨rfl, R.again ((R.has (k : Int)).mp hh)⟩
  | false =>
    rw [if_neg Bool.false_ne_true, if_neg Bool.false_ne_true]
    have hk : ¬ (k : Int) ∈ m.line ++ m.safe := fun z => by
      have q : m.has (k : Int) = true := (R.has (k : Int)).mpr z
      rw [hh] at q
      cases q
    have hlen := R.len
    by_cases c : s.all.length < s.room
    · have c' : ¬ (m.uses.length : Int) = m.room := by
        rw [R.ulen, R.room]
        rw [R.all_len] at c
        omega
      rw [if_neg c']
      show (if s.all.length < s.room then _ else _ : Bool × Option Nat × Rb20.Cache).1 = false ∧ _
      simp only [if_pos c]
      refine ⟨trivial, ?_⟩
      exact R.come hk (by rw [R.all_len] at c; omega)
    · have hfull : m.line.length + m.safe.length = s.room := by
        rw [R.all_len] at c
        omega
      have c' : (m.uses.length : Int) = m.room := by
        rw [R.ulen, R.room]
        omega
      rw [if_pos c']
      obtain ⟨g, s', es', hl, R', hc, hr, hrm, hsf, hln, hmem⟩ := R.leave (R.fullp hfull)
      have hk' : ¬ (k : Int) ∈ m.leave.line ++ m.leave.safe := fun z => by
        obtain ⟨e, he, hek⟩ := (R'.mem k).mp z
        apply hk
        rw [R.mem k]
        rcases List.mem_append.mp he with q | q
        · obtain ⟨e', h1, h2⟩ := hmem e q
          exact ⟨e', List.mem_append.mpr (.inl h1), h2.trans hek⟩
        · rw [hsf] at q
          exact ⟨e, List.mem_append.mpr (.inr q), hek⟩
      have hlen' : m.leave.line.length + m.leave.safe.length + 1 ≤ s'.room := by
        have a := R'.ll
        have b := R'.sl
        have a0 := R.ll
        have b0 := R.sl
        rw [hsf] at b
        omega
      obtain ⟨es2, R2⟩ := R'.come hk' hlen'
      simp only [if_neg c, hl]
      refine ⟨trivial, es2, ?_⟩
      rw [hc] at R2
      exact R2
theorem Rel.fresh {rule room : Int} (h : Rb20.told rule room = true) : Rel (M.fresh rule room) (Rb20.empty rule.toNat room.toNat) [] := by
  unfold Rb20.told Rb20.within at h
  rw [Bool.and_eq_true, Bool.and_eq_true, Bool.and_eq_true, decide_eq_true_iff, decide_eq_true_iff, decide_eq_true_iff, decide_eq_true_iff] at h
  obtain ⟨⟨h1, h2⟩, h3, h4⟩ := h
  have z1 : (M.fresh rule room).rule = ((Rb20.empty rule.toNat room.toNat).rule : Int) := by
    show rule = (rule.toNat : Int)
    omega
  have z2 : (M.fresh rule room).room = ((Rb20.empty rule.toNat room.toNat).room : Int) := by
    show room = (room.toNat : Int)
    omega
  exact ⟨z1, z2, by show rule.toNat ≤ 4; omega, by show 1 ≤ room.toNat; omega, by show room.toNat ≤ 1024; omega, .refl _, fun _ => rfl, fun _ => .nil, rfl, rfl, .nil, fun _ => rfl, Nat.zero_le _, Nat.zero_le _, .nil, fun k v e => (by cases e),
    fun _ e he => (by cases he), fun _ e he => (by cases he), .nil, fun q hq => (by cases hq), fun _ e he => (by cases he), fun _ => rfl⟩
/-- one turn of the loop: the mirror, the misses so far -/
def turn1 (p : M × Int) (k : Int) : M × Int := (p.1.use k, if p.1.has k = true then p.2 else p.2 + 1)
def runs (p : M × Int) (ks : List Int) : M × Int := ks.foldl turn1 p
theorem runs_misses : ∀ (ks : List Int) {m : M} {s : Rb20.Cache} {es : List Rb20.Entry} (c : Int), Rel m s es → (∀ k ∈ ks, 0 ≤ k) → (runs (m, c) ks).2 = c + (Rb20.missesFrom s (Rb20Neutral.nats ks) : Int)
  | [], m, s, es, c, R, h => by
    show c = c + ((0 : Nat) : Int)
    omega
  | k :: r, m, s, es, c, R, h => by
    have hk := h k List.mem_cons_self
    obtain ⟨n, rfl⟩ := Int.eq_ofNat_of_zero_le hk
    obtain ⟨h1, es', R'⟩ := R.use n
    have ih := runs_misses r (if m.has (n : Int) = true then c else c + 1) R' fun j hj => h j (List.mem_cons_of_mem _ hj)
    show (runs (turn1 (m, c) (n : Int)) r).2 = c + (((if (Rb20.use s (Int.toNat (n : Int))).1 = true then 0 else 1) + Rb20.missesFrom (Rb20.use s (Int.toNat (n : Int))).2.2 (Rb20Neutral.nats r) : Nat) : Int)
    rw [Int.toNat_natCast, h1]
    refine ih.trans ?_
    split <;> omega
theorem runs_rel : ∀ (ks : List Int) {m : M} {s : Rb20.Cache} {es : List Rb20.Entry} (c : Int), Rel m s es → (∀ k ∈ ks, 0 ≤ k) → ∃ s' es', Rel (runs (m, c) ks).1 s' es'
  | [], m, s, es, c, R, h => ⟨s, es, R⟩
  | k :: r, m, s, es, c, R, h => by
    have hk := h k List.mem_cons_self
    obtain ⟨n, rfl⟩ := Int.eq_ofNat_of_zero_le hk
    obtain ⟨h1, es', R'⟩ := R.use n
    exact runs_rel r _ R' fun j hj => h j (List.mem_cons_of_mem _ hj)
theorem take_more {α : Type} : ∀ {l : List α} {i : Nat} {x : α}, l[i]? = some x → l.take (i + 1) = l.take i ++ [x]
  | [], i, x, h => by simp at h
  | a :: l, 0, x, h => by
    have e : a = x := Option.some.inj h
    subst e
    rfl
  | a :: l, i + 1, x, h => by
    have ih := take_more (l := l) (i := i) (x := x) h
    show a :: l.take (i + 1) = a :: l.take i ++ [x]
    rw [ih]
    rfl
theorem runs_more {p : M × Int} {l : List Int} {i : Nat} {z : Int} (h : l[i]? = some z) : runs p (l.take (i + 1)) = turn1 (runs p (l.take i)) z := by
  unfold runs
  rw [take_more h, List.foldl_append]
  rfl
theorem due {rule room : Int} {ks : List Int} (h : ∀ k ∈ ks, 0 ≤ k) : PyRb20.misses rule room ks = [if Rb20.told rule room = true then (runs (M.fresh rule room, 0) ks).2 else -2] := by
  show [if Rb20.told rule room = true then (Rb20.missesFrom (Rb20.empty rule.toNat room.toNat) (Rb20Neutral.nats ks) : Int) else -2] = _
  by_cases c : Rb20.told rule room = true
  · rw [if_pos c, if_pos c, runs_misses ks 0 (Rel.fresh c) h, Int.zero_add]
  · rw [if_neg c, if_neg c]
/-! ### 9. What each def asks ahead -/
structure PrePlace (m : M) (k : Int) : Prop where
  len : m.line.length ≤ 1024
  whl : Ints m.uses
  has : (valV m.uses (ki k)).isSome = true
  all : ∀ x ∈ m.line, (valV m.uses (ki x)).isSome = true
  srt : m.line.Pairwise (fun x y => cnt m.uses x ≤ cnt m.uses y)
structure PreSafer (m : M) (k : Int) : Prop where
  len : m.line.length + m.safe.length ≤ 1024
  mem : k ∈ m.line ++ m.safe
structure PreLeave (m : M) : Prop where
  ne : m.line ≠ []
  len : m.line.length ≤ 1024
  nd : (m.marked.map (·.1)).Nodup
  all : ∀ x ∈ m.line, (valV m.uses (ki x)).isSome = true
theorem Rel.srtc {m : M} {s : Rb20.Cache} {es : List Rb20.Entry} (R : Rel m s es) (h2 : s.rule = 2) : m.line.Pairwise (fun x y => cnt m.uses x ≤ cnt m.uses y) := by
  rw [R.line, List.pairwise_map]
  have q := R.srt h2
  refine q.imp_of_mem fun {a b} ha hb hab => ?_
  rw [R.ucnt h2 a ha, R.ucnt h2 b hb]
  have z := sooner_iff.mp hab
  omega
theorem Rel.in_line {m : M} {s : Rb20.Cache} {es : List Rb20.Entry} (R : Rel m s es) {x : Int} (hx : x ∈ m.line) : (valV m.uses (ki x)).isSome = true := (R.has x).mpr (List.mem_append.mpr (.inl hx))
theorem Rel.lines {m : M} {s : Rb20.Cache} {es : List Rb20.Entry} (R : Rel m s es) : m.line.length + m.safe.length ≤ 1024 := Nat.le_trans R.len R.rM
theorem Rel.preLeave {m : M} {s : Rb20.Cache} {es : List Rb20.Entry} (R : Rel m s es) (hne : es ≠ []) : PreLeave m := by
  have h := R.lines
  refine ⟨fun z => ?_, by omega, R.mnd, fun x hx => R.in_line hx⟩
  rw [R.line] at z
  exact hne (List.map_eq_nil_iff.mp z)
theorem some_put {kvs : KVs} {k j : Int} {v : V} (h : (valV kvs (ki j)).isSome = true) : (valV (putK kvs (ki k) v) (ki j)).isSome = true := by
  rw [valV_put]
  split
  · rfl
  · exact h
theorem Rel.preCome {m : M} {s : Rb20.Cache} {es : List Rb20.Entry} {k : Int} (R : Rel m s es) (h2 : s.rule = 2) (hk : ¬ k ∈ m.line ++ m.safe) : PrePlace (m.put1 k) k := by
  have h := R.lines
  refine ⟨by show m.line.length ≤ 1024; omega, R.uints.put _ _, ?_, fun x hx => some_put (R.in_line hx), ?_⟩
  · show (valV (putK m.uses (ki k) (.int 1)) (ki k)).isSome = true
    rw [valV_put, if_pos rfl]
    rfl
  · show m.line.Pairwise (fun x y => cnt (putK m.uses (ki k) (.int 1)) x ≤ cnt (putK m.uses (ki k) (.int 1)) y)
    refine (R.srtc h2).imp_of_mem fun {a b} ha hb hab => ?_
    rw [cnt_put, cnt_put, if_neg fun (z : a = k) => hk (List.mem_append.mpr (.inl (z ▸ ha))), if_neg fun (z : b = k) => hk (List.mem_append.mpr (.inl (z ▸ hb)))]
    exact hab
theorem Rel.preAgain {m : M} {s : Rb20.Cache} {es : List Rb20.Entry} {k : Int} (R : Rel m s es) (h2 : s.rule = 2) (hk : k ∈ m.line ++ m.safe) : PrePlace ((m.count k).off k) k := by
  have h := R.lines
  have hndl : m.line.Nodup := (List.nodup_append.mp R.nd).1
  have hle : (m.line.erase k).length ≤ m.line.length := List.length_erase_le
  refine ⟨by show (m.line.erase k).length ≤ 1024; omega, R.uints.put _ _, some_put ((R.has k).mpr hk), fun x hx => some_put (R.in_line (List.mem_of_mem_erase hx)), ?_⟩
  show (m.line.erase k).Pairwise (fun x y => cnt (putK m.uses (ki k) (.int (after (cnt m.uses k)))) x ≤ cnt (putK m.uses (ki k) (.int (after (cnt m.uses k)))) y)
  refine ((R.srtc h2).sublist List.erase_sublist).imp_of_mem fun {a b} ha hb hab => ?_
  rw [cnt_put, cnt_put, if_neg (hndl.mem_erase_iff.mp ha).1, if_neg (hndl.mem_erase_iff.mp hb).1]
  exact hab
/-- where the search ends, there the line is cut -/
theorem cut_at {kvs : KVs} {u : Int} {l : List Int} {i : Nat} (h1 : ∀ (j : Nat) (x : Int), j < i → l[j]? = some x → cnt kvs x ≤ u) (h2 : ∀ (j : Nat) (x : Int), i ≤ j → l[j]? = some x → u < cnt kvs x) :
    l.take i = lowPart kvs u l ∧ l.drop i = highPart kvs u l := by
  have e : l = l.take i ++ l.drop i := (List.take_append_drop i l).symm
  have a1 : ∀ x ∈ l.take i, cnt kvs x ≤ u := fun x hx => by
    obtain ⟨j, hj⟩ := List.mem_iff_getElem?.mp hx
    rw [List.getElem?_take] at hj
    split at hj
    · exact h1 j x (by assumption) hj
    · cases hj
  have a2 : ∀ x ∈ l.drop i, u < cnt kvs x := fun x hx => by
    obtain ⟨j, hj⟩ := List.mem_iff_getElem?.mp hx
    rw [List.getElem?_drop] at hj
    exact h2 (i + j) x (Nat.le_add_right _ _) hj
  constructor
  · unfold lowPart
    conv => rhs; rw [e]
    rw [List.filter_append, List.filter_eq_self.mpr fun x hx => decide_eq_true (a1 x hx), List.filter_eq_nil_iff.mpr fun x hx => by rw [decide_eq_true_iff]; have := a2 x hx; omega, List.append_nil]
  · unfold highPart
    conv => rhs; rw [e]
    rw [List.filter_append, List.filter_eq_nil_iff.mpr fun x hx => by rw [decide_eq_true_iff]; have := a1 x hx; omega, List.filter_eq_self.mpr fun x hx => decide_eq_true (a2 x hx), List.nil_append]
theorem at_le {kvs : KVs} {l : List Int} (h : l.Pairwise (fun x y => cnt kvs x ≤ cnt kvs y)) {i j : Nat} {x y : Int} (hij : i ≤ j) (hi : l[i]? = some x) (hj : l[j]? = some y) : cnt kvs x ≤ cnt kvs y := by
  obtain ⟨h1, e1⟩ := List.getElem?_eq_some_iff.mp hi
  obtain ⟨h2, e2⟩ := List.getElem?_eq_some_iff.mp hj
  by_cases c : i = j
  · subst c
    rw [← e1, ← e2]
    exact Int.le_refl _
  · have q := List.pairwise_iff_getElem.mp h i j h1 h2 (by omega)
    rw [e1, e2] at q
    exact q
end Cr
/-! ### The calls, as they stand in one list -/
namespace S3
inductive Cl where
  | beg (r n : Int)
  | use (k : Int)
  | drop (k : Int)
  | holds (k : Int)
  | order
def Cl.nums : Cl → List Int
  | .beg r n => [1, r, n]
  | .use k => [2, k]
  | .drop k => [3, k]
  | .holds k => [4, k]
  | .order => [5]
/-- a key's bounds; a number's -/
def Cl.fine : Cl → Prop
  | .beg r n => (-2147483648 ≤ r ∧ r ≤ 2147483647) ∧ (-2147483648 ≤ n ∧ n ≤ 2147483647)
  | .use k => 0 ≤ k ∧ k ≤ 18446744073709551615
  | .drop k => 0 ≤ k ∧ k ≤ 18446744073709551615
  | .holds k => 0 ≤ k ∧ k ≤ 18446744073709551615
  | .order => True
def flat (cs : List Cl) : List Int := cs.flatMap Cl.nums
abbrev rawOf (cs : List Cl) : List (List (List Int)) := cs.map fun c => [c.nums]
theorem flat_cons (c : Cl) (cs : List Cl) : flat (c :: cs) = c.nums ++ flat cs := List.flatMap_cons
theorem shape_cases (p : Int) (n k : Nat) (h : PyRb20.shape p = some (n, k)) : k = 0 ∧ ((p = 1 ∧ n = 2) ∨ (p = 2 ∧ n = 1) ∨ (p = 3 ∧ n = 1) ∨ (p = 4 ∧ n = 1) ∨ (p = 5 ∧ n = 0)) := by
  unfold PyRb20.shape at h
  repeat' split at h
  all_goals first | (injection h with h; injection h with h1 h2; subst h1 h2; refine ⟨rfl, ?_⟩; omega) | cases h
theorem calls_flat : ∀ (f : Nat) (l : List Int) (raw : List (List (List Int))), PyFlat.calls PyRb20.shape f l = some raw → ∃ cs : List Cl, l = flat cs ∧ raw = rawOf cs
  | f, [], raw, h => by
    refine ⟨[], rfl, ?_⟩
    cases f <;> exact (Option.some.inj h).symm
  | 0, _ :: _, raw, h => by cases h
  | f + 1, p :: r, raw, h => by
    have h : (match PyFlat.call PyRb20.shape (p :: r) with
      | none => none
      | some (c, t) => match PyFlat.calls PyRb20.shape f t with
        | none => none
        | some cs => some (c :: cs)) = some raw := h
    cases hc : PyFlat.call PyRb20.shape (p :: r) with
    | none => rw [hc] at h; cases h
    | some ct =>
      obtain ⟨c, t⟩ := ct
      rw [hc] at h
      have h : (match PyFlat.calls PyRb20.shape f t with
        | none => none
        | some cs => some (c :: cs)) = some raw := h
      cases hr : PyFlat.calls PyRb20.shape f t with
      | none => rw [hr] at h; cases h
      | some rs =>
        rw [hr] at h
        have h := (Option.some.inj h).symm
        obtain ⟨cs, e1, e2⟩ := calls_flat f t rs hr
        have key : ∃ d : Cl, p :: r = d.nums ++ t ∧ c = [d.nums] := by
          have hc : (match PyRb20.shape p with
            | none => none
            | some (n, k) => if r.length < n then none else match PyFlat.rows k (r.drop n) with
              | none => none
              | some (xs, t) => some ((p :: r.take n) :: xs, t)) = some (c, t) := hc
          cases hs : PyRb20.shape p with
          | none => rw [hs] at hc; cases hc
          | some nk =>
            obtain ⟨n, k⟩ := nk
            rw [hs] at hc
            obtain ⟨rfl, hp⟩ := shape_cases p n k hs
            have hc : (if r.length < n then none else some ((p :: r.take n) :: [], r.drop n)) = some (c, t) := hc
            by_cases hl : r.length < n
            · rw [if_pos hl] at hc; cases hc
            · rw [if_neg hl] at hc
              have e := Option.some.inj hc
              injection e with ea eb
              rcases hp with ⟨rfl, rfl⟩ | ⟨rfl, rfl⟩ | ⟨rfl, rfl⟩ | ⟨rfl, rfl⟩ | ⟨rfl, rfl⟩
              · match r, hl, ea, eb with
                | a :: b :: r, _, ea, eb => exact ⟨.beg a b, by rw [← eb]; rfl, by rw [← ea]; rfl⟩
                | [_], hl, _, _ => exact absurd (by simp) hl
                | [], hl, _, _ => exact absurd (by simp) hl
              · match r, hl, ea, eb with
                | a :: r, _, ea, eb => exact ⟨.use a, by rw [← eb]; rfl, by rw [← ea]; rfl⟩
                | [], hl, _, _ => exact absurd (by simp) hl
              · match r, hl, ea, eb with
                | a :: r, _, ea, eb => exact ⟨.drop a, by rw [← eb]; rfl, by rw [← ea]; rfl⟩
                | [], hl, _, _ => exact absurd (by simp) hl
              · match r, hl, ea, eb with
                | a :: r, _, ea, eb => exact ⟨.holds a, by rw [← eb]; rfl, by rw [← ea]; rfl⟩
                | [], hl, _, _ => exact absurd (by simp) hl
              · exact ⟨.order, by rw [← eb]; rfl, by rw [← ea]; rfl⟩
        obtain ⟨d, e3, e4⟩ := key
        refine ⟨d :: cs, ?_, ?_⟩
        · rw [flat_cons, e3, e1]
        · rw [h, e4, e2]
          rfl
theorem whole_raw (cs : List Cl) : (rawOf cs).map PyRb20.whole = rawOf cs := by
  rw [List.map_map]
  refine List.map_congr_left fun c _ => ?_
  cases c <;> rfl
structure Asked (l : List Int) (cs : List Cl) : Prop where
  eq : l = flat cs
  len : cs.length ≤ 400
  fine : ∀ c ∈ cs, c.fine
  first : ∃ r n t, cs = .beg r n :: t ∧ Rb20.told r n = true
  due : PyRb20.answers l = PyFlat.told (PyFlat.played Rb20Neutral.step Rb20Neutral.start (rawOf cs))
theorem within_iff {lo hi z : Int} : PyInside.within lo hi z = true ↔ lo ≤ z ∧ z ≤ hi := by
  unfold PyInside.within
  rw [Bool.and_eq_true, decide_eq_true_iff, decide_eq_true_iff]
theorem asked {l : List Int} (h : PyRb20.answers_asked l = true) : ∃ cs, Asked l cs := by
  unfold PyRb20.answers_asked at h
  cases hc : PyFlat.calls PyRb20.shape l.length l with
  | none => rw [hc] at h; cases h
  | some raw =>
    rw [hc] at h
    obtain ⟨cs, e1, e2⟩ := calls_flat _ _ _ hc
    subst e2
    have h : (PyFlat.atMost 400 (rawOf cs) && PyInside.calls PyRb20.bound (rawOf cs) && Rb20Neutral.asked ((rawOf cs).map PyRb20.whole)) = true := h
    rw [whole_raw, Bool.and_eq_true, Bool.and_eq_true] at h
    obtain ⟨⟨h1, h2⟩, h3⟩ := h
    have hlen : cs.length ≤ 400 := by
      have q := of_decide_eq_true h1
      rw [List.length_map] at q
      exact q
    refine ⟨cs, e1, hlen, fun c hc => ?_, ?_, ?_⟩
    · have q := List.all_eq_true.mp h2 [c.nums] (List.mem_map_of_mem (f := fun c : Cl => [c.nums]) hc)
      cases c with
      | beg r n =>
        have q : ((PyInside.within (-2147483648) 2147483647 r && (PyInside.within (-2147483648) 2147483647 n && true)) && true) = true := q
        simp only [Bool.and_true, Bool.and_eq_true, within_iff] at q
        exact q
      | use k =>
        have q : ((PyInside.within 0 18446744073709551615 k && true) && true) = true := q
        simp only [Bool.and_true, within_iff] at q
        exact q
      | drop k =>
        have q : ((PyInside.within 0 18446744073709551615 k && true) && true) = true := q
        simp only [Bool.and_true, within_iff] at q
        exact q
      | holds k =>
        have q : ((PyInside.within 0 18446744073709551615 k && true) && true) = true := q
        simp only [Bool.and_true, within_iff] at q
        exact q
      | order => trivial
    · cases cs with
      | nil => exact absurd h3 (by decide)
      | cons c cs =>
        have q : Rb20Neutral.begins [c.nums] = true := by
          cases c <;> cases cs <;> first
            | (have h3 : (_ && ((List.head? _).map Rb20Neutral.begins).getD false) = true := h3
               rw [Bool.and_eq_true] at h3
               exact h3.2)
            | exact absurd h3 (by decide)
        cases c with
        | beg r n =>
          refine ⟨r, n, cs, rfl, ?_⟩
          exact q
        | use k => cases q
        | drop k => cases q
        | holds k => cases q
        | order => cases q
    · unfold PyRb20.answers PyRb20.calls
      rw [hc]
      show PyFlat.told (PyFlat.played _ _ ((rawOf cs).map PyRb20.whole)) = _
      rw [whole_raw]
/-! ### One call after another -/
def st (s : Rb20.Cache) (cs : List Cl) : Rb20.Cache := cs.foldl (fun s c => (Rb20Neutral.step s [c.nums]).1) s
abbrev ans (s : Rb20.Cache) (c : Cl) : List Int := (Rb20Neutral.step s [c.nums]).2
def outs (s : Rb20.Cache) (cs : List Cl) : List Int := PyFlat.told (PyFlat.played Rb20Neutral.step s (rawOf cs))
theorem outs_cons (s : Rb20.Cache) (c : Cl) (cs : List Cl) : outs s (c :: cs) = ((ans s c).length : Int) :: ans s c ++ outs (Rb20Neutral.step s [c.nums]).1 cs := by
  show PyFlat.told ((Rb20Neutral.step s [c.nums]).2 :: PyFlat.played Rb20Neutral.step (Rb20Neutral.step s [c.nums]).1 (rawOf cs)) = _
  unfold PyFlat.told
  rw [List.flatMap_cons]
  rfl
theorem outs_app : ∀ (cs : List Cl) (s : Rb20.Cache) (d : Cl), outs s (cs ++ [d]) = outs s cs ++ ((ans (st s cs) d).length : Int) :: ans (st s cs) d
  | [], s, d => by
    show outs s [d] = [] ++ _
    rw [outs_cons, List.nil_append]
    show _ ++ [] = _
    rw [List.append_nil]
    rfl
  | c :: cs, s, d => by
    rw [List.cons_append, outs_cons, outs_cons, outs_app cs]
    show _ = _ ++ ((ans (st (Rb20Neutral.step s [c.nums]).1 cs) d).length : Int) :: ans (st (Rb20Neutral.step s [c.nums]).1 cs) d
    rw [List.append_assoc]
theorem take_more {α : Type} {l : List α} {i : Nat} {x : α} (h : l[i]? = some x) : l.take (i + 1) = l.take i ++ [x] := by
  rw [List.take_add_one, h]
  rfl
theorem outs_more {s : Rb20.Cache} {cs : List Cl} {i : Nat} {c : Cl} (h : cs[i]? = some c) : outs s (cs.take (i + 1)) = outs s (cs.take i) ++ ((ans (st s (cs.take i)) c).length : Int) :: ans (st s (cs.take i)) c := by
  rw [take_more h, outs_app]
theorem st_more {s : Rb20.Cache} {cs : List Cl} {i : Nat} {c : Cl} (h : cs[i]? = some c) : st s (cs.take (i + 1)) = (Rb20Neutral.step (st s (cs.take i)) [c.nums]).1 := by
  unfold st
  rw [take_more h, List.foldl_append]
  rfl
/-- where call i begins -/
def place (cs : List Cl) (i : Nat) : Nat := (flat (cs.take i)).length
theorem place_more {cs : List Cl} {i : Nat} {c : Cl} (h : cs[i]? = some c) : place cs (i + 1) = place cs i + c.nums.length := by
  unfold place
  rw [take_more h]
  unfold flat
  rw [List.flatMap_append, List.length_append]
  simp
theorem flat_at {cs : List Cl} {i j : Nat} {c : Cl} {z : Int} (h : cs[i]? = some c) (hz : c.nums[j]? = some z) : (flat cs)[place cs i + j]? = some z := by
  have e : cs = cs.take i ++ c :: cs.drop (i + 1) := by
    have hl := (List.getElem?_eq_some_iff.mp h).1
    have h2 := (List.getElem?_eq_some_iff.mp h).2
    conv => lhs; rw [← List.take_append_drop i cs]
    rw [List.drop_eq_getElem_cons hl, h2]
  have e2 : flat cs = flat (cs.take i) ++ (c.nums ++ flat (cs.drop (i + 1))) := by
    conv => lhs; rw [e]
    unfold flat
    rw [List.flatMap_append, List.flatMap_cons]
  rw [e2]
  unfold place
  rw [List.getElem?_append_right (Nat.le_add_right _ _), Nat.add_sub_cancel_left]
  rw [List.getElem?_append_left (List.getElem?_eq_some_iff.mp hz).1]
  exact hz
theorem place_all (cs : List Cl) : place cs cs.length = (flat cs).length := by
  unfold place
  rw [List.take_length]
theorem nums_pos (c : Cl) : 0 < c.nums.length := by cases c <;> exact Nat.succ_pos _
theorem flat_le : ∀ (cs : List Cl), (flat cs).length ≤ 3 * cs.length
  | [] => Nat.le_refl _
  | c :: cs => by
    have := flat_le cs
    have h : c.nums.length ≤ 3 := by cases c <;> simp [Cl.nums]
    rw [flat_cons, List.length_append, List.length_cons]
    omega
theorem place_lt {cs : List Cl} {i : Nat} (h : i < cs.length) : place cs i < (flat cs).length := by
  obtain ⟨c, hc⟩ : ∃ c, cs[i]? = some c := ⟨_, List.getElem?_eq_getElem h⟩
  have hp := nums_pos c
  obtain ⟨z, hz⟩ : ∃ z, c.nums[0]? = some z := ⟨_, List.getElem?_eq_getElem hp⟩
  exact (List.getElem?_eq_some_iff.mp (flat_at hc hz)).1
end S3
namespace Cr
open PySem L2
open Rb20 (sooner turned)
/-! ### The key that leaves; drop; order -/
def M.goer (m : M) : Int := (spin m.marked.length m).line.headD 0
theorem Rel.goer {m : M} {s s' : Rb20.Cache} {es : List Rb20.Entry} {g : Nat} (R : Rel m s es) (hne : es ≠ []) (h : Rb20.leaves s = some (g, s')) : m.goer = (g : Int) := by
  unfold M.goer
  by_cases h2 : s.rule = 2
  · have hm : m.marked = [] := R.nomk (by omega)
    rw [hm]
    show m.line.headD 0 = _
    cases es with
    | nil => exact absurd rfl hne
    | cons y r =>
      have hp := R.perm
      cases hf : s.first with
      | nil =>
        rw [hf] at hp
        exact absurd hp.length_eq (by simp)
      | cons x t =>
        rw [hf] at hp
        have e1 := first_is (R.srt h2) hp
        unfold Rb20.leaves at h
        rw [if_pos h2, hf] at h
        have h : some ((t.foldl (fun a b => if sooner b a = true then b else a) x).key, _) = some (g, s') := h
        rw [e1] at h
        have h := Option.some.inj h
        injection h with h _
        rw [R.line, ← h]
        rfl
  · have hes := R.same h2
    by_cases h3 : s.rule = 3
    · have hlt : m.marked.length < s.first.length + 1 := by
        have a := R.mlen
        rw [R.ll] at a
        omega
      obtain ⟨a, b, c⟩ := Rel.spin m.marked.length (s.first.length + 1) rfl R h3 hlt hes
      unfold Rb20.leaves at h
      rw [if_neg h2, if_pos h3, ← hes] at h
      rw [← hes] at a b
      cases ht : turned (es.length + 1) es with
      | nil =>
        rw [ht] at b
        exact absurd (List.length_eq_zero_iff.mp b.symm) hne
      | cons x r =>
        have h : (match turned (es.length + 1) es with | x :: r => some (x.key, { s with first := r }) | [] => none) = some (g, s') := h
        rw [ht] at h
        have h : some (x.key, _) = some (g, s') := h
        have h := Option.some.inj h
        injection h with h _
        rw [a.line, ht, ← h]
        rfl
    · have hm : m.marked = [] := R.nomk h3
      rw [hm]
      show m.line.headD 0 = _
      cases es with
      | nil => exact absurd rfl hne
      | cons y r =>
        unfold Rb20.leaves at h
        rw [if_neg h2, if_neg h3, ← hes] at h
        have h : some (y.key, _) = some (g, s') := h
        have h := Option.some.inj h
        injection h with h _
        rw [R.line, ← h]
        rfl
theorem Rel.use_gone {m : M} {s : Rb20.Cache} {es : List Rb20.Entry} (R : Rel m s es) (k : Nat) (h : m.has (k : Int) = false) :
    ((m.uses.length : Int) = m.room → ∃ g : Nat, (Rb20.use s k).2.1 = some g ∧ m.goer = (g : Int)) ∧ (¬ (m.uses.length : Int) = m.room → (Rb20.use s k).2.1 = none) := by
  have hlen := R.len
  unfold Rb20.use
  rw [R.holds k, h, if_neg Bool.false_ne_true]
  constructor
  · intro c'
    have c : ¬ s.all.length < s.room := by
      rw [R.all_len]
      have a := R.ulen
      have b := R.room
      omega
    have hfull : m.line.length + m.safe.length = s.room := by
      have a := R.ulen
      have b := R.room
      omega
    have hne := R.fullp hfull
    obtain ⟨g, s', es', hl, _⟩ := R.leave hne
    refine ⟨g, ?_, R.goer hne hl⟩
    simp only [if_neg c, hl]
  · intro c'
    have c : s.all.length < s.room := by
      rw [R.all_len]
      have a := R.ulen
      have b := R.room
      omega
    simp only [if_pos c]
def M.drop (m : M) (k : Int) : M := { m with line := m.line.erase k, safe := m.safe.erase k, uses := dropK m.uses (ki k), marked := dropK m.marked (ki k) }
theorem erase_ki {l : List Int} {k : Int} (h : l.Nodup) : (l.erase k).map ki = (l.map ki).filter fun q => decide (q ≠ ki k) := by
  rw [h.erase_eq_filter, List.filter_map]
  refine congrArg _ (List.filter_congr fun x _ => ?_)
  show (x != k) = decide (ki x ≠ ki k)
  rw [Bool.eq_iff_iff, bne_iff_ne, decide_eq_true_iff, Ne, Ne, ki_inj]
theorem Rel.nds {m : M} {s : Rb20.Cache} {es : List Rb20.Entry} (R : Rel m s es) : m.line.Nodup ∧ m.safe.Nodup :=
  ⟨(List.nodup_append.mp R.nd).1, (List.nodup_append.mp R.nd).2.1⟩
theorem Rel.drop {m : M} {s : Rb20.Cache} {es : List Rb20.Entry} (R : Rel m s es) (k : Nat) : Rel (m.drop (k : Int)) (Rb20.dropped s k) (Rb20.without k es) := by
  obtain ⟨nl, ns⟩ := R.nds
  have ndl := R.ndl
  have nds : (s.safe.map ik).Nodup := by
    rw [← R.safe]
    exact ns
  have el : m.line.erase (k : Int) = (Rb20.without k es).map ik := by
    rw [without_map ndl, R.line]
  have es' : m.safe.erase (k : Int) = (Rb20.without k s.safe).map ik := by
    rw [without_map nds, R.safe]
  have l1 : (m.line.erase (k : Int)).length ≤ m.line.length := List.length_erase_le
  have l2 : (m.safe.erase (k : Int)).length ≤ m.safe.length := List.length_erase_le
  refine ⟨R.rule, R.room, R.r4, R.r1, R.rM, R.perm.filter _, fun z => congrArg (Rb20.without k) (R.same z), fun z => (R.srt z).filter _, el, es', ?_, fun z => ?_, ?_, ?_, ?_, R.uints.drop _, fun z e he => ?_, fun z e he => R.clk z e (without_mem he).1, nd_dropK R.mnd, fun q hq => ?_, fun z e he => ?_, fun z => ?_⟩
  · exact R.nd.sublist (List.Sublist.append List.erase_sublist List.erase_sublist)
  · show Rb20.without k s.safe = []
    rw [R.sf0 z]
    rfl
  · show (Rb20.without k s.safe).length ≤ s.room / 2
    have q := R.sfL
    have q2 : (Rb20.without k s.safe).length ≤ s.safe.length := List.length_filter_le _ _
    omega
  · show (m.line.erase (k : Int)).length + (m.safe.erase (k : Int)).length ≤ s.room
    have q := R.len
    omega
  · show ((dropK m.uses (ki (k : Int))).map (·.1)).Perm ((m.line.erase (k : Int) ++ m.safe.erase (k : Int)).map ki)
    rw [keys_drop, List.map_append, erase_ki nl, erase_ki ns, ← List.filter_append, ← List.map_append]
    exact R.ukeys.filter _
  · have q := without_mem he
    show cnt (dropK m.uses (ki (k : Int))) (ik e) = e.uses
    rw [cnt_drop (fun y => q.2 (by have y : (e.key : Int) = (k : Int) := y; omega))]
    exact R.ucnt z e q.1
  · change q ∈ (dropK m.marked (ki (k : Int))).map (·.1) at hq
    show q ∈ (m.line.erase (k : Int)).map ki
    rw [keys_drop, List.mem_filter] at hq
    rw [erase_ki nl, List.mem_filter]
    exact ⟨R.mkeys q hq.1, hq.2⟩
  · have q := without_mem he
    show (valV (dropK m.marked (ki (k : Int))) (ki (ik e))).isSome = e.mark
    rw [valV_drop, if_neg (fun y => q.2 (by have y : (e.key : Int) = (k : Int) := ki_inj.mp y; omega))]
    exact R.mks z e q.1
  · show dropK m.marked (ki (k : Int)) = []
    rw [R.nomk z]
    rfl
/-- what was not there: nothing is changed -/
theorem Rel.drop_no {m : M} {s : Rb20.Cache} {es : List Rb20.Entry} (R : Rel m s es) {k : Nat} (h : m.has (k : Int) = false) : Rb20.dropped s k = s := by
  have hk : ¬ (k : Int) ∈ m.line ++ m.safe := fun z => by
    have q : m.has (k : Int) = true := (R.has (k : Int)).mpr z
    rw [h] at q
    cases q
  rw [List.mem_append, not_or] at hk
  unfold Rb20.dropped
  have a : Rb20.without k s.first = s.first := without_no fun z => hk.1 (by rw [R.line]; exact (R.perm.map ik).mem_iff.mpr z)
  have b : Rb20.without k s.safe = s.safe := without_no fun z => hk.2 (by rw [R.safe]; exact z)
  rw [a, b]
theorem Rel.order {m : M} {s : Rb20.Cache} {es : List Rb20.Entry} (R : Rel m s es) : Rb20Neutral.ints (Rb20.order s) = m.line ++ m.safe := by
  have hi : ∀ l : List Rb20.Entry, Rb20Neutral.ints (l.map fun x => x.key) = l.map ik := fun l => by
    unfold Rb20Neutral.ints
    rw [List.map_map]
    rfl
  unfold Rb20.order
  by_cases h2 : s.rule = 2
  · rw [if_pos h2, hi, R.line, R.safe, R.sf0 (by omega)]
    show _ = es.map ik ++ []
    rw [List.append_nil]
    refine congrArg _ ?_
    have hs := R.srt h2
    have tot : ∀ a b : Rb20.Entry, (!sooner b a) || (!sooner a b) := fun a b => by
      cases e1 : sooner b a <;> cases e2 : sooner a b <;> first | rfl | skip
      rw [sooner_iff] at e1 e2
      omega
    have tr : ∀ a b c : Rb20.Entry, (!sooner b a) = true → (!sooner c b) = true → (!sooner c a) = true := fun a b c x y => by
      rw [Bool.not_eq_true', ← Bool.not_eq_true, sooner_iff] at x y ⊢
      omega
    have p1 : (s.first.mergeSort fun x y => !sooner y x).Pairwise (fun x y => (!sooner y x) = true) := List.pairwise_mergeSort tr tot s.first
    have p2 : es.Pairwise (fun x y => (!sooner y x) = true) := hs.imp fun {x y} q => by
      rw [Bool.not_eq_true', ← Bool.not_eq_true, sooner_iff]
      rw [sooner_iff] at q
      omega
    have pp : (s.first.mergeSort fun x y => !sooner y x).Perm es := (List.mergeSort_perm _ _).trans R.perm.symm
    refine List.Perm.eq_of_pairwise (fun a b ha hb h1 h2' => ?_) p1 p2 pp
    by_cases e : a = b
    · exact e
    · have ha := pp.mem_iff.mp ha
      rw [Bool.not_eq_true', ← Bool.not_eq_true, sooner_iff] at h1 h2'
      have q : sooner a b = true ∨ sooner b a = true := by
        obtain ⟨i, hi, e1⟩ := List.getElem_of_mem ha
        obtain ⟨j, hj, e2⟩ := List.getElem_of_mem hb
        have hp := List.pairwise_iff_getElem.mp hs
        rcases Nat.lt_trichotomy i j with c | c | c
        · have := hp i j hi hj c
          rw [e1, e2] at this
          exact .inl this
        · subst c
          exact absurd (e1.symm.trans e2) e
        · have := hp j i hj hi c
          rw [e1, e2] at this
          exact .inr this
      rw [sooner_iff, sooner_iff] at q
      omega
  · rw [if_neg h2, hi, R.line, R.safe, R.same h2]
    unfold Rb20.Cache.all
    rw [List.map_append]
end Cr
namespace Cr
open PySem L2
open S3 (Cl)
/-! ### What each call answers, and the mirror behind it -/
/-- the mirror and the specification's cache, some entries between them -/
def Rl (m : M) (s : Rb20.Cache) : Prop := ∃ es, Rel m s es
def nextM (m : M) : Cl → M
  | .beg r n => if Rb20.told r n = true then M.fresh r n else m
  | .use k => m.use k
  | .drop k => if m.has k = true then m.drop k else m
  | .holds _ => m
  | .order => m
def ansM (m : M) : Cl → List Int
  | .beg r n => [if Rb20.told r n = true then 0 else -2]
  | .use k => if m.has k = true then [1] else if (m.uses.length : Int) = m.room then [2, m.goer] else [0]
  | .drop k => [if m.has k = true then 1 else 0]
  | .holds k => [if m.has k = true then 1 else 0]
  | .order => ((m.line.length + m.safe.length : Nat) : Int) :: (m.line ++ m.safe)
theorem beg_step (s : Rb20.Cache) (r n : Int) : Rb20Neutral.step s [(Cl.beg r n).nums] = if Rb20.told r n = true then (Rb20.empty r.toNat n.toNat, [0]) else (s, [-2]) := rfl
/-- a begin that answers 0, whatever was ahead -/
theorem beg_first {s : Rb20.Cache} {r n : Int} (h : Rb20.told r n = true) : Rl (M.fresh r n) (Rb20Neutral.step s [(Cl.beg r n).nums]).1 ∧ S3.ans s (.beg r n) = [0] := by
  unfold S3.ans
  rw [beg_step, if_pos h]
  exact ⟨⟨[], Rel.fresh h⟩, rfl⟩
theorem call_step {m : M} {s : Rb20.Cache} (R : Rl m s) (c : Cl) (hf : c.fine) : Rl (nextM m c) (Rb20Neutral.step s [c.nums]).1 ∧ S3.ans s c = ansM m c := by
  cases c with
  | beg r n =>
    unfold S3.ans nextM ansM
    rw [beg_step]
    by_cases h : Rb20.told r n = true
    · simp only [if_pos h]
      exact ⟨⟨[], Rel.fresh h⟩, trivial⟩
    · simp only [if_neg h]
      exact ⟨R, trivial⟩
  | use k =>
    obtain ⟨es, R⟩ := R
    obtain ⟨n, rfl⟩ := Int.eq_ofNat_of_zero_le hf.1
    obtain ⟨h1, R'⟩ := R.use n
    refine ⟨by show Rl _ (Rb20.use s (Int.toNat (n : Int))).2.2; rw [Int.toNat_natCast]; exact R', ?_⟩
    show (if (Rb20.use s (Int.toNat (n : Int))).1 = true then [1] else match (Rb20.use s (Int.toNat (n : Int))).2.1 with | some g => [2, (g : Int)] | none => [0]) = if m.has (n : Int) = true then [1] else if (m.uses.length : Int) = m.room then [2, m.goer] else [0]
    rw [Int.toNat_natCast, h1]
    cases hh : m.has (n : Int) with
    | true => rfl
    | false =>
      rw [if_neg Bool.false_ne_true, if_neg Bool.false_ne_true]
      obtain ⟨g1, g2⟩ := R.use_gone n hh
      by_cases c : (m.uses.length : Int) = m.room
      · obtain ⟨g, e1, e2⟩ := g1 c
        rw [if_pos c, e1, e2]
      · rw [if_neg c, g2 c]
  | drop k =>
    obtain ⟨es, R⟩ := R
    obtain ⟨n, rfl⟩ := Int.eq_ofNat_of_zero_le hf.1
    have e : s.holds (Int.toNat (n : Int)) = m.has (n : Int) := by rw [Int.toNat_natCast]; exact R.holds n
    refine ⟨?_, by show [if s.holds (Int.toNat (n : Int)) = true then (1 : Int) else 0] = _; rw [e]; rfl⟩
    show Rl (if m.has (n : Int) = true then m.drop (n : Int) else m) (Rb20.dropped s (Int.toNat (n : Int)))
    rw [Int.toNat_natCast]
    cases hh : m.has (n : Int) with
    | true => exact ⟨_, R.drop n⟩
    | false =>
      rw [R.drop_no hh]
      exact ⟨es, R⟩
  | holds k =>
    obtain ⟨es, R⟩ := R
    obtain ⟨n, rfl⟩ := Int.eq_ofNat_of_zero_le hf.1
    have e : s.holds (Int.toNat (n : Int)) = m.has (n : Int) := by rw [Int.toNat_natCast]; exact R.holds n
    exact ⟨⟨es, R⟩, by show [if s.holds (Int.toNat (n : Int)) = true then (1 : Int) else 0] = _; rw [e]; rfl⟩
  | order =>
    obtain ⟨es, R⟩ := R
    refine ⟨⟨es, R⟩, ?_⟩
    show ((s.all.length : Nat) : Int) :: Rb20Neutral.ints (Rb20.order s) = ((m.line.length + m.safe.length : Nat) : Int) :: (m.line ++ m.safe)
    rw [R.order, R.all_len]
end Cr
namespace Cr
open PySem L2
open S3 (Cl)
/-! ### The line by last use, and the line in the order of the counts -/
/-- r: l in the order of the counts, those with as many as they stand in l -/
structure St (kvs : KVs) (l r : List Int) : Prop where
  srt : r.Pairwise fun x y => cnt kvs x ≤ cnt kvs y
  same : ∀ v : Int, r.filter (fun x => decide (cnt kvs x = v)) = l.filter (fun x => decide (cnt kvs x = v))
theorem St.perm {kvs : KVs} {l r : List Int} (h : St kvs l r) : r.Perm l := by
  rw [List.perm_iff_count]
  intro a
  have q := congrArg (List.count a) (h.same (cnt kvs a))
  rw [List.count_filter (by simp), List.count_filter (by simp)] at q
  exact q
theorem one_order {kvs : KVs} : ∀ (r r' : List Int), r.Pairwise (fun x y => cnt kvs x ≤ cnt kvs y) → r'.Pairwise (fun x y => cnt kvs x ≤ cnt kvs y) →
    (∀ v : Int, r.filter (fun x => decide (cnt kvs x = v)) = r'.filter (fun x => decide (cnt kvs x = v))) → r = r'
  | [], [], _, _, _ => rfl
  | [], y :: t, _, _, h => by
    have q := h (cnt kvs y)
    rw [List.filter_cons_of_pos (by simp)] at q
    cases q
  | x :: t, [], _, _, h => by
    have q := h (cnt kvs x)
    rw [List.filter_cons_of_pos (by simp)] at q
    cases q
  | x :: t, y :: t', h1, h2, h => by
    have mx : x ∈ y :: t' := by
      have q : x ∈ (x :: t).filter fun z => decide (cnt kvs z = cnt kvs x) := List.mem_filter.mpr ⟨List.mem_cons_self, by simp⟩
      rw [h] at q
      exact (List.mem_filter.mp q).1
    have my : y ∈ x :: t := by
      have q : y ∈ (y :: t').filter fun z => decide (cnt kvs z = cnt kvs y) := List.mem_filter.mpr ⟨List.mem_cons_self, by simp⟩
      rw [← h] at q
      exact (List.mem_filter.mp q).1
    have e : cnt kvs x = cnt kvs y := by
      rcases List.mem_cons.mp mx with q | q
      · rw [q]
      · rcases List.mem_cons.mp my with z | z
        · rw [z]
        · have a := (List.pairwise_cons.mp h1).1 y z
          have b := (List.pairwise_cons.mp h2).1 x q
          omega
    have hx := h (cnt kvs x)
    rw [List.filter_cons_of_pos (by simp), List.filter_cons_of_pos (by simp [e])] at hx
    injection hx with e1 _
    subst e1
    have ih := one_order t t' (List.pairwise_cons.mp h1).2 (List.pairwise_cons.mp h2).2 fun v => by
      have hv := h v
      by_cases c : cnt kvs x = v
      · rw [List.filter_cons_of_pos (by simp [c]), List.filter_cons_of_pos (by simp [c])] at hv
        injection hv
      · rw [List.filter_cons_of_neg (by simp [c]), List.filter_cons_of_neg (by simp [c])] at hv
        exact hv
    rw [ih]
def leC (kvs : KVs) (x y : Int) : Bool := decide (cnt kvs x ≤ cnt kvs y)
theorem leC_tr (kvs : KVs) (a b c : Int) (h1 : leC kvs a b = true) (h2 : leC kvs b c = true) : leC kvs a c = true := by
  unfold leC at *
  rw [decide_eq_true_iff] at *
  omega
theorem leC_tot (kvs : KVs) (a b : Int) : (leC kvs a b || leC kvs b a) = true := by
  unfold leC
  rw [Bool.or_eq_true, decide_eq_true_iff, decide_eq_true_iff]
  omega
theorem St.sort (kvs : KVs) (l : List Int) : St kvs l (l.mergeSort (leC kvs)) := by
  refine ⟨?_, fun v => ?_⟩
  · exact (List.pairwise_mergeSort (leC_tr kvs) (leC_tot kvs) l).imp fun {a b} h => of_decide_eq_true h
  · have hc : (l.filter fun x => decide (cnt kvs x = v)).Pairwise fun x y => leC kvs x y = true := by
      refine List.Pairwise.imp_of_mem (R := fun _ _ => True) (fun {a b} ha hb _ => ?_) (List.pairwise_of_forall fun _ _ => trivial)
      have h1 := of_decide_eq_true (List.mem_filter.mp ha).2
      have h2 := of_decide_eq_true (List.mem_filter.mp hb).2
      exact decide_eq_true (by omega)
    have hs := List.sublist_mergeSort (leC_tr kvs) (leC_tot kvs) hc List.filter_sublist
    have hf := hs.filter fun x => decide (cnt kvs x = v)
    rw [List.filter_filter] at hf
    simp only [Bool.and_self] at hf
    exact (hf.eq_of_length ((List.mergeSort_perm l (leC kvs)).filter _).length_eq.symm).symm
theorem St.eq {kvs : KVs} {l r : List Int} (h : St kvs l r) : l.mergeSort (leC kvs) = r := by
  have q := St.sort kvs l
  exact one_order _ _ q.srt h.srt fun v => (q.same v).trans (h.same v).symm
theorem St.snoc {kvs : KVs} {l r : List Int} {k : Int} (h : St kvs l r) : St kvs (l ++ [k]) (lowPart kvs (cnt kvs k) r ++ k :: highPart kvs (cnt kvs k) r) := by
  unfold lowPart highPart
  refine ⟨?_, fun v => ?_⟩
  · rw [List.pairwise_append, List.pairwise_cons]
    refine ⟨h.srt.filter _, ⟨fun b hb => ?_, h.srt.filter _⟩, fun a ha b hb => ?_⟩
    · have := of_decide_eq_true (List.mem_filter.mp hb).2
      omega
    · have ha := of_decide_eq_true (List.mem_filter.mp ha).2
      rcases List.mem_cons.mp hb with q | q
      · rw [q]
        exact ha
      · have := of_decide_eq_true (List.mem_filter.mp q).2
        omega
  · rw [List.filter_append, List.filter_append, List.filter_cons, List.filter_filter, List.filter_filter, ← h.same v]
    by_cases c : cnt kvs k = v
    · rw [if_pos (by simp [c])]
      have e1 : r.filter (fun x => decide (cnt kvs x = v) && decide (cnt kvs x ≤ cnt kvs k)) = r.filter fun x => decide (cnt kvs x = v) := by
        refine List.filter_congr fun x _ => ?_
        rw [Bool.eq_iff_iff, Bool.and_eq_true, decide_eq_true_iff, decide_eq_true_iff]
        omega
      have e2 : r.filter (fun x => decide (cnt kvs x = v) && decide (cnt kvs k < cnt kvs x)) = [] := by
        rw [List.filter_eq_nil_iff]
        intro x _
        rw [Bool.and_eq_true, decide_eq_true_iff, decide_eq_true_iff]
        omega
      rw [e1, e2, List.filter_cons_of_pos (by simp [c])]
      rfl
    · rw [if_neg (by simp [c])]
      rw [List.filter_cons_of_neg (by simp [c])]
      by_cases d : v ≤ cnt kvs k
      · have e1 : r.filter (fun x => decide (cnt kvs x = v) && decide (cnt kvs x ≤ cnt kvs k)) = r.filter fun x => decide (cnt kvs x = v) := by
          refine List.filter_congr fun x _ => ?_
          rw [Bool.eq_iff_iff, Bool.and_eq_true, decide_eq_true_iff, decide_eq_true_iff]
          omega
        have e2 : r.filter (fun x => decide (cnt kvs x = v) && decide (cnt kvs k < cnt kvs x)) = [] := by
          rw [List.filter_eq_nil_iff]
          intro x _
          rw [Bool.and_eq_true, decide_eq_true_iff, decide_eq_true_iff]
          omega
        rw [e1, e2]
        rfl
      · have e1 : r.filter (fun x => decide (cnt kvs x = v) && decide (cnt kvs x ≤ cnt kvs k)) = [] := by
          rw [List.filter_eq_nil_iff]
          intro x _
          rw [Bool.and_eq_true, decide_eq_true_iff, decide_eq_true_iff]
          omega
        have e2 : r.filter (fun x => decide (cnt kvs x = v) && decide (cnt kvs k < cnt kvs x)) = r.filter fun x => decide (cnt kvs x = v) := by
          refine List.filter_congr fun x _ => ?_
          rw [Bool.eq_iff_iff, Bool.and_eq_true, decide_eq_true_iff, decide_eq_true_iff]
          omega
        rw [e1, e2]
        exact (List.append_nil _).symm
theorem St.erase {kvs : KVs} {l r : List Int} {k : Int} (h : St kvs l r) (nl : l.Nodup) : St kvs (l.erase k) (r.erase k) := by
  have nr : r.Nodup := h.perm.nodup_iff.mpr nl
  refine ⟨h.srt.sublist List.erase_sublist, fun v => ?_⟩
  rw [nr.erase_eq_filter, nl.erase_eq_filter, List.filter_filter, List.filter_filter]
  have c : ∀ t : List Int, t.filter (fun a => decide (cnt kvs a = v) && (a != k)) = (t.filter fun x => decide (cnt kvs x = v)).filter fun a => a != k := fun t => by
    rw [List.filter_filter]
    exact List.filter_congr fun x _ => Bool.and_comm _ _
  rw [c, c, h.same]
theorem St.congr {kvs kvs' : KVs} {l r : List Int} (h : St kvs l r) (e : ∀ x ∈ l, cnt kvs' x = cnt kvs x) : St kvs' l r := by
  have er : ∀ x ∈ r, cnt kvs' x = cnt kvs x := fun x hx => e x (h.perm.mem_iff.mp hx)
  refine ⟨h.srt.imp_of_mem fun {a b} ha hb hab => by rw [er a ha, er b hb]; exact hab, fun v => ?_⟩
  have c : ∀ t : List Int, (∀ x ∈ t, cnt kvs' x = cnt kvs x) → t.filter (fun x => decide (cnt kvs' x = v)) = t.filter fun x => decide (cnt kvs x = v) := fun t ht => List.filter_congr fun x hx => by rw [ht x hx]
  rw [c r er, c l e, h.same]
theorem St.nil (kvs : KVs) : St kvs [] [] := ⟨List.Pairwise.nil, fun _ => rfl⟩
end Cr
namespace Cr
open PySem L2
open S3 (Cl)
/-! ### The cache that is told, beside the mirror of misses -/
def M.out (m : M) (k : Int) : M := if k ∈ m.safe then { m with safe := m.safe.erase k } else { m with line := m.line.erase k }
def M.snoc (m : M) (k : Int) : M := { m with line := m.line ++ [k] }
def M.snocS (m : M) (k : Int) : M := { m with safe := m.safe ++ [k] }
def M.mark (m : M) (k : Int) : M := { m with marked := putK m.marked (ki k) (.bl true) }
def M.dropU (m : M) (k : Int) : M := { m with uses := dropK m.uses (ki k) }
def M.dropM (m : M) (k : Int) : M := { m with marked := dropK m.marked (ki k) }
def M.forget (m : M) (k : Int) : M := ((m.out k).dropU k).dropM k
def M.byu (m : M) : List Int := m.line.mergeSort (leC m.uses)
def M.spun (m : M) : M := spin m.marked.length m
def M.qagain (m : M) (k : Int) : M :=
  if m.rule = 1 ∨ m.rule = 2 then ((m.count k).out k).snoc k
  else if m.rule = 3 then (m.count k).mark k
  else if m.rule = 4 then (((m.count k).out k).snocS k).back
  else m.count k
def M.qgo (m : M) : Int := if m.rule = 2 then m.byu.headD 0 else m.spun.line.headD 0
def M.qleave (m : M) : M := if m.rule = 2 then m.forget m.qgo else m.spun.forget m.qgo
def M.qcome (m : M) (k : Int) : M := (m.snoc k).put1 k
def M.quse (m : M) (k : Int) : M := if m.has k = true then m.qagain k else (if (m.uses.length : Int) = m.room then m.qleave else m).qcome k
def M.qord (m : M) : List Int := if m.rule = 2 then m.byu else m.line ++ m.safe
structure Q (q m : M) : Prop where
  rule : q.rule = m.rule
  room : q.room = m.room
  safe : q.safe = m.safe
  uses : q.uses = m.uses
  marked : q.marked = m.marked
  same : ¬ m.rule = 2 → q.line = m.line
  srt : m.rule = 2 → St m.uses q.line m.line
theorem Q.eq {q m : M} (h : Q q m) (h2 : ¬ m.rule = 2) : q = m := by
  have f := h.same h2
  obtain ⟨a, b, c, d, e, _, _⟩ := h
  obtain ⟨q1, q2, q3, q4, q5, q6⟩ := q
  obtain ⟨m1, m2, m3, m4, m5, m6⟩ := m
  have a : q1 = m1 := a
  have b : q2 = m2 := b
  have c : q4 = m4 := c
  have d : q5 = m5 := d
  have e : q6 = m6 := e
  have f : q3 = m3 := f
  subst a b c d e f
  rfl
theorem Q.of_eq {q m : M} (h2 : ¬ m.rule = 2) (e : q = m) : Q q m := by
  subst e
  exact ⟨rfl, rfl, rfl, rfl, rfl, fun _ => rfl, fun z => absurd z h2⟩
theorem Q.perm {q m : M} (h : Q q m) : q.line.Perm m.line := by
  by_cases c : m.rule = 2
  · exact (h.srt c).perm.symm
  · rw [h.same c]
theorem back_rule (m : M) : m.back.rule = m.rule := by
  unfold M.back
  split <;> rfl
theorem again_rule (m : M) (k : Int) : (m.again k).rule = m.rule := by
  unfold M.again
  repeat' split
  all_goals first
    | rfl
    | (unfold M.safer; rw [back_rule]; unfold M.inSafe; split <;> rfl)
theorem Rel.no_safe {m : M} {s : Rb20.Cache} {es : List Rb20.Entry} (R : Rel m s es) (h4 : ¬ m.rule = 4) : m.safe = [] := by
  have q := R.rule
  rw [R.safe, R.sf0 (by omega)]
  rfl
theorem Rel.no_mark {m : M} {s : Rb20.Cache} {es : List Rb20.Entry} (R : Rel m s es) (h3 : ¬ m.rule = 3) : m.marked = [] := by
  have q := R.rule
  exact R.nomk (by omega)
theorem out_line {m : M} {k : Int} (h : ¬ k ∈ m.safe) : m.out k = { m with line := m.line.erase k } := if_neg h
theorem out_safe {m : M} {k : Int} (h : k ∈ m.safe) : m.out k = { m with safe := m.safe.erase k } := if_pos h
theorem cnt_put_other {kvs : KVs} {k n x : Int} (h : ¬ x = k) : cnt (putK kvs (ki k) (.int n)) x = cnt kvs x := by
  rw [cnt_put, if_neg h]
theorem Q.nd {q m : M} {s : Rb20.Cache} {es : List Rb20.Entry} (h : Q q m) (R : Rel m s es) : (q.line ++ q.safe).Nodup := by
  rw [h.safe]
  exact (h.perm.append_right m.safe).nodup_iff.mpr R.nd
theorem Q.ndl {q m : M} {s : Rb20.Cache} {es : List Rb20.Entry} (h : Q q m) (R : Rel m s es) : q.line.Nodup := (List.nodup_append.mp (h.nd R)).1
theorem Q.again {q m : M} {s : Rb20.Cache} {es : List Rb20.Entry} {k : Int} (h : Q q m) (R : Rel m s es) (hk : k ∈ m.line ++ m.safe) : Q (q.qagain k) (m.again k) := by
  by_cases h2 : m.rule = 2
  · have hs : m.safe = [] := R.no_safe (by omega)
    have hq : q.qagain k = ((q.count k).out k).snoc k := if_pos (.inr (h.rule.trans h2))
    have hm : m.again k = ((m.count k).off k).place k := by
      unfold M.again
      rw [if_neg (by omega), if_pos h2]
    rw [hq, hm]
    have ho : (q.count k).out k = { q.count k with line := q.line.erase k } := out_line (by show ¬ k ∈ q.safe; rw [h.safe, hs]; simp)
    rw [ho]
    have eu : (q.count k).uses = (m.count k).uses := by
      show putK q.uses _ _ = putK m.uses _ _
      rw [h.uses]
    refine ⟨h.rule, h.room, h.safe, eu, h.marked, fun z => absurd h2 z, fun _ => ?_⟩
    show St (m.count k).uses (q.line.erase k ++ [k]) (lowPart (m.count k).uses (cnt (m.count k).uses k) (m.line.erase k) ++ k :: highPart (m.count k).uses (cnt (m.count k).uses k) (m.line.erase k))
    refine St.snoc (((h.srt h2).erase (h.ndl R)).congr fun x hx => cnt_put_other fun e => ?_)
    subst e
    exact ((h.ndl R).mem_erase_iff.mp hx).1 rfl
  · have e := h.eq h2
    subst e
    refine Q.of_eq (by rw [again_rule]; exact h2) ?_
    unfold M.qagain M.again
    by_cases h1 : q.rule = 1
    · rw [if_pos (.inl h1), if_pos h1, out_line (by show ¬ k ∈ q.safe; rw [R.no_safe (by omega)]; simp)]
      rfl
    · rw [if_neg (by omega), if_neg h1, if_neg h2]
      by_cases h3 : q.rule = 3
      · rw [if_pos h3, if_pos h3]
        rfl
      · rw [if_neg h3, if_neg h3]
        by_cases h4 : q.rule = 4
        · rw [if_pos h4, if_pos h4]
          unfold M.safer M.inSafe
          by_cases c : k ∈ q.safe
          · rw [out_safe (m := q.count k) c, if_pos (show k ∈ (q.count k).safe from c)]
            rfl
          · rw [out_line (m := q.count k) c, if_neg (show ¬ k ∈ (q.count k).safe from c)]
            rfl
        · rw [if_neg h4, if_neg h4]
theorem come_rule (m : M) (k : Int) : (m.come k).rule = m.rule := by
  unfold M.come
  split <;> rfl
theorem Q.come {q m : M} {k : Int} (h : Q q m) (hk : ¬ k ∈ q.line) : Q (q.qcome k) (m.come k) := by
  by_cases h2 : m.rule = 2
  · have hm : m.come k = (m.put1 k).place k := if_pos h2
    rw [hm]
    have eu : (q.put1 k).uses = (m.put1 k).uses := by
      show putK q.uses _ _ = putK m.uses _ _
      rw [h.uses]
    refine ⟨h.rule, h.room, h.safe, eu, h.marked, fun z => absurd h2 z, fun _ => ?_⟩
    show St (m.put1 k).uses (q.line ++ [k]) (lowPart (m.put1 k).uses (cnt (m.put1 k).uses k) m.line ++ k :: highPart (m.put1 k).uses (cnt (m.put1 k).uses k) m.line)
    refine St.snoc ((h.srt h2).congr fun x hx => cnt_put_other fun e => ?_)
    subst e
    exact hk hx
  · have e := h.eq h2
    subst e
    refine Q.of_eq (by rw [come_rule]; exact h2) ?_
    unfold M.come
    rw [if_neg h2]
    rfl
theorem Q.byu {q m : M} (h : Q q m) (h2 : m.rule = 2) : q.byu = m.line := by
  unfold M.byu
  rw [h.uses]
  exact (h.srt h2).eq
theorem Q.ord {q m : M} {s : Rb20.Cache} {es : List Rb20.Entry} (h : Q q m) (R : Rel m s es) : q.qord = m.line ++ m.safe := by
  unfold M.qord
  by_cases h2 : m.rule = 2
  · rw [if_pos (h.rule.trans h2), h.byu h2, R.no_safe (by omega), List.append_nil]
  · rw [if_neg (by rw [h.rule]; exact h2), h.eq h2]
theorem Q.go {q m : M} {s : Rb20.Cache} {es : List Rb20.Entry} (h : Q q m) (R : Rel m s es) : q.qgo = m.goer := by
  unfold M.qgo M.goer
  by_cases h2 : m.rule = 2
  · rw [if_pos (h.rule.trans h2), h.byu h2, R.no_mark (by omega)]
    rfl
  · rw [if_neg (by rw [h.rule]; exact h2), h.eq h2]
    rfl
theorem drop_eq {m : M} {k : Int} (nd : (m.line ++ m.safe).Nodup) : m.forget k = m.drop k := by
  have dj := (List.nodup_append.mp nd).2.2
  unfold M.forget M.drop M.dropM M.dropU
  by_cases c : k ∈ m.safe
  · rw [out_safe c]
    have e : m.line.erase k = m.line := List.erase_of_not_mem fun z => dj k z k c rfl
    rw [e]
  · rw [out_line c]
    have e : m.safe.erase k = m.safe := List.erase_of_not_mem c
    rw [e]
theorem Q.drop {q m : M} {s : Rb20.Cache} {es : List Rb20.Entry} {k : Int} (h : Q q m) (R : Rel m s es) : Q (q.forget k) (m.drop k) := by
  rw [drop_eq (h.nd R)]
  by_cases h2 : m.rule = 2
  · refine ⟨h.rule, h.room, ?_, ?_, ?_, fun z => absurd h2 z, fun _ => ?_⟩
    · show q.safe.erase k = m.safe.erase k
      rw [h.safe]
    · show dropK q.uses (ki k) = dropK m.uses (ki k)
      rw [h.uses]
    · show dropK q.marked (ki k) = dropK m.marked (ki k)
      rw [h.marked]
    · show St (dropK m.uses (ki k)) (q.line.erase k) (m.line.erase k)
      refine ((h.srt h2).erase (h.ndl R)).congr fun x hx => cnt_drop ?_
      exact ((h.ndl R).mem_erase_iff.mp hx).1
  · have e := h.eq h2
    subst e
    exact Q.of_eq h2 rfl
theorem spin_same : ∀ (n : Nat) (m : M), (spin n m).rule = m.rule ∧ (spin n m).room = m.room ∧ (spin n m).safe = m.safe ∧ (spin n m).uses = m.uses ∧ (spin n m).line.Perm m.line
  | 0, m => ⟨rfl, rfl, rfl, rfl, List.Perm.refl _⟩
  | n + 1, m => by
    cases e : m.line with
    | nil =>
      have q : spin (n + 1) m = m := by
        unfold spin
        rw [e]
      rw [q]
      exact ⟨rfl, rfl, rfl, rfl, by rw [e]⟩
    | cons x r =>
      have q : spin (n + 1) m = if (valV m.marked (ki x)).isSome = true then spin n (m.turn x r) else m := by
        conv => lhs; unfold spin
        rw [e]
      rw [q]
      by_cases c : (valV m.marked (ki x)).isSome = true
      · rw [if_pos c]
        obtain ⟨a, b, c', d, f⟩ := spin_same n (m.turn x r)
        refine ⟨a, b, c', d, f.trans ?_⟩
        show (r ++ [x]).Perm (x :: r)
        exact List.perm_append_comm (l₂ := [x])
      · rw [if_neg c]
        exact ⟨rfl, rfl, rfl, rfl, by rw [e]⟩
theorem gone_rule (m : M) : m.gone.rule = m.rule := by
  unfold M.gone
  split <;> rfl
theorem leave_rule (m : M) : m.leave.rule = m.rule := by
  unfold M.leave
  rw [gone_rule]
  exact (spin_same _ _).1
theorem Q.leave {q m : M} {s : Rb20.Cache} {es : List Rb20.Entry} (h : Q q m) (R : Rel m s es) (hne : es ≠ []) : Q q.qleave m.leave := by
  have hg := h.go R
  have hrr := R.rule
  obtain ⟨x, r, hl⟩ : ∃ x r, m.line = x :: r := by
    cases e : m.line with
    | nil =>
      rw [R.line] at e
      exact absurd (List.map_eq_nil_iff.mp e) hne
    | cons x r => exact ⟨x, r, rfl⟩
  by_cases h2 : m.rule = 2
  · have hmk : m.marked = [] := R.no_mark (by omega)
    have eg : m.goer = x := by
      unfold M.goer
      rw [hmk]
      show m.line.headD 0 = x
      rw [hl]
      rfl
    have ql : q.qleave = q.forget x := by
      unfold M.qleave
      rw [if_pos (h.rule.trans h2), hg, eg]
    have ml : m.leave = ⟨m.rule, m.room, r, m.safe, dropK m.uses (ki x), []⟩ := by
      unfold M.leave
      rw [hmk]
      show m.gone = _
      unfold M.gone
      rw [hl]
      show (⟨m.rule, m.room, r, m.safe, dropK m.uses (ki x), m.marked⟩ : M) = ⟨m.rule, m.room, r, m.safe, dropK m.uses (ki x), []⟩
      rw [hmk]
    have md : m.drop x = m.leave := by
      rw [ml]
      unfold M.drop
      rw [hl, hmk, R.no_safe (by omega), List.erase_cons_head]
      rfl
    rw [ql, ← md]
    exact h.drop R
  · have e := h.eq h2
    subst e
    refine Q.of_eq (by rw [leave_rule]; exact h2) ?_
    have ql : q.qleave = q.spun.forget q.goer := by
      unfold M.qleave
      rw [if_neg h2, hg]
    rw [ql]
    obtain ⟨s1, s2, s3, s4, s5⟩ := spin_same q.marked.length q
    have hx : ∃ x r, q.spun.line = x :: r ∧ valV q.spun.marked (ki x) = none := by
      by_cases h3 : s.rule = 3
      · have hes := R.same (by omega)
        have hlt : q.marked.length < s.first.length + 1 := by
          have a := R.mlen
          rw [R.ll] at a
          omega
        obtain ⟨a, b, c⟩ := Rel.spin q.marked.length (s.first.length + 1) rfl R h3 hlt hes
        cases ht : Rb20.turned (s.first.length + 1) es with
        | nil =>
          rw [ht] at b
          exact absurd (List.length_eq_zero_iff.mp b.symm) hne
        | cons y t =>
          have hm := c y t ht
          have hmk := a.mks h3 y (by rw [ht]; exact List.mem_cons_self)
          refine ⟨ik y, t.map ik, ?_, ?_⟩
          · show (spin q.marked.length q).line = _
            rw [a.line, ht]
            rfl
          · rw [hm] at hmk
            cases ez : valV q.spun.marked (ki (ik y)) with
            | none => rfl
            | some z =>
              have hmk : (valV q.spun.marked (ki (ik y))).isSome = false := hmk
              rw [ez] at hmk
              cases hmk
      · have hmk : q.marked = [] := R.no_mark (by omega)
        have es' : q.spun = q := by
          unfold M.spun
          rw [hmk]
          rfl
        rw [es']
        refine ⟨x, r, hl, ?_⟩
        rw [hmk]
        rfl
    obtain ⟨y, t, hy, hym⟩ := hx
    have eg : q.goer = y := by
      show q.spun.line.headD 0 = y
      rw [hy]
      rfl
    rw [eg]
    have hns : ¬ y ∈ q.spun.safe := fun z => by
      have z' : y ∈ q.safe := by
        rw [show q.spun.safe = q.safe from s3] at z
        exact z
      have yl : y ∈ q.line := s5.mem_iff.mp (by show y ∈ q.spun.line; rw [hy]; exact List.mem_cons_self)
      exact (List.nodup_append.mp R.nd).2.2 y yl y z' rfl
    unfold M.forget M.dropM M.dropU
    rw [out_line hns]
    have el : q.leave = q.spun.gone := rfl
    rw [el]
    unfold M.gone
    rw [hy, List.erase_cons_head]
    have ed : dropK q.spun.marked (ki y) = q.spun.marked := dropK_no fun z => by
      have w := isSome_iff.mpr z
      rw [hym] at w
      cases w
    simp only [ed]
end Cr
namespace Cr
open PySem L2
open S3 (Cl)
theorem Rel.left {m : M} {s : Rb20.Cache} {es : List Rb20.Entry} {k : Nat} (R : Rel m s es) (hne : es ≠ []) (hk : ¬ (k : Int) ∈ m.line ++ m.safe) : ∃ s' es', Rel m.leave s' es' ∧ ¬ (k : Int) ∈ m.leave.line ++ m.leave.safe := by
  obtain ⟨g, s', es', hl, R', hc, hr, hrm, hsf, hln, hmem⟩ := R.leave hne
  refine ⟨s', es', R', fun z => ?_⟩
  obtain ⟨e, he, hek⟩ := (R'.mem k).mp z
  apply hk
  rw [R.mem k]
  rcases List.mem_append.mp he with q | q
  · obtain ⟨e', h1, h2⟩ := hmem e q
    exact ⟨e', List.mem_append.mpr (.inl h1), h2.trans hek⟩
  · rw [hsf] at q
    exact ⟨e, List.mem_append.mpr (.inr q), hek⟩
theorem Q.has {q m : M} (h : Q q m) (k : Int) : q.has k = m.has k := by
  unfold M.has
  rw [h.uses]
theorem Q.fresh (r n : Int) : Q (M.fresh r n) (M.fresh r n) := ⟨rfl, rfl, rfl, rfl, rfl, fun _ => rfl, fun _ => St.nil _⟩
theorem Q.use {q m : M} {s : Rb20.Cache} {es : List Rb20.Entry} (h : Q q m) (R : Rel m s es) (k : Nat) : Q (q.quse (k : Int)) (m.use (k : Int)) := by
  unfold M.quse M.use
  rw [h.has, h.uses, h.room]
  by_cases c : m.has (k : Int) = true
  · rw [if_pos c, if_pos c]
    exact h.again R ((R.has (k : Int)).mp c)
  · rw [if_neg c, if_neg c]
    have hk : ¬ (k : Int) ∈ m.line ++ m.safe := fun z => c ((R.has (k : Int)).mpr z)
    by_cases f : (m.uses.length : Int) = m.room
    · rw [if_pos f, if_pos f]
      have hfull : m.line.length + m.safe.length = s.room := by
        have a := R.ulen
        have b := R.room
        omega
      have hne := R.fullp hfull
      obtain ⟨s', es', R', hk'⟩ := R.left hne hk
      have hq := h.leave R hne
      refine hq.come fun z => hk' (List.mem_append.mpr (.inl (hq.perm.mem_iff.mp z)))
    · rw [if_neg f, if_neg f]
      exact h.come fun z => hk (List.mem_append.mpr (.inl (h.perm.mem_iff.mp z)))
/-- the told cache and the specification's -/
def Rq (q : M) (s : Rb20.Cache) : Prop := ∃ m, Rl m s ∧ Q q m
def nextQ (q : M) : Cl → M
  | .beg r n => if Rb20.told r n = true then M.fresh r n else q
  | .use k => q.quse k
  | .drop k => if q.has k = true then q.forget k else q
  | .holds _ => q
  | .order => q
def ansQ (q : M) : Cl → List Int
  | .beg r n => [if Rb20.told r n = true then 0 else -2]
  | .use k => if q.has k = true then [1] else if (q.uses.length : Int) = q.room then [2, q.qgo] else [0]
  | .drop k => [if q.has k = true then 1 else 0]
  | .holds k => [if q.has k = true then 1 else 0]
  | .order => (q.qord.length : Int) :: q.qord
theorem beg_firstQ {s : Rb20.Cache} {r n : Int} (h : Rb20.told r n = true) : Rq (M.fresh r n) (Rb20Neutral.step s [(Cl.beg r n).nums]).1 ∧ S3.ans s (.beg r n) = [0] := by
  obtain ⟨a, b⟩ := beg_first (s := s) h
  exact ⟨⟨_, a, Q.fresh r n⟩, b⟩
theorem call_stepQ {q : M} {s : Rb20.Cache} (R : Rq q s) (c : Cl) (hf : c.fine) : Rq (nextQ q c) (Rb20Neutral.step s [c.nums]).1 ∧ S3.ans s c = ansQ q c := by
  obtain ⟨m, R, h⟩ := R
  obtain ⟨a, b⟩ := call_step R c hf
  rw [b]
  obtain ⟨es, R⟩ := R
  suffices hs : Q (nextQ q c) (nextM m c) ∧ ansM m c = ansQ q c from ⟨⟨_, a, hs.1⟩, hs.2⟩
  cases c with
  | beg r n =>
    unfold nextQ nextM ansM ansQ
    refine ⟨?_, rfl⟩
    show Q (if Rb20.told r n = true then M.fresh r n else q) (if Rb20.told r n = true then M.fresh r n else m)
    split
    · exact Q.fresh r n
    · exact h
  | use k =>
    obtain ⟨n, rfl⟩ := Int.eq_ofNat_of_zero_le hf.1
    refine ⟨h.use R n, ?_⟩
    show (if m.has (n : Int) = true then [1] else if (m.uses.length : Int) = m.room then [2, m.goer] else [0]) = if q.has (n : Int) = true then [1] else if (q.uses.length : Int) = q.room then [2, q.qgo] else [0]
    rw [h.has, h.uses, h.room, h.go R]
  | drop k =>
    refine ⟨?_, ?_⟩
    · show Q (if q.has k = true then q.forget k else q) (if m.has k = true then m.drop k else m)
      rw [h.has]
      split
      · exact h.drop R
      · exact h
    · show [if m.has k = true then (1 : Int) else 0] = [if q.has k = true then 1 else 0]
      rw [h.has]
  | holds k =>
    refine ⟨h, ?_⟩
    show [if m.has k = true then (1 : Int) else 0] = [if q.has k = true then 1 else 0]
    rw [h.has]
  | order =>
    refine ⟨h, ?_⟩
    show ((m.line.length + m.safe.length : Nat) : Int) :: (m.line ++ m.safe) = (q.qord.length : Int) :: q.qord
    rw [h.ord R, List.length_append]
/-- what the told cache's defs ask -/
structure Gd (q : M) : Prop where
  len : q.line.length + q.safe.length ≤ 1024
  has : ∀ k : Int, (valV q.uses (ki k)).isSome = true ↔ k ∈ q.line ++ q.safe
  ulen : q.uses.length ≤ 1024
  mlen : q.marked.length ≤ 1024
  mnd : (q.marked.map (·.1)).Nodup
  whl : Ints q.uses
  full : (q.uses.length : Int) = q.room → q.line ≠ []
theorem Rq.gd {q : M} {s : Rb20.Cache} (R : Rq q s) : Gd q := by
  obtain ⟨m, ⟨es, R⟩, h⟩ := R
  have hl := h.perm.length_eq
  have h1 := R.lines
  have h2 := R.mlen
  have h3 := R.ulen
  refine ⟨?_, fun k => ?_, ?_, ?_, ?_, ?_, fun f => ?_⟩
  · rw [hl, h.safe]
    exact h1
  · rw [h.uses, R.has k, h.safe]
    exact ((h.perm.append_right m.safe).mem_iff).symm
  · rw [h.uses, h3]
    exact h1
  · rw [h.marked]
    omega
  · rw [h.marked]
    exact R.mnd
  · rw [h.uses]
    exact R.uints
  · have e := R.fullp (by
      have b := R.room
      rw [h.uses, h.room] at f
      omega)
    intro z
    rw [z] at hl
    rw [R.line, List.length_map] at hl
    exact e (List.length_eq_zero_iff.mp hl.symm)
end Cr
/-! ### sorted(xs, key=lambda one: self.uses[one]) -/
namespace Sl
open PySem PySem.Spec PyProof.Rows L2 LamX
/-- p is no object that H tells of, tables aside -/
def NewAt (H : Hp) (p : Addr) : Prop := ∀ b o, H b = some o → (∀ ps, o ≠ .tbl ps) → b ≠ p
theorem NewAt.of {H : Hp} {p : Addr} (h : H p = none) : NewAt H p := fun b o e _ z => by
  rw [z, h] at e
  cases e
theorem extN_new {H H' : Hp} {p : Addr} (e : ExtN H H') (h : NewAt H' p) : NewAt H p := fun b o q n => h b o (e b o q n) n
theorem extN_seq {K : PySem.W.Frag} {H H' : Hp} {a : Addr} {xs : List V} (e : ExtN H H') (h : SqL K H a xs) : SqL K H' a xs := by
  rcases h with h | h
  · rcases h with h | ⟨o, h⟩
    · exact .inl (.inl (e _ _ h (fun _ z => by cases z)))
    · exact .inl (.inr ⟨o, e _ _ h (fun _ z => by cases z)⟩)
  · exact .inr h
/-- the lambda's names: its own one, and the one that it captures -/
structure LamN (sc : Scope) : Prop where
  kind : sc.kind = .function
  co : sc.isCoroutine = false
  gen : sc.isGenerator = false
  noc : ∀ x ∈ sc.names, x.2 ≠ .cell
  own : sc.names.lookup ("one" : Str) = some .local
  cap : sc.names.lookup ("self" : Str) = some .free
  only : ∀ y ∈ sc.names, y.2 = .free → y.1 = ("self" : Str)
theorem clo_self {cells : List (Str × Addr)} {sc : Scope} {c : Addr} (L : LamN sc) (h : cells.lookup ("self" : Str) = some c) : (cloFrom cells sc.names []).lookup ("self" : Str) = some c := by
  have hm : (("self" : Str), NameKind.free) ∈ sc.names := PySem.mem_of_lookup L.cap
  obtain ⟨c', hc'⟩ := mem_lookup (cloFrom_has (cells := cells) (acc := []) hm)
  rw [hc']
  rcases cloFrom_mem (PySem.mem_of_lookup hc') with q | ⟨_, q⟩
  · cases q
  · rw [q, h]
    rfl
def tSortLam (K : PySem.W.Frag) (T : List (Addr × Str)) (te : TE) : TE := fun σ H Q => te σ H fun x H1 => Tabs T H1 ∧ ∃ (l a C dx u : Addr) (fs : List (Str × V)) (kvs : List (Key × V)) (xs : List Int) (cn : Int → Int),
  x = .ref l ∧ SqL K H1 l (xs.map V.int) ∧ σ[0]? = some (some (.ref a)) ∧ H1 a = some (.ins C dx fs) ∧ Cls K C ∧ NoAttr K C "uses" ∧ fs.lookup ("uses" : Str) = some (.ref u) ∧ H1 u = some (.dK kvs) ∧ (∀ x ∈ xs, valV kvs (.inl x) = some (.int (cn x))) ∧
  ∀ (H2 : Hp) (p : Addr), ExtN H1 H2 → Tabs T H2 → H2 p = none → Q (.ref p) (upd H2 p (.lst ((xs.mergeSort fun x y => decide (cn x ≤ cn y)).map V.int)))
section
variable {s : Shared} {H : Hp} {σ : L2.St} {X : Cx} {pins : List (Addr × Obj)}
/-- one call of the lambda -/
theorem lam_turn {f c' a C dx u : Addr} {fs : List (Str × V)} {kvs : List (Key × V)} {n x : Int} {t : Tok} {params : Arguments} {scope : Scope} {pm ctv : Value} {A : Around} {p1 p2 p3 p4 : Pos} (I : Inv X pins σ H s) (hA : A.depth < recursionLimit) (L : LamN scope)
    (hf : s.heap.get? f = some (PySem.W.kla_obj "<lambda>" (X.env.qual ++ "<lambda>") params (.Subscript (.Attribute (.Name "self" p1) "uses" p2) (.Name "one" p3) p4) scope (cloFrom X.env.cells scope.names []) pm c' ctv)) (hc' : H c' = some (CodeO c' (X.env.qual ++ "<lambda>")))
    (hbind : ∀ v, bindArgs (PySem.W.kla_fn "<lambda>" (X.env.qual ++ "<lambda>") params (.Subscript (.Attribute (.Name "self" p1) "uses" p2) (.Name "one" p3) p4) scope (cloFrom X.env.cells scope.names []) pm (.ref c') ctv) ⟨[v], []⟩ = pure [(("one" : Str), v)])
    (hN : X.N[0]? = some ("self" : Str)) (hv : X.env.scope.names.lookup ("self" : Str) = some .cell) (hs : σ[0]? = some (some (.ref a))) (ha : H a = some (.ins C dx fs)) (c : Cls X.K C) (na : NoAttr X.K C "uses") (hl : fs.lookup ("uses" : Str) = some (.ref u)) (hu : H u = some (.dK kvs)) (hx : valV kvs (.inl x) = some (.int n)) :
    wpAny (model X.prog X.w) A (call (.ref f) [.int x t]) (PySem.W.KeyPure (.int n) s) (fun _ _ => False) s := by
  obtain ⟨⟨oc, vs, tq, hoc, hdc, hvc⟩, _, _⟩ := I.hok c' _ hc'
  have rc : codeAny (model X.prog X.w) A (.call (.ref f) ⟨[.int x t], []⟩) (fun r s' => ∃ w, r = .ok (.ret w) ∧ PySem.W.KeyPure (.int n) s w s') s := by
    refine PySem.W.kla_callFunE hA hf rfl L.co L.gen rfl ⟨c', oc, vs, tq, rfl, hoc, hdc, hvc⟩ ?_
    rw [hbind]
    refine wpAny_pure (wpAny_newFunctionEnv L.noc (fun y hy => ?_) (fun h₁ hns hsb => ⟨I.nolimit.fresh _ hsb, ?_⟩) L.kind)
    · rw [List.mem_singleton] at hy
      rw [hy]
      exact L.own
    · show codeAny _ _ (.expr _ (PySem.W.envX (X.env.qual ++ "<lambda>") scope s.heap.objs.size f (.ref c') (cloFrom X.env.cells scope.names []))) _ _
      have kp : ∀ d ob, s.heap.get? d = some ob → h₁.get? d = some ob := fun d ob he => hsb.extBut d ob (Nat.ne_of_lt (Heap.lt_size he)) (Heap.get?_push_of_some _ he)
      have J : Inv X pins σ H { s with heap := h₁, toks := s.toks + [(("one" : Str), Value.int x t)].length } := I.kept kp
      refine PySem.W.kla_codeExpr ?_
      obtain ⟨m, _, hl'⟩ := J.loc
      obtain ⟨w, rw', lk⟩ := hl' 0 "self" (.ref a) hN hs (.inr (.inl hv))
      obtain rfl : w = Value.ref a := rw'
      have hcell : ∃ c0, X.env.cells.lookup ("self" : Str) = some c0 ∧ h₁.IsCell c0 (some (.ref a)) := by
        rcases lk with ⟨k, _⟩ | ⟨_, c0, e, z⟩
        · have k : X.env.scope.names.lookup ("self" : Str) = some .local := k
          rw [hv] at k
          cases k
        · exact ⟨c0, e, z⟩
      obtain ⟨c0, hc0, hcell⟩ := hcell
      obtain ⟨mA, O, ro, _, _, _⟩ := ins_get J.hok ha
      obtain ⟨uv, huv, ruv⟩ := RelO.some_of (v := .ref u) (o := mA "uses") (by rw [← hl]; exact ro "uses")
      obtain rfl : uv = Value.ref u := ruv
      obtain ⟨_, _, ws, rel, dd⟩ := dk_rd J.hok (Rd.of hu)
      obtain ⟨w', hw, rw''⟩ := RelO.some_of (v := .int n) (o := valueAt ws (.inl x)) (by rw [← hx]; exact rel.val (.inl x))
      obtain ⟨tw, rfl⟩ := (show ∃ t, w' = Value.int n t from rw'')
      refine subD_of PySem.F.slot_dict_getitem.lookup (fun _ _ => rfl) (attr_of (by rfl) ?_)
      refine wpAny_Name (wpAny_loadName_free L.kind L.cap (clo_self L hc0) hcell ?_ (by decide)) (by decide)
      refine get_map J.kIn O (c.get "uses") c.hd na huv (handed_of (v := .ref u) rfl) ?_
      refine wpAny_Name (wpAny_loadName_local L.kind L.own hns (v := .int x t) ?_ ?_) (by decide)
      · rfl
      · refine ⟨dd.typeIs, ?_⟩
        refine wpAny_getItem_of (kV_is (k := .inl x) (u := .int x t) ⟨t, rfl⟩) dd.mapOf hw ?_
        exact ⟨_, rfl, h₁, _, rfl, kp, .int n tw⟩
  refine wpAny_call (codeAny_mono rc fun res s2 got => ?_)
  obtain ⟨w, rfl, got⟩ := got
  exact got
theorem each_vals : ∀ {xs : List Int} {its : List Value}, Vals (xs.map V.int) its → PySem.W.EachIs (fun (v : Value) (x : Int) => ∃ t, v = .int x t) its xs
  | [], its, h => by
    cases h
    exact .nil
  | x :: r, its, h => by
    cases h with
    | cons h1 h2 => exact .cons h1 (each_vals h2)
theorem vals_each : ∀ {xs : List Int} {its : List Value}, PySem.W.EachIs (fun (v : Value) (x : Int) => ∃ t, v = .int x t) its xs → Vals (xs.map V.int) its
  | _, _, .nil => .nil
  | _, _, .cons h1 h2 => .cons h1 (vals_each h2)
theorem pe_sortLam {T : List (Addr × Str)} {te : TE} {c P : Addr} {e : Expr} {params : Arguments} {scope : Scope} {p pos lpos kpos p1 p2 p3 p4 : Pos} (hg : Gl X "sorted") (hm : X.mg "sorted" = none) (he : PE X e te)
    (TB : TabB X.base X.mg c P) (hcode : X.env.code = .ref c) (hmT : (P, X.env.qual ++ "<lambda>") ∈ T) (hut : ∀ p ∈ T, p.1 = P → p.2 = X.env.qual ++ "<lambda>") (hr : Room 3 X.A) (L : LamN scope) (hdef : defaultsOf params X.env = ([], []))
    (hbind : ∀ (cl : List (Str × Addr)) (c' : Addr) (pm ctv v : Value), bindArgs (PySem.W.kla_fn "<lambda>" (X.env.qual ++ "<lambda>") params (.Subscript (.Attribute (.Name "self" p1) "uses" p2) (.Name "one" p3) p4) scope cl pm (.ref c') ctv) ⟨[v], []⟩ = pure [(("one" : Str), v)])
    (hN : X.N[0]? = some ("self" : Str)) (hv : X.env.scope.names.lookup ("self" : Str) = some .cell)
    (h1 : backTo pos (starEach [e] X.env) = (false, eval e X.env) :: backTo pos (starEach [] X.env) := by rfl) (h2 : (backTo pos (starEach [e] X.env)).any (·.1) = false := by rfl) :
    PE X (.Call (.Name "sorted" p) [e] [⟨some "key", .Lambda params (.Subscript (.Attribute (.Name "self" p1) "uses" p2) (.Name "one" p3) p4) scope lpos, kpos⟩] pos) (tSortLam X.K T te) := by
  refine ⟨fun pins s σ H Q I how => ?_⟩
  refine wpAny_Call_Name_kw (ld_blt I hg hm (u := .builtin "sorted") (by decide +kernel) ?_)
  refine PyProof.Rows.callWith_kw ?_ h1 h2
  rw [h1]
  refine Calls.spliced_cons (thn (he.run pins s σ H _ I how) fun w0 s1 ⟨x, H1, I1, r1, q1⟩ => ?_)
  obtain ⟨hT, l, a, C, dx, u, fs, kvs, xs, cn, rfl, hS, hs, ha, hc, na, hl, hu, hx, k⟩ := q1
  obtain rfl : w0 = Value.ref l := r1
  refine Calls.spliced_nil ?_
  have hcell : ∃ c0, X.env.cells.lookup ("self" : Str) = some c0 := by
    obtain ⟨m, _, hl'⟩ := I1.loc
    obtain ⟨w, _, lk⟩ := hl' 0 "self" (.ref a) hN hs (.inr (.inl hv))
    rcases lk with ⟨k, _⟩ | ⟨_, c0, e, z⟩
    · have k : X.env.scope.names.lookup ("self" : Str) = some .local := k
      rw [hv] at k
      cases k
    · exact ⟨c0, e⟩
  show wpAny _ _ (evalAll ((do let v ← eval (.Lambda params _ scope lpos) X.env; standAt pos; pure v) :: [])) _ _ s1
  refine wpAny_evalAll_cons (wpAny_bind (lam_make2 I1 TB hcode hmT hut hT hdef (fun y hy e => by rw [L.only y hy e]; exact hcell) fun f c' pm ctv H2 s2 I2 eN T2 hf hfn hfr hco => wpAny_bind (wpAny_standAt (wpAny_pure (wpAny_evalAll_nil ?_)))))
  have hS2 := extN_seq eN hS
  have ha2 : H2 a = some (.ins C dx fs) := eN a _ ha (fun _ z => by cases z)
  have hu2 : H2 u = some (.dK kvs) := eN u _ hu (fun _ z => by cases z)
  obtain ⟨its, rv, pl, hz⟩ := I2.list hS2
  have hlen : xs.length ≤ sizeLine := by
    rw [List.length_map] at hz
    exact hz
  have ei := each_vals rv
  show wpAny _ _ (call (.builtin "sorted") [.ref l] [(Str.ofString "key", .ref f)]) _ _ s2
  have hun := hr.un
  refine PySem.W.sorted_key_data (b := false) (vs := its) (R := fun (v : Value) (x : Int) => ∃ t, v = .int x t) (fun x : Int => .int (cn x)) pl.isList ei (PySem.W.AllAlike.of fun _ _ => rfl) (.inr fun d hd => ?_) hlen (fun x hx => ?_)
    (PyProof.Rows.ksk_s1 _ _) (fun _ => PyProof.Rows.ksk_l1 _ _) (fun _ => PyProof.Rows.ksk_t1 _ _) (fun v x hR hxm h' tk kp => ?_) fun out cc h' tk kp hn hD hol eo => ?_
  · obtain ⟨x, _, rfl⟩ := List.mem_map.mp hd
    exact ⟨(by intro z; cases z), fun xs z => by cases z⟩
  · show X.A.units + 2 + 0 < cLine
    omega
  · obtain ⟨t, rfl⟩ := hR
    exact lam_turn (I2.kept kp) hr.in1.in1.depth L (kp _ _ hf) hco (fun v => hbind _ _ _ _ v) hN hv hs ha2 hc na hl hu2 (hx x hxm)
  · rw [PySem.W.dataLe_int] at eo
    have nP : H2 (s2.heap.objs.size + 1) = none := I2.hok.fresh (Nat.le_succ _)
    have hml : ((xs.mergeSort fun x y => decide (cn x ≤ cn y)).map V.int).length ≤ sizeLine := by
      rw [List.length_map, List.length_mergeSort]
      exact hlen
    exact ⟨.ref (s2.heap.objs.size + 1), upd H2 (s2.heap.objs.size + 1) (.lst ((xs.mergeSort fun x y => decide (cn x ≤ cn y)).map V.int)), I2.laid (t' := tk) kp (Nat.le_succ _) ⟨hml, out, cc, vals_each eo, hD⟩, rfl, k H2 _ eN T2 nP⟩
end
end Sl
/-! ### The end of a row whose program makes a lambda: one table of code objects -/
namespace Sl
open PySem PySem.Spec PyProof.Rows L2 LamX
open PySem.W (OpenSpec Codec WData WellAll Well ReadsW)
/-- the arguments' objects, and the table at P -/
def withTab (P : Addr) (H : Hp) : Hp := fun b => if b = P then some (.tbl #[]) else H b
section
variable {pg : Program} {w : World} {K : PySem.W.Frag} {mg mb : Str → Option Value} {CX : CXT} {k : Nat} {fa c P : Addr} {fd : FuncData} {par : Str} {sp : Sp} {s₁ : Shared} {vals : List Value} {l : List Int} {R : PySem.W.WRecords} {cl : Str → Option Addr} {d0 : WData}
theorem spec_callT (KX : K.In s₁.heap) (hns : s₁.heap.Ns mainGlobals mg) (hb : s₁.heap.Ns builtinsNs mb) (hbb : ∀ x : Str, x ≠ "__name__" → mb x = bootBuiltins x) (hlim : s₁.heap.NoLimit) (hg : s₁.gens = #[])
    (hT : s₁.heap.get? P = some { cls := .none, data := .fields #[] }) (nT : K.lookup P = none) (hC : PySem.W.CodeHd s₁.heap c P)
    (hbm : ∃ (md : Addr) (mo : Obj), mg "__builtins__" = some (.ref md) ∧ md ≠ builtinsNs ∧ s₁.heap.get? md = some mo ∧ mo.cls = .type "module" ∧ mo.dict = some builtinsNs ∧ mo.data = .plain)
    (hwl : WellAll w.params s₁.heap vals [.list (l.map WData.int)]) (hwt : (WData.list (l.map WData.int)).weight ≤ 1048576) (hr : Room k callerA)
    (F : ∀ base : Heap, K.In base → base.Ns mainGlobals mg → TabB base mg c P → FnOk pg w K mg base CX k fa fd [par] sp) (hbind : ∀ (s : Shared) (u : Value), BindsTo s fd ⟨[u], []⟩ [(par, u)])
    (hsp : ∀ (H : Hp) (a : Addr), H P = some (.tbl #[]) → SqL K H a (l.map V.int) → sp [.ref a] H (fun v H' => Dw K H' v d0) fun _ _ _ => False)
    (hCX : ∀ Hx ex sx, CX [] Hx s₁ (fun _ _ _ => False) ex sx → False) :
    codeAny (model pg w) callerA (.call (.ref fa) ⟨vals, []⟩) (fun r s' => ∃ u as, r = .ok (.ret u) ∧ ReadsW R cl s'.heap u d0 as ∧ OldK s₁.heap s'.heap ∧ s'.os = s₁.os ∧ AllBare s'.gens) s₁ := by
  have hpl : plWs [WData.list (l.map WData.int)] = true := by
    show (plWs (l.map WData.int) && true) = true
    rw [plWs_map (fun _ => rfl)]
    rfl
  obtain ⟨A, ho, ar⟩ := area_all _ vals hwl hpl fun d hd => by
    rw [List.mem_singleton.mp hd]
    exact hwt
  have hS := dw_all KX ar _ vals hwl hpl ho
  obtain ⟨v0, rest, hv0, hw0, hw1⟩ := well_cons hwl
  cases hw1
  subst hv0
  obtain ⟨a, vs, hva, hoa, hall⟩ := well_list hw0
  subst hva
  have hSa : SqL K (argH K s₁.heap A) a (l.map V.int) := by
    change DwAll K (argH K s₁.heap A) [.ref a] _ at hS
    cases hS with
    | cons q _ =>
      cases q with
      | lst q1 q2 =>
        rw [ints_dw l _ q2] at q1
        exact q1
  have hargs := fun (b : Addr) (u : HO) (q : argH K s₁.heap A b = some u) => argH_is ar q
  have aP : ∀ b u, argH K s₁.heap A b = some u → b ≠ P := fun b u q z => by
    obtain ⟨_, ws, _, _, ⟨e, _⟩ | ⟨e, _⟩⟩ := hargs b u q
    all_goals
      rw [z, hT] at e
      have e' : Data.fields #[] = Data.seq ws.toArray := congrArg Obj.data (Option.some.inj e)
      cases e'
  have hok0 : HOk pg w (withTab P (argH K s₁.heap A)) s₁.heap := fun b u q => by
    by_cases hbP : b = P
    · have q := (if_pos hbP).symm.trans q
      cases q
      rw [hbP]
      exact hT
    · have q := (if_neg hbP).symm.trans q
      obtain ⟨_, ws, h1, h2, ⟨e, rfl⟩ | ⟨e, rfl⟩⟩ := hargs b u q
      · exact ⟨e, by rw [List.length_map]; exact h1, ws, _, vals_toV h2, e⟩
      · exact ⟨e, by rw [List.length_map]; exact h1, ws, vals_toV h2, _, e, rfl, _, rfl⟩
  have hS1 : SqL K (withTab P (argH K s₁.heap A)) a (l.map V.int) := by
    have up : ∀ b u, argH K s₁.heap A b = some u → withTab P (argH K s₁.heap A) b = some u := fun b u q => (if_neg (aP b u q)).trans q
    rcases hSa with (q | ⟨o, q⟩) | q
    · exact .inl (.inl (up _ _ q))
    · exact .inl (.inr ⟨o, up _ _ q⟩)
    · exact .inr q
  have hP1 : withTab P (argH K s₁.heap A) P = some (.tbl #[]) := if_pos rfl
  have hsome : ∀ b u, withTab P (argH K s₁.heap A) b = some u → b = P ∨ (K.lookup b = none ∧ (∃ o x, u = .frz o x) ∧ ∃ (cv : Value) (ws : List Value), s₁.heap.get? b = some { cls := cv, data := .seq ws.toArray }) := fun b u q => by
    by_cases hbP : b = P
    · exact .inl hbP
    · have q := (if_neg hbP).symm.trans q
      obtain ⟨h0, ws, _, _, ⟨e, e2⟩ | ⟨e, e2⟩⟩ := hargs b u q
      · exact .inr ⟨h0, ⟨_, _, e2⟩, _, ws, e⟩
      · exact .inr ⟨h0, ⟨_, _, e2⟩, _, ws, e⟩
  generalize withTab P (argH K s₁.heap A) = H at hok0 hS1 hP1 hsome
  have plain : ∀ {b : Addr} {o : Obj}, s₁.heap.get? b = some o → (∀ vs n, o.data ≠ .seq vs n) → o.data ≠ .fields #[] → H b = none := fun {b o} e h1 h2 => by
    cases q : H b with
    | none => rfl
    | some u =>
      rcases hsome b u q with z | ⟨_, _, cv, ws, z⟩
      · rw [z, hT] at e
        cases e
        exact absurd rfl h2
      · rw [z] at e
        cases e
        exact absurd rfl (h1 _ _)
  have dicts : ∀ {b : Addr} {o : Obj} {es : Array DictEntry} {ep : Nat}, s₁.heap.get? b = some o → o.data = .dict es ep → H b = none := fun {b o es ep} e d =>
    plain e (fun vs n z => by rw [d] at z; cases z) fun z => by rw [d] at z; cases z
  have nsK : ∀ {b : Addr} {m : Str → Option Value}, s₁.heap.Ns b m → (hidT s₁.heap H).Ns b m := fun {b m} ⟨o, es, ep, e, d, r⟩ => ⟨o, es, ep, hidT_get e (dicts e d), d, r⟩
  have noK : ∀ b o, K.lookup b = some o → H b = none := fun b o e => by
    cases q : H b with
    | none => rfl
    | some u =>
      rcases hsome b u q with z | ⟨z, _⟩
      · rw [z, nT] at e
        cases e
      · rw [z] at e
        cases e
  have hKb : K.In (hidT s₁.heap H) := fun b o e => hidT_get (KX b o e) (noK b o e)
  obtain ⟨mc, lim1, lim2⟩ := hlim
  have hM : Mod K mg (hidT s₁.heap H) := ⟨hKb, nsK hns, ⟨mb, nsK hb, hbb⟩, ⟨mc, nsK lim1, lim2⟩⟩
  have TB : TabB (hidT s₁.heap H) mg c P := by
    refine ⟨?_, ?_, fun z => ?_⟩
    · obtain ⟨o, us, file, tf, fl, tg, inF, text, tt, e1, r1, r2, r3, rest⟩ := hC
      refine ⟨o, us, file, tf, fl, tg, inF, text, tt, hidT_get e1 (plain e1 (fun vs n z => ?_) fun z => ?_), r1, r2, r3, rest⟩
      · rw [r2] at z
        cases z
      · rw [r2] at z
        cases z
        simp at r3
    · obtain ⟨md, mo, b1, b2, b3, b4, b5, b6⟩ := hbm
      refine ⟨md, mo, b1, b2, fun q => ?_, fun q => ?_, hidT_get b3 (plain b3 (fun vs n z => ?_) fun z => ?_), b4, b5, b6⟩
      · obtain ⟨go, ge, gp, eg, dg, _⟩ := hns
        rw [q, eg] at b3
        cases b3
        rw [dg] at b6
        cases b6
      · rw [q, hT] at b3
        cases b3
        cases b6
      · rw [b6] at z
        cases z
      · rw [b6] at z
        cases z
    · obtain ⟨go, ge, gp, eg, dg, _⟩ := hns
      rw [z, hT] at eg
      cases eg
      cases dg
  have e0 : Env0 pg w K mg (hidT s₁.heap H) callerA [] s₁ H := ⟨rfl, hM, fun b o e => of_hidT e, Nat.le_of_eq (hidT_size _ _), trivial, fun b hb => absurd (show b ∈ ([] : List Addr) from hb) (by simp), hok0, .of_eq hg⟩
  refine codeAny_mono ((F _ hKb (nsK hns) TB).run callerA [] s₁ H ⟨[.ref a], []⟩ [.ref a] [.ref a] _ _ hr e0 (hbind s₁ (.ref a)) (.cons rfl .nil) (hsp H a hP1 hS1)) fun res s' y => ?_
  match res, y with
  | .error e, y => exact (hCX H e s' y).elim
  | .ok .next, y => exact False.elim y
  | .ok .brk, y => exact False.elim y
  | .ok .cont, y => exact False.elim y
  | .ok (.ret u), y =>
    obtain ⟨v, H', os, bare, un, hok', r', q⟩ := y
    have stay : ∀ b o, b ≠ P → s₁.heap.get? b = some o → s'.heap.get? b = some o := fun b o nb e => by
      cases q2 : H b with
      | none => exact un.keep b o e q2 (fun z => nomatch (show b ∈ ([] : List Addr) from z)) (by simp)
      | some u2 =>
        rcases hsome b u2 q2 with z | ⟨_, ⟨ob, x, z⟩, _⟩
        · exact absurd z nb
        · rw [z] at q2
          have z2 := un.frzs b ob x q2
          have e1 := (hok0 b _ q2).1
          have e2 := (hok' b _ z2).1
          rw [e] at e1
          cases e1
          exact e2
    obtain ⟨more, hm⟩ := un.tbls P #[] hP1
    have hP' : s'.heap.get? P = some { cls := .none, data := .fields (#[] ++ more) } := hok' P _ hm
    have KX' : K.In s'.heap := fun b o e => stay b o (fun z => by rw [z, nT] at e; cases e) (KX b o e)
    obtain ⟨cells, hread⟩ := Dw.reads (R := R) (cl := cl) hok' KX' d0 v u q r'
    refine ⟨u, cells, rfl, hread, ⟨fun b o e => ?_, fun b o e => ?_⟩, os, bare⟩
    · by_cases hbP : b = P
      · subst hbP
        rw [hT] at e
        cases e
        exact .inr (.inl ⟨(hC.tab hT).isCodeTable, rfl, #[], more, rfl, hP'⟩)
      · exact .inl (stay b o hbP e)
    · by_cases hbP : b = P
      · subst hbP
        exact ⟨_, hP'⟩
      · exact ⟨o, stay b o hbP e⟩
end
theorem walk_specT {r : OpenSpec} {k : Nat} {q : Program} {loose : List Str} {XP : (Str → Option Value) → Heap → Prop} {YP : World → Heap → Prop} {d : DefRec} {K : Params → PySem.W.Frag} {CX : CXT} {par : Str} {sp : PySem.W.Frag → Sp} {c P : Addr} {toL : Codec.denoteAll r.args → List Int}
    (hwell : r.wellSaid = true) (henc : ∀ a, Codec.encAll r.args a = [.list ((toL a).map WData.int)]) (hr : Room k callerA)
    (hY : ∀ (w : World) (h : Heap), YP w h → (K w.params).In h) (hYT : ∀ (w : World) (h : Heap), YP w h → h.get? P = some { cls := .none, data := .fields #[] }) (hTK : ∀ w : World, (K w.params).lookup P = none) (hCd : ∀ w : World, PySem.W.codeHdIn (K w.params) c P = true)
    (F : ∀ (w : World) (mg : Str → Option Value) (fa : Addr) (hp : Heap), YP w hp → (K w.params).In hp → hp.Ns mainGlobals mg → mg d.name = some (.ref fa) →
      ∃ fd : FuncData, (∀ (s : Shared) (u : Value), BindsTo s fd ⟨[u], []⟩ [(par, u)]) ∧
        ∀ base : Heap, (K w.params).In base → base.Ns mainGlobals mg → TabB base mg c P → FnOk r.prog w (K w.params) mg base CX k fa fd [par] (sp (K w.params)))
    (hsp : ∀ (K : PySem.W.Frag) (H : Hp) (a : Addr) (x : Codec.denoteAll r.args), H P = some (.tbl #[]) → Codec.withinAll r.args x = true → Codec.app r.args r.asked x = true → SqL K H a ((toL x).map V.int) →
      sp K [.ref a] H (fun v H' => Dw K H' v (r.ret.enc (Codec.app r.args r.f x))) fun _ _ _ => False)
    (hCX : ∀ (Hx : Hp) (sx : Shared) (ex : Value) (sy : Shared), CX [] Hx sx (fun _ _ _ => False) ex sy → False) : PySem.W.WalkOS q loose XP YP r d [] fun f vs => PySem.call f vs := by
  intro w s₀ s₁ mg mb G Y fa _ _ _ _ _ _ _ _ _ _ hmg hg args vals _ hpre hlay _ hwl _
  obtain ⟨x, e1, e2⟩ := PySem.W.os_pre_some hpre
  obtain ⟨e3, hwi⟩ := Codec.encAll_of_decAll r.args args x e1
  subst e3
  have KX := hY w _ Y
  obtain ⟨fdat, hb, hF⟩ := F w mg fa _ Y KX G.T.g hmg
  have hwl2 := hwl
  rw [henc x] at hwl2
  have hwt := layable_weight hlay
  rw [henc x] at hwt
  refine PySem.W.enter_call (codeAny_mono (spec_callT (R := []) (cl := classAt s₀.heap) (d0 := r.ret.enc (Codec.app r.args r.f x)) KX G.T.g G.T.b G.T.builtins G.T.nolimit hg (hYT w _ Y) (hTK w) (PySem.W.codeHd_of_K KX (hCd w)) G.T.bmain
    hwl2 (hwt _ List.mem_cons_self) hr hF hb (fun H a hP hS => hsp _ H a x hP hwi e2 hS) fun H e s' => hCX H s₁ e s') fun res s' y => ?_)
  obtain ⟨u, cells, rfl, h1, hrest⟩ := y
  exact ⟨.inl ⟨u, _, cells, rfl, fun _ => rfl, h1, (OpenSpec.post_iff hwell hwi _ _).2 rfl, fun z => nomatch (show false = true from z)⟩, hrest⟩
end Sl
namespace Cr
open PySem PySem.Spec PyProof.Rows L2 LamX Sl
/-! ### The text by places -/
def top (i : Nat) : Stmt := PySem.Challenge.pw_cacherules_s03_answers.main.body.getD i (.Pass ⟨0, 0, 0, 0⟩)
abbrev sInit : Stmt := inClass (top 9) 0
abbrev sBeg : Stmt := inClass (top 9) 1
abbrev sUse : Stmt := inClass (top 9) 2
abbrev sDrop : Stmt := inClass (top 9) 3
abbrev sHolds : Stmt := inClass (top 9) 4
abbrev sOrd : Stmt := inClass (top 9) 5
abbrev sAgain : Stmt := inClass (top 9) 6
abbrev sBack : Stmt := inClass (top 9) 7
abbrev sLeave : Stmt := inClass (top 9) 8
abbrev sSpare : Stmt := inClass (top 9) 9
abbrev sBy : Stmt := inClass (top 9) 10
abbrev sOut : Stmt := inClass (top 9) 11
abbrev sForget : Stmt := inClass (top 9) 12
abbrev sLen : Stmt := top 10
abbrev sAns : Stmt := top 11
abbrev sAll : Stmt := top 12
/-! ### The heap -/
structure Ad where
  l : Addr
  s : Addr
  u : Addr
  k : Addr
def lF (A : Ad) (r n : Int) : List (Str × V) := [("rule", .int r), ("room", .int n), ("line", .ref A.l), ("safe", .ref A.s), ("uses", .ref A.u), ("marked", .ref A.k)]
theorem lk_here {k : Str} {v : V} {r : List (Str × V)} : List.lookup k ((k, v) :: r) = some v := by
  have e : (k == k) = true := beq_self_eq_true k
  simp only [List.lookup, e]
theorem lk_past {k g : Str} {v : V} {r : List (Str × V)} (h : (k == g) = false) : List.lookup k ((g, v) :: r) = List.lookup k r := by
  simp only [List.lookup, h]
theorem put_past {f g : Str} {v x : V} {r : List (Str × V)} (h : ¬ g = f) : putF f v ((g, x) :: r) = (g, x) :: putF f v r := if_neg h
theorem put_here {f : Str} {v x : V} {r : List (Str × V)} : putF f v ((f, x) :: r) = (f, v) :: r := if_pos rfl
section
variable {A : Ad} {r n : Int}
theorem lF_rule : (lF A r n).lookup ("rule" : Str) = some (.int r) := lk_here
theorem lF_room : (lF A r n).lookup ("room" : Str) = some (.int n) := (lk_past (by decide +kernel)).trans lk_here
theorem lF_line : (lF A r n).lookup ("line" : Str) = some (.ref A.l) := (lk_past (by decide +kernel)).trans ((lk_past (by decide +kernel)).trans lk_here)
theorem lF_safe : (lF A r n).lookup ("safe" : Str) = some (.ref A.s) := (lk_past (by decide +kernel)).trans ((lk_past (by decide +kernel)).trans ((lk_past (by decide +kernel)).trans lk_here))
theorem lF_uses : (lF A r n).lookup ("uses" : Str) = some (.ref A.u) := (lk_past (by decide +kernel)).trans ((lk_past (by decide +kernel)).trans ((lk_past (by decide +kernel)).trans ((lk_past (by decide +kernel)).trans lk_here)))
theorem lF_marked : (lF A r n).lookup ("marked" : Str) = some (.ref A.k) := (lk_past (by decide +kernel)).trans ((lk_past (by decide +kernel)).trans ((lk_past (by decide +kernel)).trans ((lk_past (by decide +kernel)).trans ((lk_past (by decide +kernel)).trans lk_here))))
theorem lF_no {g : Str} (h : (g == "rule" || g == "room" || g == "line" || g == "safe" || g == "uses" || g == "marked") = false) : (lF A r n).lookup g = none := by
  simp only [Bool.or_eq_false_iff] at h
  obtain ⟨⟨⟨⟨⟨h1, h2⟩, h3⟩, h4⟩, h5⟩, h6⟩ := h
  exact (lk_past h1).trans ((lk_past h2).trans ((lk_past h3).trans ((lk_past h4).trans ((lk_past h5).trans ((lk_past h6).trans rfl)))))
theorem lF_begin : (lF A r n).lookup ("begin" : Str) = none := lF_no (by decide +kernel)
theorem lF_use : (lF A r n).lookup ("use" : Str) = none := lF_no (by decide +kernel)
theorem lF_drop : (lF A r n).lookup ("drop" : Str) = none := lF_no (by decide +kernel)
theorem lF_holds : (lF A r n).lookup ("holds" : Str) = none := lF_no (by decide +kernel)
theorem lF_order : (lF A r n).lookup ("order" : Str) = none := lF_no (by decide +kernel)
theorem lF_again : (lF A r n).lookup ("use_again" : Str) = none := lF_no (by decide +kernel)
theorem lF_back : (lF A r n).lookup ("give_back" : Str) = none := lF_no (by decide +kernel)
theorem lF_leave : (lF A r n).lookup ("leave" : Str) = none := lF_no (by decide +kernel)
theorem lF_spare : (lF A r n).lookup ("spare_marked" : Str) = none := lF_no (by decide +kernel)
theorem lF_by : (lF A r n).lookup ("by_uses" : Str) = none := lF_no (by decide +kernel)
theorem lF_out : (lF A r n).lookup ("take_out" : Str) = none := lF_no (by decide +kernel)
theorem lF_forget : (lF A r n).lookup ("forget" : Str) = none := lF_no (by decide +kernel)
theorem lF_new : putF "marked" (.ref A.k) (putF "uses" (.ref A.u) (putF "safe" (.ref A.s) (putF "line" (.ref A.l) (putF "room" (.int n) (putF "rule" (.int r) []))))) = lF A r n := by
  have e1 : putF "rule" (.int r) [] = [(("rule" : Str), V.int r)] := rfl
  have e2 : putF "room" (.int n) [(("rule" : Str), V.int r)] = [(("rule" : Str), V.int r), ("room", .int n)] := (put_past (by decide +kernel)).trans rfl
  have e3 : putF "line" (.ref A.l) [(("rule" : Str), V.int r), ("room", .int n)] = [(("rule" : Str), V.int r), ("room", .int n), ("line", .ref A.l)] := (put_past (by decide +kernel)).trans (congrArg _ ((put_past (by decide +kernel)).trans rfl))
  have e4 : putF "safe" (.ref A.s) [(("rule" : Str), V.int r), ("room", .int n), ("line", .ref A.l)] = [(("rule" : Str), V.int r), ("room", .int n), ("line", .ref A.l), ("safe", .ref A.s)] :=
    (put_past (by decide +kernel)).trans (congrArg _ ((put_past (by decide +kernel)).trans (congrArg _ ((put_past (by decide +kernel)).trans rfl))))
  have e5 : putF "uses" (.ref A.u) [(("rule" : Str), V.int r), ("room", .int n), ("line", .ref A.l), ("safe", .ref A.s)] = [(("rule" : Str), V.int r), ("room", .int n), ("line", .ref A.l), ("safe", .ref A.s), ("uses", .ref A.u)] :=
    (put_past (by decide +kernel)).trans (congrArg _ ((put_past (by decide +kernel)).trans (congrArg _ ((put_past (by decide +kernel)).trans (congrArg _ ((put_past (by decide +kernel)).trans rfl))))))
  rw [e1, e2, e3, e4, e5]
  exact (put_past (by decide +kernel)).trans (congrArg _ ((put_past (by decide +kernel)).trans (congrArg _ ((put_past (by decide +kernel)).trans (congrArg _ ((put_past (by decide +kernel)).trans (congrArg _ ((put_past (by decide +kernel)).trans rfl))))))))
theorem pF_rule {r' : Int} : putF "rule" (.int r') (lF A r n) = lF A r' n := put_here
theorem pF_room {n' : Int} : putF "room" (.int n') (lF A r n) = lF A r n' := (put_past (by decide +kernel)).trans (congrArg _ put_here)
theorem pF_line {x : Addr} : putF "line" (.ref x) (lF A r n) = lF { A with l := x } r n := (put_past (by decide +kernel)).trans (congrArg _ ((put_past (by decide +kernel)).trans (congrArg _ put_here)))
theorem pF_safe {x : Addr} : putF "safe" (.ref x) (lF A r n) = lF { A with s := x } r n := (put_past (by decide +kernel)).trans (congrArg _ ((put_past (by decide +kernel)).trans (congrArg _ ((put_past (by decide +kernel)).trans (congrArg _ put_here)))))
theorem pF_uses {x : Addr} : putF "uses" (.ref x) (lF A r n) = lF { A with u := x } r n :=
  (put_past (by decide +kernel)).trans (congrArg _ ((put_past (by decide +kernel)).trans (congrArg _ ((put_past (by decide +kernel)).trans (congrArg _ ((put_past (by decide +kernel)).trans (congrArg _ put_here)))))))
theorem pF_marked {x : Addr} : putF "marked" (.ref x) (lF A r n) = lF { A with k := x } r n :=
  (put_past (by decide +kernel)).trans (congrArg _ ((put_past (by decide +kernel)).trans (congrArg _ ((put_past (by decide +kernel)).trans (congrArg _ ((put_past (by decide +kernel)).trans (congrArg _ ((put_past (by decide +kernel)).trans (congrArg _ put_here)))))))))
end
/-- the table in which the lambda's code object is kept -/
def tabOf (P : Addr) : List (Addr × Str) := [(P, ("Cache.by_uses" : Str) ++ ".<locals>." ++ "<lambda>")]
/-- neither a table nor a code object -/
def Plain (o : HO) : Prop := (∀ ps, o ≠ .tbl ps) ∧ ∀ c q, o ≠ CodeO c q
theorem plain_lst {xs : List V} : Plain (.lst xs) := ⟨fun _ z => (by cases z), fun _ _ z => (by unfold CodeO at z; cases z)⟩
theorem plain_dK {kv : KVs} : Plain (.dK kv) := ⟨fun _ z => (by cases z), fun _ _ z => (by unfold CodeO at z; cases z)⟩
theorem plain_ins {C dx : Addr} {fs : List (Str × V)} : Plain (.ins C dx fs) := ⟨fun _ z => (by cases z), fun _ _ z => (by unfold CodeO at z; cases z)⟩
theorem tabs_upd {T : List (Addr × Str)} {H : Hp} {b : Addr} {o : HO} (t : Tabs T H) (hb : ∀ u, H b = some u → Plain u) : Tabs T (upd H b o) := fun p hp => by
  obtain ⟨ps, h1, h2, h3⟩ := t p hp
  refine ⟨ps, ?_, h2, fun pos cv hc => ?_⟩
  · have ne : p.1 ≠ b := fun z => by
      rw [z] at h1
      exact (hb _ h1).1 ps rfl
    rw [upd_ne ne]
    exact h1
  · obtain ⟨c, e1, e2⟩ := h3 pos cv hc
    refine ⟨c, e1, ?_⟩
    have ne : c ≠ b := fun z => by
      rw [← z] at hb
      exact (hb _ e2).2 c _ rfl
    rw [upd_ne ne]
    exact e2
theorem tabs_new {T : List (Addr × Str)} {H : Hp} {b : Addr} {o : HO} (t : Tabs T H) (hb : H b = none) : Tabs T (upd H b o) := tabs_upd t fun u e => by
  rw [hb] at e
  cases e
structure LnAt (C P : Addr) (H : Hp) (a : Addr) (A : Ad) (m : M) : Prop where
  ob : ∃ dx, H a = some (.ins C dx (lF A m.rule m.room))
  ln : H A.l = some (.lst (m.line.map V.int))
  sf : H A.s = some (.lst (m.safe.map V.int))
  us : H A.u = some (.dK m.uses)
  mkd : H A.k = some (.dK m.marked)
  ls : A.l ≠ A.s
  uk : A.u ≠ A.k
  tab : Tabs (tabOf P) H
def Keeps (a : Addr) (A : Ad) (H H' : Hp) : Prop := ∀ b o, H b = some o → (∀ ps, o ≠ .tbl ps) → b ≠ a → b ≠ A.l → b ≠ A.s → b ≠ A.u → b ≠ A.k → H' b = some o
theorem Keeps.refl {a : Addr} {A : Ad} {H : Hp} : Keeps a A H H := fun _ _ h _ _ _ _ _ _ => h
theorem Keeps.trans {a : Addr} {A : Ad} {H H1 H2 : Hp} (x : Keeps a A H H1) (y : Keeps a A H1 H2) : Keeps a A H H2 := fun b o h n h0 h1 h2 h3 h4 => y b o (x b o h n h0 h1 h2 h3 h4) n h0 h1 h2 h3 h4
section
variable {C P a : Addr} {A : Ad} {H : Hp} {m : M}
theorem LnAt.alu (L : LnAt C P H a A m) : A.l ≠ A.u := ne_of L.ln L.us (by intro z; cases z)
theorem LnAt.alk (L : LnAt C P H a A m) : A.l ≠ A.k := ne_of L.ln L.mkd (by intro z; cases z)
theorem LnAt.asu (L : LnAt C P H a A m) : A.s ≠ A.u := ne_of L.sf L.us (by intro z; cases z)
theorem LnAt.ask (L : LnAt C P H a A m) : A.s ≠ A.k := ne_of L.sf L.mkd (by intro z; cases z)
theorem LnAt.aal (L : LnAt C P H a A m) : a ≠ A.l := let ⟨_, h⟩ := L.ob; ne_of h L.ln (by intro z; cases z)
theorem LnAt.aas (L : LnAt C P H a A m) : a ≠ A.s := let ⟨_, h⟩ := L.ob; ne_of h L.sf (by intro z; cases z)
theorem LnAt.aau (L : LnAt C P H a A m) : a ≠ A.u := let ⟨_, h⟩ := L.ob; ne_of h L.us (by intro z; cases z)
theorem LnAt.aak (L : LnAt C P H a A m) : a ≠ A.k := let ⟨_, h⟩ := L.ob; ne_of h L.mkd (by intro z; cases z)
theorem pl_at {o u : HO} {b : Addr} (h : H b = some o) (p : Plain o) (e : H b = some u) : Plain u := by
  rw [h] at e
  cases e
  exact p
theorem LnAt.setLine {xs : List V} {l : List Int} (L : LnAt C P H a A m) (e : xs = l.map V.int) : LnAt C P (upd H A.l (.lst xs)) a A { m with line := l } := by
  subst e
  exact ⟨let ⟨dx, h⟩ := L.ob; ⟨dx, by rw [upd_ne L.aal]; exact h⟩, upd_same, by rw [upd_ne L.ls.symm]; exact L.sf, by rw [upd_ne L.alu.symm]; exact L.us, by rw [upd_ne L.alk.symm]; exact L.mkd, L.ls, L.uk, tabs_upd L.tab fun _ => pl_at L.ln plain_lst⟩
theorem LnAt.setSafe {xs : List V} {l : List Int} (L : LnAt C P H a A m) (e : xs = l.map V.int) : LnAt C P (upd H A.s (.lst xs)) a A { m with safe := l } := by
  subst e
  exact ⟨let ⟨dx, h⟩ := L.ob; ⟨dx, by rw [upd_ne L.aas]; exact h⟩, by rw [upd_ne L.ls]; exact L.ln, upd_same, by rw [upd_ne L.asu.symm]; exact L.us, by rw [upd_ne L.ask.symm]; exact L.mkd, L.ls, L.uk, tabs_upd L.tab fun _ => pl_at L.sf plain_lst⟩
theorem LnAt.setUses {kv : KVs} (L : LnAt C P H a A m) : LnAt C P (upd H A.u (.dK kv)) a A { m with uses := kv } :=
  ⟨let ⟨dx, h⟩ := L.ob; ⟨dx, by rw [upd_ne L.aau]; exact h⟩, by rw [upd_ne L.alu]; exact L.ln, by rw [upd_ne L.asu]; exact L.sf, upd_same, by rw [upd_ne L.uk.symm]; exact L.mkd, L.ls, L.uk, tabs_upd L.tab fun _ => pl_at L.us plain_dK⟩
theorem LnAt.setMarked {kv : KVs} (L : LnAt C P H a A m) : LnAt C P (upd H A.k (.dK kv)) a A { m with marked := kv } :=
  ⟨let ⟨dx, h⟩ := L.ob; ⟨dx, by rw [upd_ne L.aak]; exact h⟩, by rw [upd_ne L.alk]; exact L.ln, by rw [upd_ne L.ask]; exact L.sf, by rw [upd_ne L.uk]; exact L.us, upd_same, L.ls, L.uk, tabs_upd L.tab fun _ => pl_at L.mkd plain_dK⟩
/-- another object is written, or is new -/
theorem LnAt.off {b : Addr} {o : HO} (L : LnAt C P H a A m) (hb : ∀ u, H b = some u → Plain u) (h0 : a ≠ b) (h1 : A.l ≠ b) (h2 : A.s ≠ b) (h3 : A.u ≠ b) (h4 : A.k ≠ b) : LnAt C P (upd H b o) a A m :=
  ⟨let ⟨dx, h⟩ := L.ob; ⟨dx, by rw [upd_ne h0]; exact h⟩, by rw [upd_ne h1]; exact L.ln, by rw [upd_ne h2]; exact L.sf, by rw [upd_ne h3]; exact L.us, by rw [upd_ne h4]; exact L.mkd, L.ls, L.uk, tabs_upd L.tab hb⟩
theorem LnAt.new {b : Addr} {o : HO} (L : LnAt C P H a A m) (hb : H b = none) : LnAt C P (upd H b o) a A m := by
  obtain ⟨dx, h⟩ := L.ob
  exact L.off (fun u e => by rw [hb] at e; cases e) (ne_of_none h hb) (ne_of_none L.ln hb) (ne_of_none L.sf hb) (ne_of_none L.us hb) (ne_of_none L.mkd hb)
theorem LnAt.ext {H' : Hp} (L : LnAt C P H a A m) (e : ExtN H H') (t : Tabs (tabOf P) H') : LnAt C P H' a A m :=
  ⟨let ⟨dx, h⟩ := L.ob; ⟨dx, e _ _ h plain_ins.1⟩, e _ _ L.ln plain_lst.1, e _ _ L.sf plain_lst.1, e _ _ L.us plain_dK.1, e _ _ L.mkd plain_dK.1, L.ls, L.uk, t⟩
theorem Keeps.l {o : HO} : Keeps a A H (upd H A.l o) := fun b u h _ _ h1 _ _ _ => by rw [upd_ne h1]; exact h
theorem Keeps.s {o : HO} : Keeps a A H (upd H A.s o) := fun b u h _ _ _ h1 _ _ => by rw [upd_ne h1]; exact h
theorem Keeps.u {o : HO} : Keeps a A H (upd H A.u o) := fun b u h _ _ _ _ h1 _ => by rw [upd_ne h1]; exact h
theorem Keeps.k {o : HO} : Keeps a A H (upd H A.k o) := fun b u h _ _ _ _ _ h1 => by rw [upd_ne h1]; exact h
theorem Keeps.new {b : Addr} {o : HO} (hb : H b = none) : Keeps a A H (upd H b o) := fun c u h _ _ _ _ _ _ => by rw [upd_ne (ne_of_none h hb)]; exact h
theorem Keeps.ext {H' : Hp} (e : ExtN H H') : Keeps a A H H' := fun b o h n _ _ _ _ _ => e b o h n
/-- a place that is free behind the steps was none of what stood ahead of them -/
theorem Keeps.newAt {H' : Hp} {p : Addr} (K : Keeps a A H H') (L : LnAt C P H' a A m) (h : NewAt H' p) : NewAt H p := fun b o q n z => by
  obtain ⟨dx, hob⟩ := L.ob
  subst z
  exact h b o (K b o q n (h a _ hob plain_ins.1).symm (h A.l _ L.ln plain_lst.1).symm (h A.s _ L.sf plain_lst.1).symm (h A.u _ L.us plain_dK.1).symm (h A.k _ L.mkd plain_dK.1).symm) n rfl
end
/-! ### The promises -/
/-- a def of the cache without a key, with one; what it gives is told -/
def sp0 (C P : Addr) (pre : M → Prop) (f : M → M) (ret : M → V) : Sp := fun vs H Q _ => ∃ (a : Addr) (A : Ad) (m : M), vs = [.ref a] ∧ LnAt C P H a A m ∧ pre m ∧
  ∀ H' : Hp, LnAt C P H' a A (f m) → Keeps a A H H' → Q (ret m) H'
def spK (C P : Addr) (pre : M → Int → Prop) (f : M → Int → M) (ret : M → Int → V) : Sp := fun vs H Q _ => ∃ (a : Addr) (A : Ad) (m : M) (k : Int), vs = [.ref a, .int k] ∧ LnAt C P H a A m ∧ pre m k ∧
  ∀ H' : Hp, LnAt C P H' a A (f m k) → Keeps a A H H' → Q (ret m k) H'
/-- .. what it gives is a new list -/
def sp0L (C P : Addr) (pre : M → Prop) (f : M → M) (ans : M → List Int) : Sp := fun vs H Q _ => ∃ (a : Addr) (A : Ad) (m : M), vs = [.ref a] ∧ LnAt C P H a A m ∧ pre m ∧
  ∀ (H' : Hp) (p : Addr), LnAt C P H' a A (f m) → Keeps a A H H' → NewAt H p → H' p = some (.lst ((ans m).map V.int)) → Q (.ref p) H'
def spKL (C P : Addr) (pre : M → Int → Prop) (f : M → Int → M) (ans : M → Int → List Int) : Sp := fun vs H Q _ => ∃ (a : Addr) (A : Ad) (m : M) (k : Int), vs = [.ref a, .int k] ∧ LnAt C P H a A m ∧ pre m k ∧
  ∀ (H' : Hp) (p : Addr), LnAt C P H' a A (f m k) → Keeps a A H H' → NewAt H p → H' p = some (.lst ((ans m k).map V.int)) → Q (.ref p) H'
def spInit (C P : Addr) : Sp := fun vs H Q _ => ∃ (p dx : Addr), vs = [.ref p] ∧ H p = some (.ins C dx []) ∧ Tabs (tabOf P) H ∧
  ∀ (A : Ad) (H' : Hp), H A.l = none → H A.s = none → H A.u = none → H A.k = none → LnAt C P H' p A (M.fresh 0 0) → (∀ b o, H b = some o → b ≠ p → H' b = some o) → Q .non H'
/-- the object's lists and dicts are those that it had, or new ones -/
def Moved (H : Hp) (A A' : Ad) : Prop := A' = A ∨ (NewAt H A'.l ∧ NewAt H A'.s ∧ NewAt H A'.u ∧ NewAt H A'.k)
def spBeg (C P : Addr) : Sp := fun vs H Q _ => ∃ (a : Addr) (A : Ad) (m : M) (r n : Int), vs = [.ref a, .int r, .int n] ∧ LnAt C P H a A m ∧
  ∀ (H' : Hp) (A' : Ad) (p : Addr), LnAt C P H' a A' (if Rb20.told r n = true then M.fresh r n else m) → Keeps a A H H' → Moved H A A' → NewAt H p → H' p = some (.lst [.int (if Rb20.told r n = true then 0 else -2)]) → Q (.ref p) H'
structure PreSpare (m : M) : Prop where
  ne : m.line ≠ []
  len : m.line.length ≤ 1024
  nd : (m.marked.map (·.1)).Nodup
structure PreBy (m : M) : Prop where
  len : m.line.length ≤ 1024
  whl : Ints m.uses
  all : ∀ x ∈ m.line, (valV m.uses (ki x)).isSome = true
def spOut (C P : Addr) : Sp := spK C P (fun m k => k ∈ m.line ++ m.safe) M.out fun _ _ => .non
def spForget (C P : Addr) : Sp := spK C P (fun m k => k ∈ m.line ++ m.safe ∧ (valV m.uses (ki k)).isSome = true) M.forget fun _ _ => .non
def spBack (C P : Addr) : Sp := sp0 C P (fun m => m.safe ≠ [] ∧ m.line.length ≤ 1024) M.back fun _ => .non
def spSpare (C P : Addr) : Sp := sp0 C P PreSpare M.spun fun _ => .non
def spBy (C P : Addr) : Sp := sp0L C P PreBy id M.byu
def spLeave (C P : Addr) : Sp := sp0 C P (fun m => PreSpare m ∧ PreBy m) M.qleave fun m => .int m.qgo
def spAgain (C P : Addr) : Sp := spK C P (fun m k => Gd m ∧ k ∈ m.line ++ m.safe) M.qagain fun _ _ => .non
def spUse (C P : Addr) : Sp := spKL C P (fun m _ => Gd m) M.quse fun m k => ansQ m (.use k)
def spDrop (C P : Addr) : Sp := spKL C P (fun m _ => Gd m) (fun m k => nextQ m (.drop k)) fun m k => ansQ m (.drop k)
def spHolds (C P : Addr) : Sp := spKL C P (fun _ _ => True) (fun m _ => m) fun m k => ansQ m (.holds k)
def spOrd (C P : Addr) : Sp := sp0L C P Gd id fun m => ansQ m .order
structure Txt (K : PySem.W.Frag) (mg : Str → Option Value) (C : Addr) : Prop where
  cl : Cls K C
  n1 : NoAttr K C "rule"
  n2 : NoAttr K C "room"
  n3 : NoAttr K C "line"
  n4 : NoAttr K C "safe"
  n5 : NoAttr K C "uses"
  n6 : NoAttr K C "marked"
  gC : mg "Cache" = some (.ref C)
  gR : ∃ t, mg "LAST_RULE" = some (.int 4 t)
  gM : ∃ t, mg "MOST_ROOM" = some (.int 1024 t)
  gU : ∃ t, mg "MOST_USES" = some (.int 4294967295 t)
  g1 : ∃ t, mg "BEGIN" = some (.int 1 t)
  g2 : ∃ t, mg "USE" = some (.int 2 t)
  g3 : ∃ t, mg "DROP" = some (.int 3 t)
  g4 : ∃ t, mg "HOLDS" = some (.int 4 t)
  g5 : ∃ t, mg "ORDER" = some (.int 5 t)
  len : mg "len" = none
  min : mg "min" = none
  srt : mg "sorted" = none
/-! ### What is read of the object -/
section
variable {K : PySem.W.Frag} {C P a : Addr} {A : Ad} {H : Hp} {m : M}
theorem ty_l (L : LnAt C P H a A m) : tyV K "list" (.ref A.l) H := .inl ⟨rfl, _, SqL.of L.ln⟩
theorem ty_s (L : LnAt C P H a A m) : tyV K "list" (.ref A.s) H := .inl ⟨rfl, _, SqL.of L.sf⟩
end
theorem line_small {n : Nat} (h : n ≤ 1024) : n < sizeLine := Nat.lt_of_le_of_lt h (by decide)
theorem small {n : Nat} (h : n ≤ 1000000) : n < sizeLine := Nat.lt_of_le_of_lt h (by decide)
theorem LnAt.cnt {C P a : Addr} {A : Ad} {H : Hp} {m : M} (L : LnAt C P H a A m) {k : Int} (hw : Ints m.uses) (h : (valV m.uses (ki k)).isSome = true) : DGet H A.u (.int k) (some (.int (Cr.cnt m.uses k))) := by
  have q := DGet.k (k := ki k) L.us
  rw [hw.at h] at q
  exact q
theorem at_int {l : List Int} {j : Nat} {x : Int} (h : l[j]? = some x) : (l.map V.int)[j]? = some (.int x) := by
  rw [List.getElem?_map, h]
  rfl
theorem flat_ints (l : List Int) : (l.map V.int).all flatV = true := by
  rw [List.all_map, List.all_eq_true]
  exact fun _ _ => rfl
theorem inV_ints (k : Int) (l : List Int) : inV (.int k) (l.map V.int) = decide (k ∈ l) := by
  unfold inV
  rw [List.any_map, Bool.eq_iff_iff, List.any_eq_true, decide_eq_true_iff]
  constructor
  · rintro ⟨x, hx, e⟩
    have e : (x == k) = true := e
    rw [← beq_iff_eq.mp e]
    exact hx
  · intro h
    exact ⟨k, h, beq_self_eq_true k⟩
theorem snoc_map {l : List Int} {k : Int} : l.map V.int ++ [V.int k] = (l ++ [k]).map V.int := by
  rw [List.map_append]
  rfl
theorem small_map {l : List Int} (h : l.length ≤ 1024) : (l.map V.int).length < sizeLine := line_small (by rw [List.length_map]; exact h)
theorem sq0 {n : Nat} : seqIndex? 0 (n + 1) = some 0 := by
  unfold seqIndex?
  simp
section
variable {C P a : Addr} {A : Ad} {H : Hp} {m : M} {Q : VK}
theorem p_line {x : Int} {r : List Int} (L : LnAt C P H a A m) (e : m.line = x :: r) (q : Q (.int x) (upd H A.l (.lst (r.map V.int)))) : rPopAt (.ref A.l) [.int 0] H Q := by
  have h := L.ln
  rw [e] at h
  exact ⟨A.l, _, 0, 0, _, rfl, rfl, h, by decide, by decide, sq0, rfl, q⟩
theorem p_safe {x : Int} {r : List Int} (L : LnAt C P H a A m) (e : m.safe = x :: r) (q : Q (.int x) (upd H A.s (.lst (r.map V.int)))) : rPopAt (.ref A.s) [.int 0] H Q := by
  have h := L.sf
  rw [e] at h
  exact ⟨A.s, _, 0, 0, _, rfl, rfl, h, by decide, by decide, sq0, rfl, q⟩
end
theorem eq_yes {i j : Int} {A B : Prop} (c : i = j) (h : A) : if decide (V.int i = V.int j) = true then A else B := (if_pos (decide_eq_true (congrArg V.int c))).mpr h
theorem eq_no {i j : Int} {A B : Prop} (c : ¬ i = j) (h : B) : if decide (V.int i = V.int j) = true then A else B := (if_neg (by rw [decide_eq_true_iff]; exact fun z => c (V.int.inj z))).mpr h
end Cr
namespace Cr
open PySem PySem.Spec PyProof.Rows L2 LamX Sl
section
variable {Pg : Program} {w : World} {K : PySem.W.Frag} {mg : Str → Option Value} {base : Heap} {C P : Addr}
/-! ### __init__, begin -/
theorem scInit : FnScope ["self"] ["self"] (defScope sInit) := ⟨rfl, rfl, rfl, by decide +kernel, rfl, by decide +kernel, by decide +kernel⟩
theorem ok_init {f : Addr} {fd : FuncData} (F : Fun K "__init__" "Cache.__init__" sInit f fd) (T : Txt K mg C) : FnOk Pg w K mg base CX0 1 f fd ["self"] (spInit C P) := by
  refine F.ok scInit (fun vs H Q E h => ?_) (fun cdv A outer s H vs Q E hr h => ?_)
  · obtain ⟨p, dx, rfl, _⟩ := h
    rfl
  · obtain ⟨p, dx, rfl, hp, tb, k⟩ := h
    refine ⟨_, pss_cons (ps_fld (pv 0) pe_int rfl) (pss_cons (ps_fld (pv 0) pe_int rfl) (pss_cons (ps_fld (pv 0) (pe_lst pa_nil) rfl) (pss_cons (ps_fld (pv 0) (pe_lst pa_nil) rfl)
      (pss_cons (ps_fld (pv 0) pe_dnewK rfl) (pss_one (ps_fld (pv 0) pe_dnewK rfl)))))), ?_⟩
    refine ⟨_, rfl, p, C, dx, _, rfl, hp, T.cl, T.n1, (by show 0 < 1000; decide), ?_⟩
    refine ⟨_, rfl, p, C, dx, _, rfl, upd_same, T.cl, T.n2, (by show 1 < 1000; decide), ?_⟩
    refine ⟨Nat.zero_le _, fun l hl => ?_⟩
    have npl : p ≠ l := ne_of_none upd_same hl
    rw [upd_ne npl.symm, upd_ne npl.symm] at hl
    refine ⟨_, rfl, p, C, dx, _, rfl, (by rw [upd_ne npl]; exact upd_same), T.cl, T.n3, (by show 2 < 1000; decide), ?_⟩
    refine ⟨Nat.zero_le _, fun q hq => ?_⟩
    have npq : p ≠ q := ne_of_none upd_same hq
    rw [upd_ne npq.symm] at hq
    have nlq : l ≠ q := ne_of_none upd_same hq
    rw [upd_ne nlq.symm, upd_ne npq.symm, upd_ne npq.symm] at hq
    refine ⟨_, rfl, p, C, dx, _, rfl, (by rw [upd_ne npq]; exact upd_same), T.cl, T.n4, (by show 3 < 1000; decide), ?_⟩
    intro u hu
    have npu : p ≠ u := ne_of_none upd_same hu
    rw [upd_ne npu.symm] at hu
    have nqu : q ≠ u := ne_of_none upd_same hu
    rw [upd_ne nqu.symm, upd_ne npu.symm] at hu
    have nlu : l ≠ u := ne_of_none upd_same hu
    rw [upd_ne nlu.symm, upd_ne npu.symm, upd_ne npu.symm] at hu
    refine ⟨_, rfl, p, C, dx, _, rfl, (by rw [upd_ne npu]; exact upd_same), T.cl, T.n5, (by show 4 < 1000; decide), ?_⟩
    intro d hd
    have npd : p ≠ d := ne_of_none upd_same hd
    rw [upd_ne npd.symm] at hd
    have nud : u ≠ d := ne_of_none upd_same hd
    rw [upd_ne nud.symm, upd_ne npd.symm] at hd
    have nqd : q ≠ d := ne_of_none upd_same hd
    rw [upd_ne nqd.symm, upd_ne npd.symm] at hd
    have nld : l ≠ d := ne_of_none upd_same hd
    rw [upd_ne nld.symm, upd_ne npd.symm, upd_ne npd.symm] at hd
    refine ⟨_, rfl, p, C, dx, _, rfl, (by rw [upd_ne npd]; exact upd_same), T.cl, T.n6, (by show 5 < 1000; decide), ?_⟩
    have pp : ∀ {H : Hp} {fs : List (Str × V)}, H p = some (.ins C dx fs) → ∀ u, H p = some u → Plain u := fun h u e => pl_at h plain_ins e
    have t1 := tabs_upd (o := .ins C dx (putF "rule" (.int 0) [])) tb (pp hp)
    have t2 := tabs_upd (o := .ins C dx (putF "room" (.int 0) (putF "rule" (.int 0) []))) t1 (pp upd_same)
    have t3 := tabs_new (o := .lst []) t2 (b := l) (by rw [upd_ne npl.symm, upd_ne npl.symm]; exact hl)
    have t4 := tabs_upd (o := .ins C dx (putF "line" (.ref l) (putF "room" (.int 0) (putF "rule" (.int 0) [])))) t3 (pp (by rw [upd_ne npl]; exact upd_same))
    have t5 := tabs_new (o := .lst []) t4 (b := q) (by rw [upd_ne npq.symm, upd_ne nlq.symm, upd_ne npq.symm, upd_ne npq.symm]; exact hq)
    have t6 := tabs_upd (o := .ins C dx (putF "safe" (.ref q) (putF "line" (.ref l) (putF "room" (.int 0) (putF "rule" (.int 0) []))))) t5 (pp (by rw [upd_ne npq]; exact upd_same))
    have t7 := tabs_new (o := .dK []) t6 (b := u) (by rw [upd_ne npu.symm, upd_ne nqu.symm, upd_ne npu.symm, upd_ne nlu.symm, upd_ne npu.symm, upd_ne npu.symm]; exact hu)
    have t8 := tabs_upd (o := .ins C dx (putF "uses" (.ref u) (putF "safe" (.ref q) (putF "line" (.ref l) (putF "room" (.int 0) (putF "rule" (.int 0) [])))))) t7 (pp (by rw [upd_ne npu]; exact upd_same))
    have t9 := tabs_new (o := .dK []) t8 (b := d) (by rw [upd_ne npd.symm, upd_ne nud.symm, upd_ne npd.symm, upd_ne nqd.symm, upd_ne npd.symm, upd_ne nld.symm, upd_ne npd.symm, upd_ne npd.symm]; exact hd)
    have t10 := tabs_upd (o := .ins C dx (putF "marked" (.ref d) (putF "uses" (.ref u) (putF "safe" (.ref q) (putF "line" (.ref l) (putF "room" (.int 0) (putF "rule" (.int 0) []))))))) t9 (pp (by rw [upd_ne npd]; exact upd_same))
    refine k ⟨l, q, u, d⟩ _ hl hq hu hd ⟨⟨dx, Eq.trans upd_same (congrArg (fun l => some (HO.ins C dx l)) (lF_new (A := ⟨l, q, u, d⟩)))⟩, ?_, ?_, ?_, ?_, nlq, nud, t10⟩ fun b o e hb => ?_
    · show (upd _ _ _ : Hp) l = _
      rw [upd_ne npl.symm, upd_ne nld, upd_ne npl.symm, upd_ne nlu, upd_ne npl.symm, upd_ne nlq, upd_ne npl.symm]
      exact upd_same
    · show (upd _ _ _ : Hp) q = _
      rw [upd_ne npq.symm, upd_ne nqd, upd_ne npq.symm, upd_ne nqu, upd_ne npq.symm]
      exact upd_same
    · show (upd _ _ _ : Hp) u = _
      rw [upd_ne npu.symm, upd_ne nud, upd_ne npu.symm]
      exact upd_same
    · show (upd _ _ _ : Hp) d = _
      rw [upd_ne npd.symm]
      exact upd_same
    · rw [upd_ne hb, upd_ne (ne_of_none e hd), upd_ne hb, upd_ne (ne_of_none e hu), upd_ne hb, upd_ne (ne_of_none e hq), upd_ne hb, upd_ne (ne_of_none e hl), upd_ne hb, upd_ne hb]
      exact e
/-- 0 <= rule <= 4 and 1 <= room <= 1024, not so -/
def t_told : TT := tNot (tAnd (tTest (tChain (rI0 fun i j => .bl (decide (i ≤ j))) (rI0 fun i j => .bl (decide (i ≤ j))) (tC (.int 0)) (tVar 1) (tC (.int 4)))) (tTest (tChain (rI0 fun i j => .bl (decide (i ≤ j))) (rI0 fun i j => .bl (decide (i ≤ j))) (tC (.int 1)) (tVar 2) (tC (.int 1024)))))
theorem told_reads {σ : L2.St} {H : Hp} {Q : Bool → Hp → Prop} {r n : Int} (h1 : σ[1]? = some (some (.int r))) (h2 : σ[2]? = some (some (.int n))) (k : Q (!Rb20.told r n) H) : t_told σ H Q := by
  have fin : ∀ c : Bool, c = Rb20.told r n → Q (!c) H := fun c e => by
    rw [e]
    exact k
  have e0 : Rb20.told r n = ((decide (0 ≤ r) && decide (r ≤ 4)) && (decide (1 ≤ n) && decide (n ≤ 1024))) := rfl
  refine ⟨_, h1, _, _, rfl, rfl, _, rfl, ?_⟩
  by_cases c1 : 0 ≤ r
  · rw [decide_eq_true c1] at e0 ⊢
    refine iteT ?_
    refine ⟨_, _, rfl, rfl, _, rfl, ?_⟩
    by_cases c2 : r ≤ 4
    · rw [decide_eq_true c2] at e0 ⊢
      refine iteT ?_
      refine ⟨_, h2, _, _, rfl, rfl, _, rfl, ?_⟩
      by_cases c3 : 1 ≤ n
      · rw [decide_eq_true c3] at e0 ⊢
        refine iteT ?_
        refine ⟨_, _, rfl, rfl, _, rfl, ?_⟩
        exact fin _ (by rw [e0]; rfl)
      · rw [decide_eq_false c3] at e0 ⊢
        refine iteF ?_
        refine ⟨_, rfl, ?_⟩
        exact fin _ (by rw [e0]; rfl)
    · rw [decide_eq_false c2] at e0 ⊢
      refine iteF ?_
      exact fin _ (by rw [e0]; rfl)
  · rw [decide_eq_false c1] at e0 ⊢
    refine iteF ?_
    refine ⟨_, rfl, ?_⟩
    refine iteF ?_
    exact fin _ (by rw [e0]; rfl)
theorem scBeg : FnScope ["self", "rule", "room"] ["self", "rule", "room"] (defScope sBeg) := ⟨rfl, rfl, rfl, by decide +kernel, rfl, by decide +kernel, by decide +kernel⟩
theorem ok_beg {f : Addr} {fd : FuncData} (F : Fun K "begin" "Cache.begin" sBeg f fd) (T : Txt K mg C) : FnOk Pg w K mg base CX0 1 f fd ["self", "rule", "room"] (spBeg C P) := by
  obtain ⟨tR, gR⟩ := T.gR
  obtain ⟨tM, gM⟩ := T.gM
  refine F.ok scBeg (fun vs H Q E h => ?_) (fun cdv A0 outer s H vs Q E hr h => ?_)
  · obtain ⟨a, A, m, r, n, rfl, _⟩ := h
    rfl
  · obtain ⟨a, A, m, r, n, rfl, L, k⟩ := h
    refine ⟨_, pss_cons (ps_if (pt_not (PW.pt (pw_and (pt_chain op_le op_le pe_int (pv 1) (pe_glob (v := .int 4) rfl gR ⟨_, rfl⟩)) (pw_and1 (pt_chain op_le op_le pe_int (pv 2) (pe_glob (v := .int 1024) rfl gM ⟨_, rfl⟩))))))
        (pss_one (ps_ret (pe_lst (pa_cons (pe_un un_neg pe_int) pa_nil)))) pss_nil)
      (pss_cons (ps_fld (pv 0) (pv 1) rfl) (pss_cons (ps_fld (pv 0) (pv 2) rfl) (pss_cons (ps_fld (pv 0) (pe_lst pa_nil) rfl) (pss_cons (ps_fld (pv 0) (pe_lst pa_nil) rfl)
      (pss_cons (ps_fld (pv 0) pe_dnewK rfl) (pss_cons (ps_fld (pv 0) pe_dnewK rfl) (pss_one (ps_ret (pe_lst (pa_cons pe_int pa_nil)))))))))), ?_⟩
    refine told_reads (r := r) (n := n) rfl rfl ?_
    cases c : Rb20.told r n with
    | false =>
      rw [c] at k
      refine (if_pos (by rfl)).mpr ?_
      refine ⟨_, rfl, (by show 1 ≤ sizeLine; decide), fun p hp => ?_⟩
      exact k _ A p (L.new hp) (.new hp) (.inl rfl) (.of hp) upd_same
    | true =>
      rw [c] at k
      refine (if_neg (by exact Bool.false_ne_true)).mpr ?_
      obtain ⟨dx, hob⟩ := L.ob
      have pp : ∀ {H : Hp} {fs : List (Str × V)}, H a = some (.ins C dx fs) → ∀ u, H a = some u → Plain u := fun h u e => pl_at h plain_ins e
      refine ⟨_, rfl, _, rfl, a, C, dx, _, rfl, hob, T.cl, T.n1, (by show 6 < 1000; decide), ?_⟩
      rw [pF_rule]
      have t1 := tabs_upd (o := .ins C dx (lF A r m.room)) L.tab (pp hob)
      refine ⟨_, rfl, _, rfl, a, C, dx, _, rfl, upd_same, T.cl, T.n2, (by show 6 < 1000; decide), ?_⟩
      rw [pF_room]
      have t2 := tabs_upd (o := .ins C dx (lF A r n)) t1 (pp upd_same)
      refine ⟨Nat.zero_le _, fun l hl => ?_⟩
      have npl : a ≠ l := ne_of_none upd_same hl
      have t3 := tabs_new (o := .lst []) t2 hl
      rw [upd_ne npl.symm, upd_ne npl.symm] at hl
      refine ⟨_, rfl, a, C, dx, _, rfl, (by rw [upd_ne npl]; exact upd_same), T.cl, T.n3, (by show 6 < 1000; decide), ?_⟩
      rw [pF_line]
      have t4 := tabs_upd (o := .ins C dx (lF { A with l := l } r n)) t3 (pp (by rw [upd_ne npl]; exact upd_same))
      refine ⟨Nat.zero_le _, fun q hq => ?_⟩
      have t5 := tabs_new (o := .lst []) t4 hq
      have npq : a ≠ q := ne_of_none upd_same hq
      rw [upd_ne npq.symm] at hq
      have nlq : l ≠ q := ne_of_none upd_same hq
      rw [upd_ne nlq.symm, upd_ne npq.symm, upd_ne npq.symm] at hq
      refine ⟨_, rfl, a, C, dx, _, rfl, (by rw [upd_ne npq]; exact upd_same), T.cl, T.n4, (by show 6 < 1000; decide), ?_⟩
      rw [pF_safe]
      have t6 := tabs_upd (o := .ins C dx (lF { A with l := l, s := q } r n)) t5 (pp (by rw [upd_ne npq]; exact upd_same))
      intro u hu
      have t7 := tabs_new (o := .dK []) t6 hu
      have npu : a ≠ u := ne_of_none upd_same hu
      rw [upd_ne npu.symm] at hu
      have nqu : q ≠ u := ne_of_none upd_same hu
      rw [upd_ne nqu.symm, upd_ne npu.symm] at hu
      have nlu : l ≠ u := ne_of_none upd_same hu
      rw [upd_ne nlu.symm, upd_ne npu.symm, upd_ne npu.symm] at hu
      refine ⟨_, rfl, a, C, dx, _, rfl, (by rw [upd_ne npu]; exact upd_same), T.cl, T.n5, (by show 6 < 1000; decide), ?_⟩
      rw [pF_uses]
      have t8 := tabs_upd (o := .ins C dx (lF { A with l := l, s := q, u := u } r n)) t7 (pp (by rw [upd_ne npu]; exact upd_same))
      intro d hd
      have t9 := tabs_new (o := .dK []) t8 hd
      have npd : a ≠ d := ne_of_none upd_same hd
      rw [upd_ne npd.symm] at hd
      have nud : u ≠ d := ne_of_none upd_same hd
      rw [upd_ne nud.symm, upd_ne npd.symm] at hd
      have nqd : q ≠ d := ne_of_none upd_same hd
      rw [upd_ne nqd.symm, upd_ne npd.symm] at hd
      have nld : l ≠ d := ne_of_none upd_same hd
      rw [upd_ne nld.symm, upd_ne npd.symm, upd_ne npd.symm] at hd
      refine ⟨_, rfl, a, C, dx, _, rfl, (by rw [upd_ne npd]; exact upd_same), T.cl, T.n6, (by show 6 < 1000; decide), ?_⟩
      rw [pF_marked]
      have t10 := tabs_upd (o := .ins C dx (lF ⟨l, q, u, d⟩ r n)) t9 (pp (by rw [upd_ne npd]; exact upd_same))
      refine ⟨(by show 1 ≤ sizeLine; decide), fun p hp => ?_⟩
      have kp : ∀ b o, H b = some o → b ≠ a → (upd (upd (upd (upd (upd (upd (upd (upd (upd (upd H a (.ins C dx (lF A r m.room))) a (.ins C dx (lF A r n))) l (.lst [])) a (.ins C dx (lF { A with l := l } r n))) q (.lst [])) a (.ins C dx (lF { A with l := l, s := q } r n))) u (.dK [])) a (.ins C dx (lF { A with l := l, s := q, u := u } r n))) d (.dK [])) a (.ins C dx (lF ⟨l, q, u, d⟩ r n)) : Hp) b = some o := fun b o e hb => by
        rw [upd_ne hb, upd_ne (ne_of_none e hd), upd_ne hb, upd_ne (ne_of_none e hu), upd_ne hb, upd_ne (ne_of_none e hq), upd_ne hb, upd_ne (ne_of_none e hl), upd_ne hb, upd_ne hb]
        exact e
      have L' : LnAt C P (upd (upd (upd (upd (upd (upd (upd (upd (upd (upd H a (.ins C dx (lF A r m.room))) a (.ins C dx (lF A r n))) l (.lst [])) a (.ins C dx (lF { A with l := l } r n))) q (.lst [])) a (.ins C dx (lF { A with l := l, s := q } r n))) u (.dK [])) a (.ins C dx (lF { A with l := l, s := q, u := u } r n))) d (.dK [])) a (.ins C dx (lF ⟨l, q, u, d⟩ r n))) a ⟨l, q, u, d⟩ (M.fresh r n) := by
        refine ⟨⟨dx, upd_same⟩, ?_, ?_, ?_, ?_, nlq, nud, t10⟩
        · show (upd _ _ _ : Hp) l = _
          rw [upd_ne npl.symm, upd_ne nld, upd_ne npl.symm, upd_ne nlu, upd_ne npl.symm, upd_ne nlq, upd_ne npl.symm]
          exact upd_same
        · show (upd _ _ _ : Hp) q = _
          rw [upd_ne npq.symm, upd_ne nqd, upd_ne npq.symm, upd_ne nqu, upd_ne npq.symm]
          exact upd_same
        · show (upd _ _ _ : Hp) u = _
          rw [upd_ne npu.symm, upd_ne nud, upd_ne npu.symm]
          exact upd_same
        · show (upd _ _ _ : Hp) d = _
          rw [upd_ne npd.symm]
          exact upd_same
      have np : NewAt H p := fun b o e _ z => by
        subst z
        by_cases hb : b = a
        · subst hb
          obtain ⟨dx', h'⟩ := L'.ob
          rw [h'] at hp
          cases hp
        · have := kp b o e hb
          rw [this] at hp
          cases hp
      refine k _ ⟨l, q, u, d⟩ p (L'.new hp) (fun b o e _ hb _ _ _ _ => ?_) (.inr ⟨.of hl, .of hq, .of hu, .of hd⟩) np upd_same
      have e' := kp b o e hb
      rw [upd_ne (ne_of_none e' hp)]
      exact e'
end
end Cr
namespace Cr
open PySem PySem.Spec PyProof.Rows L2 LamX Sl
section
variable {Pg : Program} {w : World} {K : PySem.W.Frag} {mg : Str → Option Value} {base : Heap} {C P : Addr}
/-! ### take_out, forget, give_back -/
theorem scOut : FnScope ["self", "key"] ["self", "key"] (defScope sOut) := ⟨rfl, rfl, rfl, by decide +kernel, rfl, by decide +kernel, by decide +kernel⟩
theorem ok_out {f : Addr} {fd : FuncData} (F : Fun K "take_out" "Cache.take_out" sOut f fd) (T : Txt K mg C) : FnOk Pg w K mg base CX0 1 f fd ["self", "key"] (spOut C P) := by
  refine F.ok scOut (fun vs H Q E h => ?_) (fun cdv A0 outer s H vs Q E hr h => ?_)
  · obtain ⟨a, A, m, k, rfl, _⟩ := h
    rfl
  · obtain ⟨a, A, m, k, rfl, L, hk, kk⟩ := h
    refine ⟨_, pss_one (ps_if (pt_cmpR op_in_seq (pv 1) (pe_fld (pv 0) rfl) (by rfl))
        (pss_one (ps_expr (pe_bm PySem.F.plainAttrs_list PySem.F.slot_list_remove PySem.F.type_list_remove mt_remove (pe_fld (pv 0) rfl) (pa_cons (pv 1) pa_nil))))
        (pss_one (ps_expr (pe_bm PySem.F.plainAttrs_list PySem.F.slot_list_remove PySem.F.type_list_remove mt_remove (pe_fld (pv 0) rfl) (pa_cons (pv 1) pa_nil))))), ?_⟩
    obtain ⟨dx, hob⟩ := L.ob
    refine ⟨_, rfl, _, rfl, a, C, dx, _, _, rfl, hob, T.cl, T.n4, lF_safe, _, _, rfl, .inl (SqL.of L.sf), rfl, flat_ints _, _, rfl, ?_⟩
    have ei : inV (V.int k) (m.safe.map V.int) = decide (k ∈ m.safe) := inV_ints k _
    by_cases c : k ∈ m.safe
    · refine (if_pos (ei.trans (decide_eq_true c))).mpr ?_
      refine ⟨_, rfl, a, C, dx, _, _, rfl, hob, T.cl, T.n4, lF_safe, ty_s L, _, rfl, ?_⟩
      obtain ⟨j, _, g2, g3, g4⟩ := first_at c
      refine ⟨A.s, m.safe, k, j, rfl, rfl, L.sf, g2, g3, ?_⟩
      refine kk _ ?_ .s
      rw [out_safe c]
      exact L.setSafe (by rw [g4])
    · refine (if_neg (by rw [Bool.not_eq_true]; exact ei.trans (decide_eq_false c))).mpr ?_
      have hl : k ∈ m.line := (List.mem_append.mp hk).resolve_right c
      refine ⟨_, rfl, a, C, dx, _, _, rfl, hob, T.cl, T.n3, lF_line, ty_l L, _, rfl, ?_⟩
      obtain ⟨j, _, g2, g3, g4⟩ := first_at hl
      refine ⟨A.l, m.line, k, j, rfl, rfl, L.ln, g2, g3, ?_⟩
      refine kk _ ?_ .l
      rw [out_line c]
      exact L.setLine (by rw [g4])
theorem scForget : FnScope ["self", "key"] ["self", "key"] (defScope sForget) := ⟨rfl, rfl, rfl, by decide +kernel, rfl, by decide +kernel, by decide +kernel⟩
theorem out_marked (m : M) (k : Int) : (m.out k).marked = m.marked := by
  unfold M.out
  split <;> rfl
theorem out_uses (m : M) (k : Int) : (m.out k).uses = m.uses := by
  unfold M.out
  split <;> rfl
theorem ok_forget {f fO : Addr} {fd fdO : FuncData} (F : Fun K "forget" "Cache.forget" sForget f fd) (T : Txt K mg C) (GO : FnOk Pg w K mg base CX0 1 fO fdO ["self", "key"] (spOut C P)) (bO : Binds K fdO ["self", "key"] []) (mO : Meth K C "take_out" fO) :
    FnOk Pg w K mg base CX0 2 f fd ["self", "key"] (spForget C P) := by
  refine F.ok scForget (fun vs H Q E h => ?_) (fun cdv A0 outer s H vs Q E hr h => ?_)
  · obtain ⟨a, A, m, k, rfl, _⟩ := h
    rfl
  · obtain ⟨a, A, m, k, rfl, L, ⟨hk, hu⟩, kk⟩ := h
    have hun := hu_of hr
    refine ⟨_, pss_cons (ps_expr (pe_meth (pv 0) T.cl mO GO hr bO .nil pass0 (by exact (pa_cons (pv 1) pa_nil))))
      (pss_cons (ps_expr (pe_dpop1 (pe_fld (pv 0) rfl) (pv 1) ⟨rfl, rfl, rfl, rfl⟩))
      (pss_one (ps_if (pt_cmp (pc_din hun (pv 1) (pe_fld (pv 0) rfl))) (pss_one (ps_expr (pe_dpop1 (pe_fld (pv 0) rfl) (pv 1) ⟨rfl, rfl, rfl, rfl⟩))) pss_nil))), ?_⟩
    obtain ⟨dx, hob⟩ := L.ob
    refine ⟨_, rfl, a, dx, _, rfl, hob, lF_out, _, rfl, a, A, m, k, rfl, L, hk, fun H1 L1 K1 => ?_⟩
    obtain ⟨dx1, hob1⟩ := L1.ob
    obtain ⟨z, hz⟩ := Option.isSome_iff_exists.mp hu
    refine ⟨_, rfl, a, C, dx1, _, _, rfl, hob1, T.cl, T.n5, lF_uses, _, rfl, .inl ⟨_, Rd.of L1.us⟩, _, rfl, (m.out k).uses, ki k, z, L1.us, rfl, by rw [out_uses]; exact hz, ?_⟩
    have L2 : LnAt C P (upd H1 A.u (.dK (dropK (m.out k).uses (ki k)))) a A ((m.out k).dropU k) := L1.setUses
    have K2 : Keeps a A H (upd H1 A.u (.dK (dropK (m.out k).uses (ki k)))) := K1.trans .u
    generalize upd H1 A.u (.dK (dropK (m.out k).uses (ki k))) = H2 at L2 K2
    obtain ⟨dx2, hob2⟩ := L2.ob
    refine ⟨_, rfl, _, rfl, a, C, dx2, _, _, rfl, hob2, T.cl, T.n6, lF_marked, A.k, _, rfl, DGet.k (k := ki k) L2.mkd, _, rfl, ?_⟩
    by_cases c : (valV ((m.out k).dropU k).marked (ki k)).isSome = true
    · refine (if_pos c).mpr ?_
      obtain ⟨y, hy⟩ := Option.isSome_iff_exists.mp c
      refine ⟨_, rfl, a, C, dx2, _, _, rfl, hob2, T.cl, T.n6, lF_marked, _, rfl, .inl ⟨_, Rd.of L2.mkd⟩, _, rfl, ((m.out k).dropU k).marked, ki k, y, L2.mkd, rfl, hy, ?_⟩
      exact kk _ L2.setMarked (K2.trans .k)
    · refine (if_neg c).mpr ?_
      refine kk _ ?_ K2
      have e : dropK ((m.out k).dropU k).marked (ki k) = ((m.out k).dropU k).marked := dropK_no fun z => c (isSome_iff.mpr z)
      show LnAt C P H2 a A { (m.out k).dropU k with marked := dropK ((m.out k).dropU k).marked (ki k) }
      rw [e]
      exact L2
theorem scBack : FnScope ["self"] ["self"] (defScope sBack) := ⟨rfl, rfl, rfl, by decide +kernel, rfl, by decide +kernel, by decide +kernel⟩
theorem ok_back {f : Addr} {fd : FuncData} (F : Fun K "give_back" "Cache.give_back" sBack f fd) (T : Txt K mg C) : FnOk Pg w K mg base CX0 1 f fd ["self"] (spBack C P) := by
  refine F.ok scBack (fun vs H Q E h => ?_) (fun cdv A0 outer s H vs Q E hr h => ?_)
  · obtain ⟨a, A, m, rfl, _⟩ := h
    rfl
  · obtain ⟨a, A, m, rfl, L, ⟨hs, hl⟩, kk⟩ := h
    refine ⟨_, pss_one (ps_if (pt_cmpR op_gt (pe_callB call_len_seq (by rfl) T.len PySem.boot_len (pa_cons (pe_fld (pv 0) rfl) pa_nil)) (pe_op op_fdiv (pe_fld (pv 0) rfl) pe_int) (nomark _))
        (pss_one (ps_expr (pe_bm PySem.F.plainAttrs_list PySem.F.slot_list_append PySem.F.type_list_append mt_append (pe_fld (pv 0) rfl)
          (pa_cons (pe_bm PySem.F.plainAttrs_list PySem.F.slot_list_pop PySem.F.type_list_pop mt_popAt (pe_fld (pv 0) rfl) (pa_cons pe_int pa_nil)) pa_nil)))) pss_nil), ?_⟩
    obtain ⟨dx, hob⟩ := L.ob
    refine ⟨_, rfl, a, C, dx, _, _, rfl, hob, T.cl, T.n4, lF_safe, _, _, rfl, .inl (SqL.of L.sf), ?_⟩
    refine ⟨_, rfl, a, C, dx, _, _, rfl, hob, T.cl, T.n2, lF_room, _, _, rfl, rfl, ⟨by decide, by decide⟩, _, _, rfl, rfl, _, rfl, ?_⟩
    by_cases c : m.room / 2 < (m.safe.length : Int)
    · have c' : m.room / 2 < ((m.safe.map V.int).length : Int) := by rw [List.length_map]; exact c
      refine (if_pos (decide_eq_true c')).mpr ?_
      obtain ⟨x, r, e⟩ : ∃ x r, m.safe = x :: r := by
        cases h : m.safe with
        | nil => exact absurd h hs
        | cons x r => exact ⟨x, r, rfl⟩
      refine ⟨_, rfl, a, C, dx, _, _, rfl, hob, T.cl, T.n3, lF_line, ty_l L, _, rfl, a, C, dx, _, _, rfl, hob, T.cl, T.n4, lF_safe, ty_s L, ?_⟩
      refine p_safe L e ?_
      have L2 := L.setSafe (xs := r.map V.int) rfl
      refine ⟨A.l, _, _, rfl, rfl, L2.ln, small_map hl, ?_⟩
      refine kk _ ?_ (Keeps.trans .s .l)
      have eb : m.back = { m with line := m.line ++ [x], safe := r } := by
        unfold M.back
        rw [if_pos c, e]
        rfl
      rw [eb]
      exact L2.setLine snoc_map
    · have c' : ¬ m.room / 2 < ((m.safe.map V.int).length : Int) := by rw [List.length_map]; exact c
      refine (if_neg (by rw [decide_eq_true_iff]; exact c')).mpr ?_
      refine kk _ ?_ .refl
      have eb : m.back = m := by
        unfold M.back
        rw [if_neg c]
      rw [eb]
      exact L
/-! ### holds, drop -/
theorem scHolds : FnScope ["self", "key"] ["self", "key"] (defScope sHolds) := ⟨rfl, rfl, rfl, by decide +kernel, rfl, by decide +kernel, by decide +kernel⟩
theorem ok_holds {f : Addr} {fd : FuncData} (F : Fun K "holds" "Cache.holds" sHolds f fd) (T : Txt K mg C) : FnOk Pg w K mg base CX0 1 f fd ["self", "key"] (spHolds C P) := by
  refine F.ok scHolds (fun vs H Q E h => ?_) (fun cdv A0 outer s H vs Q E hr h => ?_)
  · obtain ⟨a, A, m, k, rfl, _⟩ := h
    rfl
  · obtain ⟨a, A, m, k, rfl, L, _, kk⟩ := h
    have hun := hu_of hr
    refine ⟨_, pss_cons (ps_if (pt_cmp (pc_din hun (pv 1) (pe_fld (pv 0) rfl))) (pss_one (ps_ret (pe_lst (pa_cons pe_int pa_nil)))) pss_nil)
      (pss_one (ps_ret (pe_lst (pa_cons pe_int pa_nil)))), ?_⟩
    obtain ⟨dx, hob⟩ := L.ob
    have kk : ∀ (H' : Hp) (p : Addr), LnAt C P H' a A m → Keeps a A H H' → NewAt H p → H' p = some (.lst [.int (if m.has k = true then 1 else 0)]) → Q (.ref p) H' := kk
    refine ⟨_, rfl, _, rfl, a, C, dx, _, _, rfl, hob, T.cl, T.n5, lF_uses, A.u, _, rfl, DGet.k (k := ki k) L.us, _, rfl, ?_⟩
    by_cases c : (valV m.uses (ki k)).isSome = true
    · rw [if_pos (show m.has k = true from c)] at kk
      refine (if_pos c).mpr ?_
      exact ⟨(by show 1 ≤ sizeLine; decide), fun p hp => kk _ p (L.new hp) (.new hp) (.of hp) upd_same⟩
    · rw [if_neg (show ¬ m.has k = true from c)] at kk
      refine (if_neg c).mpr ?_
      exact ⟨(by show 1 ≤ sizeLine; decide), fun p hp => kk _ p (L.new hp) (.new hp) (.of hp) upd_same⟩
theorem scDrop : FnScope ["self", "key"] ["self", "key"] (defScope sDrop) := ⟨rfl, rfl, rfl, by decide +kernel, rfl, by decide +kernel, by decide +kernel⟩
theorem ok_drop {f fF : Addr} {fd fdF : FuncData} (F : Fun K "drop" "Cache.drop" sDrop f fd) (T : Txt K mg C) (GF : FnOk Pg w K mg base CX0 2 fF fdF ["self", "key"] (spForget C P)) (bF : Binds K fdF ["self", "key"] []) (mF : Meth K C "forget" fF) :
    FnOk Pg w K mg base CX0 3 f fd ["self", "key"] (spDrop C P) := by
  refine F.ok scDrop (fun vs H Q E h => ?_) (fun cdv A0 outer s H vs Q E hr h => ?_)
  · obtain ⟨a, A, m, k, rfl, _⟩ := h
    rfl
  · obtain ⟨a, A, m, k, rfl, L, G, kk⟩ := h
    have hun := hu_of hr
    refine ⟨_, pss_cons (ps_if (pt_cmp (pc_dnotin hun (pv 1) (pe_fld (pv 0) rfl))) (pss_one (ps_ret (pe_lst (pa_cons pe_int pa_nil)))) pss_nil)
      (pss_cons (ps_expr (pe_meth (pv 0) T.cl mF GF hr bF .nil pass0 (by exact (pa_cons (pv 1) pa_nil))))
      (pss_one (ps_ret (pe_lst (pa_cons pe_int pa_nil))))), ?_⟩
    obtain ⟨dx, hob⟩ := L.ob
    have kk : ∀ (H' : Hp) (p : Addr), LnAt C P H' a A (if m.has k = true then m.forget k else m) → Keeps a A H H' → NewAt H p → H' p = some (.lst [.int (if m.has k = true then 1 else 0)]) → Q (.ref p) H' := kk
    refine ⟨_, rfl, _, rfl, a, C, dx, _, _, rfl, hob, T.cl, T.n5, lF_uses, A.u, _, rfl, DGet.k (k := ki k) L.us, _, rfl, ?_⟩
    by_cases c : (valV m.uses (ki k)).isSome = true
    · rw [if_pos (show m.has k = true from c), if_pos (show m.has k = true from c)] at kk
      refine (if_neg (by rw [c]; exact Bool.false_ne_true)).mpr ?_
      refine ⟨_, rfl, a, dx, _, rfl, hob, lF_forget, _, rfl, a, A, m, k, rfl, L, ⟨(G.has k).mp c, c⟩, fun H1 L1 K1 => ?_⟩
      exact ⟨(by show 1 ≤ sizeLine; decide), fun p hp => kk _ p (L1.new hp) (K1.trans (.new hp)) (K1.newAt L1 (.of hp)) upd_same⟩
    · rw [if_neg (show ¬ m.has k = true from c), if_neg (show ¬ m.has k = true from c)] at kk
      refine (if_pos (by rw [Bool.not_eq_true] at c; rw [c]; rfl)).mpr ?_
      exact ⟨(by show 1 ≤ sizeLine; decide), fun p hp => kk _ p (L.new hp) (.new hp) (.of hp) upd_same⟩
end
end Cr
namespace Cr
open PySem PySem.Spec PyProof.Rows L2 LamX Sl
theorem spin_turn {m : M} {x : Int} {r : List Int} (e : m.line = x :: r) (h : (valV m.marked (ki x)).isSome = true) (hn : (m.marked.map (·.1)).Nodup) :
    spin (m.turn x r).marked.length (m.turn x r) = spin m.marked.length m ∧ (m.turn x r).marked.length + 1 = m.marked.length := by
  have q : (dropK m.marked (ki x)).length + 1 = m.marked.length := dropK_len hn (isSome_iff.mp h)
  refine ⟨?_, q⟩
  rw [← q]
  show spin (dropK m.marked (ki x)).length (m.turn x r) = spin ((dropK m.marked (ki x)).length + 1) m
  conv => rhs; unfold spin
  rw [e]
  show _ = if (valV m.marked (ki x)).isSome = true then _ else _
  rw [if_pos h]
theorem spin_stop {m : M} {x : Int} {r : List Int} (e : m.line = x :: r) (h : ¬ (valV m.marked (ki x)).isSome = true) : ∀ n, spin n m = m
  | 0 => rfl
  | n + 1 => by
    unfold spin
    rw [e]
    show (if (valV m.marked (ki x)).isSome = true then _ else _) = _
    rw [if_neg h]
section
variable {Pg : Program} {w : World} {K : PySem.W.Frag} {mg : Str → Option Value} {base : Heap} {C P : Addr}
/-! ### spare_marked -/
theorem scSpare : FnScope ["self", "spared"] ["self"] (defScope sSpare) := ⟨rfl, rfl, rfl, by decide +kernel, rfl, by decide +kernel, by decide +kernel⟩
theorem ok_spare {f : Addr} {fd : FuncData} (F : Fun K "spare_marked" "Cache.spare_marked" sSpare f fd) (T : Txt K mg C) : FnOk Pg w K mg base CX0 1 f fd ["self"] (spSpare C P) := by
  refine F.ok scSpare (fun vs H Q E h => ?_) (fun cdv A0 outer s H vs Q E hr h => ?_)
  · obtain ⟨a, A, m, rfl, _⟩ := h
    rfl
  · obtain ⟨a, A, m, rfl, L, Pr, kk⟩ := h
    have hu := hu_of hr
    have nd := scSpare.nd
    refine ⟨_, pss_one (ps_while PassesOwn.never (pt_cmp (pc_din hu (pe_ix ix_list (pe_fld (pv 0) rfl) pe_int (fun _ _ => rfl)) (pe_fld (pv 0) rfl)))
        (pss_cons (ps_set (i := 1) nd rfl (Or.inl rfl) (pe_bm PySem.F.plainAttrs_list PySem.F.slot_list_pop PySem.F.type_list_pop mt_popAt (pe_fld (pv 0) rfl) (pa_cons pe_int pa_nil)))
        (pss_cons (ps_expr (pe_dpop1 (pe_fld (pv 0) rfl) (pv 1) ⟨rfl, rfl, rfl, rfl⟩))
        (pss_one (ps_expr (pe_bm PySem.F.plainAttrs_list PySem.F.slot_list_append PySem.F.type_list_append mt_append (pe_fld (pv 0) rfl) (pa_cons (pv 1) pa_nil))))))), ?_⟩
    refine ⟨fun n σ' H' => ∃ (m' : M) (v : Option V), n = m'.marked.length ∧ σ' = [some (.ref a), v] ∧ LnAt C P H' a A m' ∧ Keeps a A H H' ∧ PreSpare m' ∧ spin m'.marked.length m' = spin m.marked.length m, ⟨_, m, none, rfl, rfl, L, .refl, Pr, rfl⟩, ?_⟩
    rintro n σ' H' ⟨m', v, rfl, rfl, L', K', Pr', es⟩
    obtain ⟨dx, hob⟩ := L'.ob
    obtain ⟨x, r, e⟩ : ∃ x r, m'.line = x :: r := by
      cases h : m'.line with
      | nil => exact absurd h Pr'.ne
      | cons x r => exact ⟨x, r, rfl⟩
    have h0 : (m'.line.map V.int)[0]? = some (V.int x) := by rw [e]; rfl
    have hx : x ∈ m'.line := by rw [e]; exact List.mem_cons_self
    have hlen := Pr'.len
    refine ⟨_, rfl, a, C, dx, _, _, rfl, hob, T.cl, T.n3, lF_line, _, _, _, _, rfl, rfl, SqL.of L'.ln, at_of (j := 0) rfl h0, ?_⟩
    refine ⟨_, rfl, a, C, dx, _, _, rfl, hob, T.cl, T.n6, lF_marked, _, _, rfl, DGet.k (k := ki x) L'.mkd, _, rfl, ?_⟩
    by_cases c : (valV m'.marked (ki x)).isSome = true
    · refine (if_pos c).mpr ?_
      refine ⟨_, fun _ _ h => h, ?_⟩
      refine ⟨_, rfl, a, C, dx, _, _, rfl, hob, T.cl, T.n3, lF_line, ty_l L', ?_⟩
      refine p_line L' e ?_
      have L1 := L'.setLine (l := r) (xs := r.map V.int) rfl
      have K1 : Keeps a A H (upd H' A.l (.lst (r.map V.int))) := K'.trans Keeps.l
      obtain ⟨dx1, hob1⟩ := L1.ob
      obtain ⟨z, hz⟩ := Option.isSome_iff_exists.mp c
      refine ⟨_, rfl, a, C, dx1, _, _, rfl, hob1, T.cl, T.n6, lF_marked, _, rfl, .inl ⟨_, Rd.of L1.mkd⟩, _, rfl, m'.marked, ki x, z, L1.mkd, rfl, hz, ?_⟩
      have L2 := L1.setMarked (kv := dropK m'.marked (ki x))
      obtain ⟨dx2, hob2⟩ := L2.ob
      refine ⟨_, rfl, a, C, dx2, _, _, rfl, hob2, T.cl, T.n3, lF_line, ty_l L2, _, rfl, ?_⟩
      have hr : r.length ≤ 1024 := by
        rw [e, List.length_cons] at hlen
        omega
      refine ⟨A.l, _, _, rfl, rfl, L2.ln, small_map hr, ?_⟩
      obtain ⟨s1, s2⟩ := spin_turn e c Pr'.nd
      have hp : (r ++ [x]).Perm m'.line := by
        rw [e]
        exact List.perm_append_comm (l₂ := [x])
      refine ⟨_, ?_, m'.turn x r, _, rfl, rfl, L2.setLine (l := r ++ [x]) snoc_map, (K1.trans Keeps.k).trans Keeps.l, ⟨?_, ?_, nd_dropK Pr'.nd⟩, s1.trans es⟩
      · omega
      · show r ++ [x] ≠ []
        simp
      · show (r ++ [x]).length ≤ 1024
        rw [hp.length_eq]
        exact hlen
    · refine (if_neg c).mpr ?_
      have ee := spin_stop e c m'.marked.length
      rw [es] at ee
      refine kk _ ?_ K'
      show LnAt C P H' a A (spin m.marked.length m)
      rw [ee]
      exact L'
/-! ### by_uses -/
theorem scBy : FnScope ["self"] ["self"] (defScope sBy) := ⟨rfl, rfl, rfl, by decide +kernel, rfl, by decide +kernel, by decide +kernel⟩
theorem ok_by {f c : Addr} {oc kV doc pm ct : Value} {od an : Option Addr} {osl : Array (Option Value)} (lk : K.lookup f = some ⟨oc, od, .func (PySem.W.fnOf "by_uses" "Cache.by_uses" (defArgs sBy) (defBody sBy) (defScope sBy) .none kV doc pm an (.ref c) ct), osl⟩)
    (hcd : PySem.W.codeIn K (.ref c) "Cache.by_uses" = true) (T : Txt K mg C) (TB : TabB base mg c P) : FnOk Pg w K mg base CX0 4 f (PySem.W.fnOf "by_uses" "Cache.by_uses" (defArgs sBy) (defBody sBy) (defScope sBy) .none kV doc pm an (.ref c) ct) ["self"] (spBy C P) := by
  refine fn_of lk hcd scBy (fun vs H Q E h => ?_) fun A0 outer s H vs Q E hr h => ?_
  · obtain ⟨a, A, m, rfl, _⟩ := h
    rfl
  · obtain ⟨a, A, m, rfl, L, Pr, kk⟩ := h
    have main : ∃ t, PSs (cxOf CX0 Pg w K mg base ["self"] "Cache.by_uses" (defScope sBy) f (.ref c) A0 outer s H E).nox (defBody sBy) t ∧ t { nx := fun _ H' => Q .non H', rt := Q } (L2.start ["self"] [V.ref a]) H := by
      refine ⟨_, pss_one (ps_ret (pe_sortLam (T := tabOf P) (c := c) (P := P) (by rfl) T.srt (pe_fld (pv 0) rfl) TB rfl List.mem_cons_self (fun p hp _ => ?_) hr ⟨rfl, rfl, rfl, by decide +kernel, rfl, rfl, by decide +kernel⟩ rfl (fun _ _ _ _ _ => rfl) rfl rfl)), ?_⟩
      · rw [List.mem_singleton.mp hp]
        rfl
      · obtain ⟨dx, hob⟩ := L.ob
        refine ⟨_, rfl, a, C, dx, _, _, rfl, hob, T.cl, T.n3, lF_line, L.tab, A.l, a, C, dx, A.u, _, m.uses, m.line, Cr.cnt m.uses, rfl, SqL.of L.ln, rfl, hob, T.cl, T.n5, lF_uses, L.us, fun x hx => Pr.whl.at (Pr.all x hx), fun H2 p e t hp => ?_⟩
        exact kk _ p ((L.ext e t).new hp) ((Keeps.ext e).trans (.new hp)) (extN_new e (.of hp)) upd_same
    obtain ⟨t, h1, h2⟩ := main
    exact ⟨t, h1.nox, h2⟩
end
end Cr
namespace Cr
open PySem PySem.Spec PyProof.Rows L2 LamX Sl
theorem Gd.by {m : M} (G : Gd m) : PreBy m := ⟨by have := G.len; omega, G.whl, fun x hx => (G.has x).mpr (List.mem_append.mpr (.inl hx))⟩
theorem byu_perm (m : M) : m.byu.Perm m.line := List.mergeSort_perm _ _
section
variable {Pg : Program} {w : World} {K : PySem.W.Frag} {mg : Str → Option Value} {base : Heap} {C P : Addr}
/-! ### leave -/
theorem scLeave : FnScope ["self", "gone"] ["self"] (defScope sLeave) := ⟨rfl, rfl, rfl, by decide +kernel, rfl, by decide +kernel, by decide +kernel⟩
theorem ok_leave {f fB fS fF : Addr} {fd fdB fdS fdF : FuncData} (F : Fun K "leave" "Cache.leave" sLeave f fd) (T : Txt K mg C) (GB : FnOk Pg w K mg base CX0 4 fB fdB ["self"] (spBy C P)) (bB : Binds K fdB ["self"] []) (mB : Meth K C "by_uses" fB)
    (GS : FnOk Pg w K mg base CX0 1 fS fdS ["self"] (spSpare C P)) (bS : Binds K fdS ["self"] []) (mS : Meth K C "spare_marked" fS) (GF : FnOk Pg w K mg base CX0 2 fF fdF ["self", "key"] (spForget C P)) (bF : Binds K fdF ["self", "key"] []) (mF : Meth K C "forget" fF) :
    FnOk Pg w K mg base CX0 5 f fd ["self"] (spLeave C P) := by
  refine F.ok scLeave (fun vs H Q E h => ?_) (fun cdv A0 outer s H vs Q E hr h => ?_)
  · obtain ⟨a, A, m, rfl, _⟩ := h
    rfl
  · obtain ⟨a, A, m, rfl, L, ⟨Ps, Pb⟩, kk⟩ := h
    have nd := scLeave.nd
    have hr1 : Room 1 _ := hr.mono (by decide)
    have hr2 : Room 2 _ := hr.mono (by decide)
    refine ⟨_, pss_cons (ps_if (pt_cmpR op_eq (pe_fld (pv 0) rfl) pe_int (nomark _))
        (pss_one (ps_set (i := 1) nd rfl (Or.inl rfl) (pe_ix ix_list (pe_meth0 (pv 0) T.cl mB GB hr bB .nil pass0) pe_int (fun _ _ => rfl))))
        (pss_cons (ps_expr (pe_meth0 (pv 0) T.cl mS GS hr1 bS .nil pass0))
          (pss_one (ps_set (i := 1) nd rfl (Or.inl rfl) (pe_ix ix_list (pe_fld (pv 0) rfl) pe_int (fun _ _ => rfl))))))
      (pss_cons (ps_expr (pe_meth (pv 0) T.cl mF GF hr2 bF .nil pass0 (by exact (pa_cons (pv 1) pa_nil))))
      (pss_one (ps_ret (pv 1)))), ?_⟩
    obtain ⟨dx, hob⟩ := L.ob
    refine ⟨_, rfl, a, C, dx, _, _, rfl, hob, T.cl, T.n1, lF_rule, rfl, _, rfl, ?_⟩
    by_cases c2 : m.rule = 2
    · refine eq_yes c2 ?_
      have hp := byu_perm m
      obtain ⟨x, r, e⟩ : ∃ x r, m.byu = x :: r := by
        cases h : m.byu with
        | nil =>
          rw [h] at hp
          exact absurd (List.nil_perm.mp hp) Ps.ne
        | cons x r => exact ⟨x, r, rfl⟩
      have hx : x ∈ m.line := hp.mem_iff.mp (by rw [e]; exact List.mem_cons_self)
      have eg : m.qgo = x := by
        unfold M.qgo
        rw [if_pos c2, e]
        rfl
      have el : m.qleave = m.forget x := by
        unfold M.qleave
        rw [if_pos c2, eg]
      refine ⟨_, rfl, a, dx, _, rfl, hob, lF_by, a, A, m, rfl, L, Pb, fun H1 p L1 K1 n1 h1 => ?_⟩
      have h0 : (m.byu.map V.int)[0]? = some (V.int x) := by rw [e]; rfl
      refine ⟨_, _, _, _, rfl, rfl, SqL.of h1, at_of (j := 0) rfl h0, ?_⟩
      have L1 : LnAt C P H1 a A m := L1
      obtain ⟨dx1, hob1⟩ := L1.ob
      refine ⟨_, rfl, a, dx1, _, rfl, hob1, lF_forget, _, rfl, a, A, m, x, rfl, L1, ⟨List.mem_append.mpr (.inl hx), Pb.all x hx⟩, fun H2 L2 K2 => ?_⟩
      have kk : ∀ H' : Hp, LnAt C P H' a A m.qleave → Keeps a A H H' → Q (.int m.qgo) H' := kk
      rw [eg, el] at kk
      exact ⟨_, rfl, kk _ L2 (K1.trans K2)⟩
    · refine eq_no c2 ?_
      refine ⟨_, rfl, a, dx, _, rfl, hob, lF_spare, a, A, m, rfl, L, Ps, fun H1 L1 K1 => ?_⟩
      obtain ⟨s1, s2, s3, s4, s5⟩ := spin_same m.marked.length m
      have s4 : m.spun.uses = m.uses := s4
      have s5 : m.spun.line.Perm m.line := s5
      obtain ⟨x, r, e⟩ : ∃ x r, m.spun.line = x :: r := by
        cases h : m.spun.line with
        | nil =>
          rw [h] at s5
          exact absurd (List.nil_perm.mp s5) Ps.ne
        | cons x r => exact ⟨x, r, rfl⟩
      have hxs : x ∈ m.spun.line := by rw [e]; exact List.mem_cons_self
      have hx : x ∈ m.line := s5.mem_iff.mp hxs
      have eg : m.qgo = x := by
        unfold M.qgo
        rw [if_neg c2, e]
        rfl
      have el : m.qleave = m.spun.forget x := by
        unfold M.qleave
        rw [if_neg c2, eg]
      have h0 : (m.spun.line.map V.int)[0]? = some (V.int x) := by rw [e]; rfl
      obtain ⟨dx1, hob1⟩ := L1.ob
      refine ⟨_, rfl, a, C, dx1, _, _, rfl, hob1, T.cl, T.n3, lF_line, _, _, _, _, rfl, rfl, SqL.of L1.ln, at_of (j := 0) rfl h0, ?_⟩
      refine ⟨_, rfl, a, dx1, _, rfl, hob1, lF_forget, _, rfl, a, A, m.spun, x, rfl, L1, ⟨List.mem_append.mpr (.inl hxs), by rw [s4]; exact Pb.all x hx⟩, fun H2 L2 K2 => ?_⟩
      have kk : ∀ H' : Hp, LnAt C P H' a A m.qleave → Keeps a A H H' → Q (.int m.qgo) H' := kk
      rw [eg, el] at kk
      exact ⟨_, rfl, kk _ L2 (K1.trans K2)⟩
/-! ### order -/
theorem scOrd : FnScope ["self", "keys"] ["self"] (defScope sOrd) := ⟨rfl, rfl, rfl, by decide +kernel, rfl, by decide +kernel, by decide +kernel⟩
theorem ok_ord {f fB : Addr} {fd fdB : FuncData} (F : Fun K "order" "Cache.order" sOrd f fd) (T : Txt K mg C) (GB : FnOk Pg w K mg base CX0 4 fB fdB ["self"] (spBy C P)) (bB : Binds K fdB ["self"] []) (mB : Meth K C "by_uses" fB) :
    FnOk Pg w K mg base CX0 5 f fd ["self"] (spOrd C P) := by
  refine F.ok scOrd (fun vs H Q E h => ?_) (fun cdv A0 outer s H vs Q E hr h => ?_)
  · obtain ⟨a, A, m, rfl, _⟩ := h
    rfl
  · obtain ⟨a, A, m, rfl, L, G, kk⟩ := h
    have nd := scOrd.nd
    have hlen := G.len
    refine ⟨_, pss_cons (ps_set (i := 1) nd rfl (Or.inl rfl) (pe_op op_cat (pe_fld (pv 0) rfl) (pe_fld (pv 0) rfl)))
      (pss_cons (ps_if (pt_cmpR op_eq (pe_fld (pv 0) rfl) pe_int (nomark _))
        (pss_one (ps_set (i := 1) nd rfl (Or.inl rfl) (pe_meth0 (pv 0) T.cl mB GB hr bB .nil pass0))) pss_nil)
      (pss_one (ps_ret (pe_op op_cat (pe_lst (pa_cons (pe_callB call_len_seq (by rfl) T.len PySem.boot_len (pa_cons (pv 1) pa_nil)) pa_nil)) (pv 1))))), ?_⟩
    obtain ⟨dx, hob⟩ := L.ob
    have kk : ∀ (H' : Hp) (p : Addr), LnAt C P H' a A m → Keeps a A H H' → NewAt H p → H' p = some (.lst (((m.qord.length : Int) :: m.qord).map V.int)) → Q (.ref p) H' := kk
    refine ⟨_, rfl, a, C, dx, _, _, rfl, hob, T.cl, T.n3, lF_line, _, rfl, a, C, dx, _, _, rfl, hob, T.cl, T.n4, lF_safe, A.l, A.s, _, _, rfl, rfl, L.ln, L.sf, ?_, fun p hp => ?_⟩
    · rw [List.length_map, List.length_map]
      exact Nat.le_of_lt (line_small hlen)
    have L1 := L.new (o := .lst (m.line.map V.int ++ m.safe.map V.int)) hp
    have K1 : Keeps a A H (upd H p (.lst (m.line.map V.int ++ m.safe.map V.int))) := .new hp
    have n1 : NewAt H p := .of hp
    have h1 : (upd H p (.lst (m.line.map V.int ++ m.safe.map V.int)) : Hp) p = some (.lst ((m.line ++ m.safe).map V.int)) := by
      rw [List.map_append]
      exact upd_same
    generalize upd H p (.lst (m.line.map V.int ++ m.safe.map V.int)) = H1 at L1 K1 h1
    obtain ⟨dx1, hob1⟩ := L1.ob
    refine ⟨_, rfl, a, C, dx1, _, _, rfl, hob1, T.cl, T.n1, lF_rule, rfl, _, rfl, ?_⟩
    by_cases c2 : m.rule = 2
    · refine eq_yes c2 ?_
      have eo : m.qord = m.byu := if_pos c2
      rw [eo] at kk
      have hbl : m.byu.length ≤ 1024 := by
        rw [(byu_perm m).length_eq]
        omega
      refine ⟨_, rfl, a, dx1, _, rfl, hob1, lF_by, a, A, m, rfl, L1, G.by, fun H2 p2 L2 K2 n2 h2 => ?_⟩
      refine ⟨_, rfl, p2, _, rfl, .inl (SqL.of h2), (by show 1 ≤ sizeLine; decide), fun q hq => ?_⟩
      have L2 : LnAt C P H2 a A m := L2
      refine ⟨_, rfl, q, p2, _, _, rfl, rfl, upd_same, by rw [upd_ne (ne_of_none h2 hq)]; exact h2, ?_, fun z hz => ?_⟩
      · rw [List.length_map]
        have := small (n := 1 + m.byu.length) (by omega)
        exact Nat.le_of_lt this
      have L3 := L2.new (o := .lst [.int ((m.byu.map V.int).length : Int)]) hq
      refine kk _ z (L3.new hz) (((K1.trans K2).trans (.new hq)).trans (.new hz)) (((K1.trans K2).trans (.new hq)).newAt L3 (.of hz)) ?_
      rw [upd_same, List.length_map]
      rfl
    · refine eq_no c2 ?_
      have eo : m.qord = m.line ++ m.safe := if_neg c2
      rw [eo] at kk
      have hbl : (m.line ++ m.safe).length ≤ 1024 := by
        rw [List.length_append]
        exact hlen
      refine ⟨_, rfl, p, _, rfl, .inl (SqL.of h1), (by show 1 ≤ sizeLine; decide), fun q hq => ?_⟩
      refine ⟨_, rfl, q, p, _, _, rfl, rfl, upd_same, by rw [upd_ne (ne_of_none h1 hq)]; exact h1, ?_, fun z hz => ?_⟩
      · rw [List.length_map]
        have := small (n := 1 + (m.line ++ m.safe).length) (by omega)
        exact Nat.le_of_lt this
      have L3 := L1.new (o := .lst [.int (((m.line ++ m.safe).map V.int).length : Int)]) hq
      refine kk _ z (L3.new hz) ((K1.trans (.new hq)).trans (.new hz)) ((K1.trans (.new hq)).newAt L3 (.of hz)) ?_
      rw [upd_same, List.length_map]
      rfl
end
end Cr
namespace Cr
open PySem PySem.Spec PyProof.Rows L2 LamX Sl
theorem out_len (m : M) (k : Int) : (m.out k).line.length ≤ m.line.length ∧ (m.out k).safe.length ≤ m.safe.length := by
  unfold M.out
  split
  · exact ⟨Nat.le_refl _, List.length_erase_le⟩
  · exact ⟨List.length_erase_le, Nat.le_refl _⟩
theorem qleave_len (m : M) : m.qleave.line.length ≤ m.line.length ∧ m.qleave.uses.length ≤ m.uses.length := by
  obtain ⟨s1, s2, s3, s4, s5⟩ := spin_same m.marked.length m
  unfold M.qleave
  split
  · refine ⟨(out_len m m.qgo).1, ?_⟩
    show (dropK (m.out m.qgo).uses _).length ≤ _
    rw [out_uses]
    exact dropK_le _ _
  · refine ⟨Nat.le_trans (out_len m.spun m.qgo).1 (Nat.le_of_eq s5.length_eq), ?_⟩
    show (dropK (m.spun.out m.qgo).uses _).length ≤ _
    rw [out_uses]
    refine Nat.le_trans (dropK_le _ _) (Nat.le_of_eq ?_)
    show (spin m.marked.length m).uses.length = _
    rw [s4]
section
variable {Pg : Program} {w : World} {K : PySem.W.Frag} {mg : Str → Option Value} {base : Heap} {C P : Addr}
/-! ### use_again -/
theorem scAgain : FnScope ["self", "key"] ["self", "key"] (defScope sAgain) := ⟨rfl, rfl, rfl, by decide +kernel, rfl, by decide +kernel, by decide +kernel⟩
theorem ok_again {f fO fB : Addr} {fd fdO fdB : FuncData} (F : Fun K "use_again" "Cache.use_again" sAgain f fd) (T : Txt K mg C) (GO : FnOk Pg w K mg base CX0 1 fO fdO ["self", "key"] (spOut C P)) (bO : Binds K fdO ["self", "key"] []) (mO : Meth K C "take_out" fO)
    (GB : FnOk Pg w K mg base CX0 1 fB fdB ["self"] (spBack C P)) (bB : Binds K fdB ["self"] []) (mB : Meth K C "give_back" fB) : FnOk Pg w K mg base CX0 2 f fd ["self", "key"] (spAgain C P) := by
  obtain ⟨tU, gU⟩ := T.gU
  refine F.ok scAgain (fun vs H Q E h => ?_) (fun cdv A0 outer s H vs Q E hr h => ?_)
  · obtain ⟨a, A, m, k, rfl, _⟩ := h
    rfl
  · obtain ⟨a, A, m, k, rfl, L, ⟨G, hk⟩, kk⟩ := h
    have kk : ∀ H' : Hp, LnAt C P H' a A (m.qagain k) → Keeps a A H H' → Q .non H' := kk
    have hu := hu_of hr
    refine ⟨_, pss_cons (ps_dput hu (pe_fld (pv 0) rfl) (pv 1) (pe_callB (call_min2 rfl) (by rfl) T.min (by decide +kernel) (pa_cons (pe_op op_add (pe_dget hu (pe_fld (pv 0) rfl) (pv 1) (fun _ _ => rfl)) pe_int) (pa_cons (pe_glob (v := .int 4294967295) rfl gU ⟨_, rfl⟩) pa_nil))) rfl)
      (pss_one (ps_if (PW.pt (pw_or (pt_cmpR op_eq (pe_fld (pv 0) rfl) pe_int (nomark _)) (pw_or1 (pt_cmpR op_eq (pe_fld (pv 0) rfl) pe_int (nomark _)))))
        (pss_cons (ps_expr (pe_meth (pv 0) T.cl mO GO hr bO .nil pass0 (by exact (pa_cons (pv 1) pa_nil))))
          (pss_one (ps_expr (pe_bm PySem.F.plainAttrs_list PySem.F.slot_list_append PySem.F.type_list_append mt_append (pe_fld (pv 0) rfl) (pa_cons (pv 1) pa_nil)))))
        (pss_one (ps_if (pt_cmpR op_eq (pe_fld (pv 0) rfl) pe_int (nomark _))
          (pss_one (ps_dput hu (pe_fld (pv 0) rfl) (pv 1) pe_bl rfl))
          (pss_one (ps_if (pt_cmpR op_eq (pe_fld (pv 0) rfl) pe_int (nomark _))
            (pss_cons (ps_expr (pe_meth (pv 0) T.cl mO GO hr bO .nil pass0 (by exact (pa_cons (pv 1) pa_nil))))
              (pss_cons (ps_expr (pe_bm PySem.F.plainAttrs_list PySem.F.slot_list_append PySem.F.type_list_append mt_append (pe_fld (pv 0) rfl) (pa_cons (pv 1) pa_nil)))
              (pss_one (ps_expr (pe_meth0 (pv 0) T.cl mB GB hr bB .nil pass0)))))
            pss_nil)))))), ?_⟩
    obtain ⟨dx, hob⟩ := L.ob
    have hl := G.len
    have hh := (G.has k).mpr hk
    have dg : DGet H A.u (.int k) (some (.int (Cr.cnt m.uses k))) := L.cnt G.whl hh
    refine ⟨_, rfl, a, C, dx, _, _, rfl, hob, T.cl, T.n5, lF_uses, _, rfl, _, _, rfl, dg, _, _, rfl, rfl, _, _, rfl, ?_⟩
    refine ⟨_, rfl, a, C, dx, _, _, rfl, hob, T.cl, T.n5, lF_uses, _, rfl, _, _, rfl, DPut.k (k := ki k) (v := .int (after (Cr.cnt m.uses k))) L.us (line_small G.ulen), ?_⟩
    have L1 : LnAt C P (upd H A.u (.dK (putK m.uses (ki k) (V.int (after (Cr.cnt m.uses k)))))) a A (m.count k) := L.setUses
    have K1 : Keeps a A H (upd H A.u (.dK (putK m.uses (ki k) (V.int (after (Cr.cnt m.uses k)))))) := Keeps.u
    generalize upd H A.u (.dK (putK m.uses (ki k) (V.int (after (Cr.cnt m.uses k))))) = H1 at L1 K1
    obtain ⟨dx1, hob1⟩ := L1.ob
    have hol := out_len (m.count k) k
    have hol1 : ((m.count k).out k).line.length ≤ m.line.length := hol.1
    have hol2 : ((m.count k).out k).safe.length ≤ m.safe.length := hol.2
    refine ⟨_, rfl, a, C, dx1, _, _, rfl, hob1, T.cl, T.n1, lF_rule, rfl, _, rfl, ?_⟩
    by_cases c1 : m.rule = 1
    · refine eq_yes c1 ?_
      refine (if_pos rfl).mpr ?_
      refine ⟨_, rfl, a, dx1, _, rfl, hob1, lF_out, _, rfl, a, A, m.count k, k, rfl, L1, hk, fun H2 L2 K2 => ?_⟩
      obtain ⟨dx2, hob2⟩ := L2.ob
      refine ⟨_, rfl, a, C, dx2, _, _, rfl, hob2, T.cl, T.n3, lF_line, ty_l L2, _, rfl, A.l, _, _, rfl, rfl, L2.ln, small_map (by omega), ?_⟩
      refine kk _ ?_ ((K1.trans K2).trans .l)
      have e : m.qagain k = ((m.count k).out k).snoc k := if_pos (.inl c1)
      rw [e]
      exact L2.setLine snoc_map
    refine eq_no c1 ?_
    refine ⟨_, rfl, a, C, dx1, _, _, rfl, hob1, T.cl, T.n1, lF_rule, rfl, _, rfl, ?_⟩
    by_cases c2 : m.rule = 2
    · refine (if_pos (decide_eq_true (congrArg V.int c2))).mpr ?_
      refine ⟨_, rfl, a, dx1, _, rfl, hob1, lF_out, _, rfl, a, A, m.count k, k, rfl, L1, hk, fun H2 L2 K2 => ?_⟩
      obtain ⟨dx2, hob2⟩ := L2.ob
      refine ⟨_, rfl, a, C, dx2, _, _, rfl, hob2, T.cl, T.n3, lF_line, ty_l L2, _, rfl, A.l, _, _, rfl, rfl, L2.ln, small_map (by omega), ?_⟩
      refine kk _ ?_ ((K1.trans K2).trans .l)
      have e : m.qagain k = ((m.count k).out k).snoc k := if_pos (.inr c2)
      rw [e]
      exact L2.setLine snoc_map
    have c12 : ¬ (m.rule = 1 ∨ m.rule = 2) := fun z => z.elim c1 c2
    refine eq_no c2 ?_
    refine ⟨_, rfl, a, C, dx1, _, _, rfl, hob1, T.cl, T.n1, lF_rule, rfl, _, rfl, ?_⟩
    by_cases c3 : m.rule = 3
    · refine eq_yes c3 ?_
      have hml := G.mlen
      refine ⟨_, rfl, a, C, dx1, _, _, rfl, hob1, T.cl, T.n6, lF_marked, _, rfl, _, _, rfl, DPut.k (k := ki k) L1.mkd (line_small (by show m.marked.length ≤ 1024; omega)), ?_⟩
      refine kk _ ?_ (K1.trans Keeps.k)
      have e : m.qagain k = (m.count k).mark k := by
        unfold M.qagain
        rw [if_neg c12, if_pos c3]
      rw [e]
      exact L1.setMarked
    refine eq_no c3 ?_
    refine ⟨_, rfl, a, C, dx1, _, _, rfl, hob1, T.cl, T.n1, lF_rule, rfl, _, rfl, ?_⟩
    by_cases c4 : m.rule = 4
    · refine eq_yes c4 ?_
      refine ⟨_, rfl, a, dx1, _, rfl, hob1, lF_out, _, rfl, a, A, m.count k, k, rfl, L1, hk, fun H2 L2 K2 => ?_⟩
      obtain ⟨dx2, hob2⟩ := L2.ob
      refine ⟨_, rfl, a, C, dx2, _, _, rfl, hob2, T.cl, T.n4, lF_safe, ty_s L2, _, rfl, A.s, _, _, rfl, rfl, L2.sf, small_map (by omega), ?_⟩
      have L3 : LnAt C P (upd H2 A.s (.lst (((m.count k).out k).safe.map V.int ++ [V.int k]))) a A (((m.count k).out k).snocS k) := L2.setSafe (l := ((m.count k).out k).safe ++ [k]) snoc_map
      have K3 : Keeps a A H (upd H2 A.s (.lst (((m.count k).out k).safe.map V.int ++ [V.int k]))) := (K1.trans K2).trans .s
      generalize upd H2 A.s (.lst (((m.count k).out k).safe.map V.int ++ [V.int k])) = H3 at L3 K3
      obtain ⟨dx3, hob3⟩ := L3.ob
      refine ⟨_, rfl, a, dx3, _, rfl, hob3, lF_back, a, A, ((m.count k).out k).snocS k, rfl, L3, ⟨(by show ((m.count k).out k).safe ++ [k] ≠ []; simp), (by show ((m.count k).out k).line.length ≤ 1024; omega)⟩, fun H4 L4 K4 => ?_⟩
      refine kk H4 ?_ (K3.trans K4)
      have e : m.qagain k = (((m.count k).out k).snocS k).back := by
        unfold M.qagain
        rw [if_neg c12, if_neg c3, if_pos c4]
      rw [e]
      exact L4
    refine eq_no c4 ?_
    refine kk _ ?_ K1
    have e : m.qagain k = m.count k := by
      unfold M.qagain
      rw [if_neg c12, if_neg c3, if_neg c4]
    rw [e]
    exact L1
/-! ### use -/
theorem scUse : FnScope ["self", "key", "answer"] ["self", "key"] (defScope sUse) := ⟨rfl, rfl, rfl, by decide +kernel, rfl, by decide +kernel, by decide +kernel⟩
theorem ok_use {f fA fL : Addr} {fd fdA fdL : FuncData} (F : Fun K "use" "Cache.use" sUse f fd) (T : Txt K mg C) (GA : FnOk Pg w K mg base CX0 2 fA fdA ["self", "key"] (spAgain C P)) (bA : Binds K fdA ["self", "key"] []) (mA : Meth K C "use_again" fA)
    (GL : FnOk Pg w K mg base CX0 5 fL fdL ["self"] (spLeave C P)) (bL : Binds K fdL ["self"] []) (mL : Meth K C "leave" fL) : FnOk Pg w K mg base CX0 6 f fd ["self", "key"] (spUse C P) := by
  refine F.ok scUse (fun vs H Q E h => ?_) (fun cdv A0 outer s H vs Q E hr h => ?_)
  · obtain ⟨a, A, m, k, rfl, _⟩ := h
    rfl
  · obtain ⟨a, A, m, k, rfl, L, G, kk⟩ := h
    have kk : ∀ (H' : Hp) (p : Addr), LnAt C P H' a A (m.quse k) → Keeps a A H H' → NewAt H p → H' p = some (.lst ((if m.has k = true then [1] else if (m.uses.length : Int) = m.room then [2, m.qgo] else [0]).map V.int)) → Q (.ref p) H' := kk
    have hun := hu_of hr
    have nd := scUse.nd
    have hr2 : Room 2 _ := hr.mono (by decide)
    have hl := G.len
    refine ⟨_, pss_cons (ps_if (pt_cmp (pc_din hun (pv 1) (pe_fld (pv 0) rfl)))
        (pss_cons (ps_expr (pe_meth (pv 0) T.cl mA GA hr2 bA .nil pass0 (by exact (pa_cons (pv 1) pa_nil)))) (pss_one (ps_ret (pe_lst (pa_cons pe_int pa_nil))))) pss_nil)
      (pss_cons (ps_set (i := 2) nd rfl (Or.inl rfl) (pe_lst (pa_cons pe_int pa_nil)))
      (pss_cons (ps_if (pt_cmpR op_eq (pe_callB call_lenD (by rfl) T.len PySem.boot_len (pa_cons (pe_fld (pv 0) rfl) pa_nil)) (pe_fld (pv 0) rfl) (nomark _))
        (pss_one (ps_set (i := 2) nd rfl (Or.inl rfl) (pe_lst (pa_cons pe_int (pa_cons (pe_meth0 (pv 0) T.cl mL GL hr bL .nil pass0) pa_nil))))) pss_nil)
      (pss_cons (ps_expr (pe_bm PySem.F.plainAttrs_list PySem.F.slot_list_append PySem.F.type_list_append mt_append (pe_fld (pv 0) rfl) (pa_cons (pv 1) pa_nil)))
      (pss_cons (ps_dput hun (pe_fld (pv 0) rfl) (pv 1) pe_int rfl)
      (pss_one (ps_ret (pv 2))))))), ?_⟩
    obtain ⟨dx, hob⟩ := L.ob
    refine ⟨_, rfl, _, rfl, a, C, dx, _, _, rfl, hob, T.cl, T.n5, lF_uses, A.u, _, rfl, DGet.k (k := ki k) L.us, _, rfl, ?_⟩
    by_cases c : (valV m.uses (ki k)).isSome = true
    · refine (if_pos c).mpr ?_
      have eh : m.has k = true := c
      have eq : m.quse k = m.qagain k := if_pos eh
      rw [if_pos eh, eq] at kk
      refine ⟨_, rfl, a, dx, _, rfl, hob, lF_again, _, rfl, a, A, m, k, rfl, L, ⟨G, (G.has k).mp c⟩, fun H1 L1 K1 => ?_⟩
      exact ⟨(by show 1 ≤ sizeLine; decide), fun p hp => kk _ p (L1.new hp) (K1.trans (.new hp)) (K1.newAt L1 (.of hp)) upd_same⟩
    · refine (if_neg c).mpr ?_
      have eh : ¬ m.has k = true := c
      rw [if_neg eh] at kk
      refine ⟨(by show 1 ≤ sizeLine; decide), fun p hp => ?_⟩
      have L1 := L.new (o := .lst [.int 0]) hp
      have K1 : Keeps a A H (upd H p (.lst [.int 0])) := .new hp
      have h1 : (upd H p (.lst [.int 0]) : Hp) p = some (.lst [.int 0]) := upd_same
      have n1 : NewAt H p := .of hp
      generalize upd H p (.lst [.int 0]) = H1 at L1 K1 h1
      obtain ⟨dx1, hob1⟩ := L1.ob
      refine ⟨_, rfl, a, C, dx1, _, _, rfl, hob1, T.cl, T.n5, lF_uses, A.u, _, rfl, L1.us, ?_⟩
      refine ⟨_, rfl, a, C, dx1, _, _, rfl, hob1, T.cl, T.n2, lF_room, rfl, _, rfl, ?_⟩
      by_cases c2 : (m.uses.length : Int) = m.room
      · refine eq_yes c2 ?_
        have eq : m.quse k = m.qleave.qcome k := by
          unfold M.quse
          rw [if_neg eh, if_pos c2]
        rw [if_pos c2, eq] at kk
        refine ⟨_, rfl, a, dx1, _, rfl, hob1, lF_leave, a, A, m, rfl, L1, ⟨⟨G.full c2, by omega, G.mnd⟩, G.by⟩, fun H2 L2 K2 => ?_⟩
        refine ⟨(by show 2 ≤ sizeLine; decide), fun p2 hp2 => ?_⟩
        have L3 := L2.new (o := .lst [.int 2, .int m.qgo]) hp2
        have K3 : Keeps a A H (upd H2 p2 (.lst [.int 2, .int m.qgo])) := (K1.trans K2).trans (.new hp2)
        have h3 : (upd H2 p2 (.lst [.int 2, .int m.qgo]) : Hp) p2 = some (.lst ([2, m.qgo].map V.int)) := upd_same
        have n3 : NewAt H p2 := (K1.trans K2).newAt L2 (.of hp2)
        generalize upd H2 p2 (.lst [.int 2, .int m.qgo]) = H3 at L3 K3 h3
        have ql := qleave_len m
        have hul := G.ulen
        obtain ⟨dx3, hob3⟩ := L3.ob
        have npl : p2 ≠ A.l := fun z => (n3 A.l _ L.ln plain_lst.1 z.symm)
        have npu : p2 ≠ A.u := fun z => (n3 A.u _ L.us plain_dK.1 z.symm)
        refine ⟨_, rfl, a, C, dx3, _, _, rfl, hob3, T.cl, T.n3, lF_line, ty_l L3, _, rfl, A.l, _, _, rfl, rfl, L3.ln, small_map (by omega), ?_⟩
        have L4 := L3.setLine (l := m.qleave.line ++ [k]) snoc_map
        obtain ⟨dx4, hob4⟩ := L4.ob
        refine ⟨_, rfl, a, C, dx4, _, _, rfl, hob4, T.cl, T.n5, lF_uses, _, rfl, _, _, rfl, DPut.k (k := ki k) L4.us (line_small (by show m.qleave.uses.length ≤ 1024; omega)), ?_⟩
        refine ⟨_, rfl, ?_⟩
        refine kk _ p2 L4.setUses ((K3.trans .l).trans .u) n3 ?_
        rw [upd_ne npu, upd_ne npl]
        exact h3
      · refine eq_no c2 ?_
        have eq : m.quse k = m.qcome k := by
          unfold M.quse
          rw [if_neg eh, if_neg c2]
        rw [if_neg c2, eq] at kk
        have hul := G.ulen
        have npl : p ≠ A.l := fun z => (n1 A.l _ L.ln plain_lst.1 z.symm)
        have npu : p ≠ A.u := fun z => (n1 A.u _ L.us plain_dK.1 z.symm)
        refine ⟨_, rfl, a, C, dx1, _, _, rfl, hob1, T.cl, T.n3, lF_line, ty_l L1, _, rfl, A.l, _, _, rfl, rfl, L1.ln, small_map (by omega), ?_⟩
        have L4 := L1.setLine (l := m.line ++ [k]) snoc_map
        obtain ⟨dx4, hob4⟩ := L4.ob
        refine ⟨_, rfl, a, C, dx4, _, _, rfl, hob4, T.cl, T.n5, lF_uses, _, rfl, _, _, rfl, DPut.k (k := ki k) L4.us (line_small (by show m.uses.length ≤ 1024; omega)), ?_⟩
        refine ⟨_, rfl, ?_⟩
        refine kk _ p L4.setUses ((K1.trans .l).trans .u) n1 ?_
        rw [upd_ne npu, upd_ne npl]
        exact h1
end
end Cr
namespace S3
theorem flat_cut {cs : List Cl} {i : Nat} {c : Cl} (h : cs[i]? = some c) : ((flat cs).drop (place cs i)).take c.nums.length = c.nums := by
  have e : cs = cs.take i ++ c :: cs.drop (i + 1) := by
    have hl := (List.getElem?_eq_some_iff.mp h).1
    have h2 := (List.getElem?_eq_some_iff.mp h).2
    conv => lhs; rw [← List.take_append_drop i cs]
    rw [List.drop_eq_getElem_cons hl, h2]
  have e2 : flat cs = flat (cs.take i) ++ (c.nums ++ flat (cs.drop (i + 1))) := by
    conv => lhs; rw [e]
    unfold flat
    rw [List.flatMap_append, List.flatMap_cons]
  rw [e2]
  unfold place
  rw [List.drop_left, List.take_left]
theorem place_le {cs : List Cl} {i : Nat} {c : Cl} (h : cs[i]? = some c) : place cs i + c.nums.length ≤ (flat cs).length := by
  have e := congrArg List.length (flat_cut h)
  rw [List.length_take, List.length_drop] at e
  have hp := nums_pos c
  omega
def lenOf (k : Int) : Int := if k = 1 then 3 else if k = 5 then 1 else 2
def kind (c : Cl) : Int := c.nums.headD 0
theorem kind_at (c : Cl) : c.nums[0]? = some (kind c) := by cases c <;> rfl
theorem len_kind (c : Cl) : lenOf (kind c) = (c.nums.length : Int) := by cases c <;> rfl
end S3
namespace Cr
open PySem PySem.Spec PyProof.Rows L2 LamX Sl
open S3 (Cl)
def spLen : Sp := fun vs H Q _ => ∃ k : Int, vs = [.int k] ∧ Q (.int (S3.lenOf k)) H
def spAns (C P : Addr) : Sp := fun vs H Q _ => ∃ (a l : Addr) (A : Ad) (m : M) (c : Cl), vs = [.ref a, .ref l] ∧ LnAt C P H a A m ∧ H l = some (.lst (c.nums.map V.int)) ∧ ((∃ r n, c = .beg r n) ∨ Gd m) ∧
  ∀ (H' : Hp) (A' : Ad) (p : Addr), LnAt C P H' a A' (nextQ m c) → Keeps a A H H' → Moved H A A' → NewAt H p → H' p = some (.lst ((ansQ m c).map V.int)) → Q (.ref p) H'
section
variable {Pg : Program} {w : World} {K : PySem.W.Frag} {mg : Str → Option Value} {base : Heap} {C P : Addr}
/-! ### length_of, answer_of -/
theorem scLen : FnScope ["kind"] ["kind"] (defScope sLen) := ⟨rfl, rfl, rfl, by decide +kernel, rfl, by decide +kernel, by decide +kernel⟩
theorem ok_len {f : Addr} {fd : FuncData} (F : Fun K "length_of" "length_of" sLen f fd) (T : Txt K mg C) : FnOk Pg w K mg base CX0 1 f fd ["kind"] spLen := by
  obtain ⟨t1, g1⟩ := T.g1
  obtain ⟨t5, g5⟩ := T.g5
  refine F.ok scLen (fun vs H Q E h => ?_) (fun cdv A0 outer s H vs Q E hr h => ?_)
  · obtain ⟨k, rfl, _⟩ := h
    rfl
  · obtain ⟨k, rfl, kk⟩ := h
    refine ⟨_, pss_cons (ps_if (pt_cmpR op_eq (pv 0) (pe_glob (v := .int 1) rfl g1 ⟨_, rfl⟩) (nomark _)) (pss_one (ps_ret pe_int)) pss_nil)
      (pss_cons (ps_if (pt_cmpR op_eq (pv 0) (pe_glob (v := .int 5) rfl g5 ⟨_, rfl⟩) (nomark _)) (pss_one (ps_ret pe_int)) pss_nil) (pss_one (ps_ret pe_int))), ?_⟩
    unfold S3.lenOf at kk
    refine ⟨_, rfl, rfl, _, rfl, ?_⟩
    by_cases c1 : k = 1
    · rw [if_pos c1] at kk
      exact eq_yes c1 kk
    · rw [if_neg c1] at kk
      refine eq_no c1 ?_
      refine ⟨_, rfl, rfl, _, rfl, ?_⟩
      by_cases c5 : k = 5
      · rw [if_pos c5] at kk
        exact eq_yes c5 kk
      · rw [if_neg c5] at kk
        exact eq_no c5 kk
theorem scAns : FnScope ["cache", "call", "kind"] ["cache", "call"] (defScope sAns) := ⟨rfl, rfl, rfl, by decide +kernel, rfl, by decide +kernel, by decide +kernel⟩
theorem ok_ans {f fB fU fD fH fO : Addr} {fd fdB fdU fdD fdH fdO : FuncData} (F : Fun K "answer_of" "answer_of" sAns f fd) (T : Txt K mg C)
    (GB : FnOk Pg w K mg base CX0 1 fB fdB ["self", "rule", "room"] (spBeg C P)) (bB : Binds K fdB ["self", "rule", "room"] []) (mB : Meth K C "begin" fB)
    (GU : FnOk Pg w K mg base CX0 6 fU fdU ["self", "key"] (spUse C P)) (bU : Binds K fdU ["self", "key"] []) (mU : Meth K C "use" fU)
    (GD : FnOk Pg w K mg base CX0 3 fD fdD ["self", "key"] (spDrop C P)) (bD : Binds K fdD ["self", "key"] []) (mD : Meth K C "drop" fD)
    (GH : FnOk Pg w K mg base CX0 1 fH fdH ["self", "key"] (spHolds C P)) (bH : Binds K fdH ["self", "key"] []) (mH : Meth K C "holds" fH)
    (GO : FnOk Pg w K mg base CX0 5 fO fdO ["self"] (spOrd C P)) (bO : Binds K fdO ["self"] []) (mO : Meth K C "order" fO) :
    FnOk Pg w K mg base CX0 7 f fd ["cache", "call"] (spAns C P) := by
  obtain ⟨t1, g1⟩ := T.g1
  obtain ⟨t2, g2⟩ := T.g2
  obtain ⟨t3, g3⟩ := T.g3
  obtain ⟨t4, g4⟩ := T.g4
  refine F.ok scAns (fun vs H Q E h => ?_) (fun cdv A0 outer s H vs Q E hr h => ?_)
  · obtain ⟨a, l, A, m, c, rfl, _⟩ := h
    rfl
  · obtain ⟨a, l, A, m, c, rfl, L, hl, hc, kk⟩ := h
    have nd := scAns.nd
    have hr1 : Room 1 _ := hr.mono (by decide)
    have hr3 : Room 3 _ := hr.mono (by decide)
    have hr5 : Room 5 _ := hr.mono (by decide)
    refine ⟨_, pss_cons (ps_set (i := 2) nd rfl (Or.inl rfl) (pe_ix ix_list (pv 1) pe_int (fun _ _ => rfl)))
      (pss_cons (ps_if (pt_cmpR op_eq (pv 2) (pe_glob (v := .int 1) rfl g1 ⟨_, rfl⟩) (nomark _))
        (pss_one (ps_ret (pe_meth (pv 0) T.cl mB GB hr1 bB .nil pass0 (by exact (pa_cons (pe_ix ix_list (pv 1) pe_int (fun _ _ => rfl)) (pa_cons (pe_ix ix_list (pv 1) pe_int (fun _ _ => rfl)) pa_nil)))))) pss_nil)
      (pss_cons (ps_if (pt_cmpR op_eq (pv 2) (pe_glob (v := .int 2) rfl g2 ⟨_, rfl⟩) (nomark _))
        (pss_one (ps_ret (pe_meth (pv 0) T.cl mU GU hr bU .nil pass0 (by exact (pa_cons (pe_ix ix_list (pv 1) pe_int (fun _ _ => rfl)) pa_nil))))) pss_nil)
      (pss_cons (ps_if (pt_cmpR op_eq (pv 2) (pe_glob (v := .int 3) rfl g3 ⟨_, rfl⟩) (nomark _))
        (pss_one (ps_ret (pe_meth (pv 0) T.cl mD GD hr3 bD .nil pass0 (by exact (pa_cons (pe_ix ix_list (pv 1) pe_int (fun _ _ => rfl)) pa_nil))))) pss_nil)
      (pss_cons (ps_if (pt_cmpR op_eq (pv 2) (pe_glob (v := .int 4) rfl g4 ⟨_, rfl⟩) (nomark _))
        (pss_one (ps_ret (pe_meth (pv 0) T.cl mH GH hr1 bH .nil pass0 (by exact (pa_cons (pe_ix ix_list (pv 1) pe_int (fun _ _ => rfl)) pa_nil))))) pss_nil)
      (pss_one (ps_ret (pe_meth0 (pv 0) T.cl mO GO hr5 bO .nil pass0))))))), ?_⟩
    obtain ⟨dx, hob⟩ := L.ob
    have hk := at_int (S3.kind_at c)
    refine ⟨_, rfl, _, _, _, _, rfl, rfl, SqL.of hl, at_of (j := 0) rfl hk, ?_⟩
    refine ⟨_, rfl, rfl, _, rfl, ?_⟩
    have fin : ∀ (H' : Hp) (p : Addr), LnAt C P H' a A (nextQ m c) → Keeps a A H H' → NewAt H p → H' p = some (.lst ((ansQ m c).map V.int)) → Q (.ref p) H' := fun H' p h1 h2 h3 h4 => kk H' A p h1 h2 (.inl rfl) h3 h4
    cases c with
    | beg r n =>
      have k1 : (((Cl.beg r n).nums).map V.int)[1]? = some (.int r) := rfl
      have k2 : (((Cl.beg r n).nums).map V.int)[2]? = some (.int n) := rfl
      refine eq_yes rfl ?_
      refine ⟨_, rfl, a, dx, _, rfl, hob, lF_begin, _, rfl, _, _, _, _, rfl, rfl, SqL.of hl, at_of (j := 1) rfl k1, _, rfl, _, _, _, _, rfl, rfl, SqL.of hl, at_of (j := 2) rfl k2, ?_⟩
      exact ⟨a, A, m, r, n, rfl, L, fun H' A' p h1 h2 h3 h4 h5 => kk H' A' p h1 h2 h3 h4 h5⟩
    | use k =>
      have G := hc.resolve_left fun ⟨_, _, z⟩ => by cases z
      have k1 : (((Cl.use k).nums).map V.int)[1]? = some (.int k) := rfl
      refine eq_no (by show ¬ (2 : Int) = 1; decide) ?_
      refine ⟨_, rfl, rfl, _, rfl, ?_⟩
      refine eq_yes rfl ?_
      refine ⟨_, rfl, a, dx, _, rfl, hob, lF_use, _, rfl, _, _, _, _, rfl, rfl, SqL.of hl, at_of (j := 1) rfl k1, ?_⟩
      exact ⟨a, A, m, k, rfl, L, G, fin⟩
    | drop k =>
      have G := hc.resolve_left fun ⟨_, _, z⟩ => by cases z
      have k1 : (((Cl.drop k).nums).map V.int)[1]? = some (.int k) := rfl
      refine eq_no (by show ¬ (3 : Int) = 1; decide) ?_
      refine ⟨_, rfl, rfl, _, rfl, ?_⟩
      refine eq_no (by show ¬ (3 : Int) = 2; decide) ?_
      refine ⟨_, rfl, rfl, _, rfl, ?_⟩
      refine eq_yes rfl ?_
      refine ⟨_, rfl, a, dx, _, rfl, hob, lF_drop, _, rfl, _, _, _, _, rfl, rfl, SqL.of hl, at_of (j := 1) rfl k1, ?_⟩
      exact ⟨a, A, m, k, rfl, L, G, fin⟩
    | holds k =>
      have k1 : (((Cl.holds k).nums).map V.int)[1]? = some (.int k) := rfl
      refine eq_no (by show ¬ (4 : Int) = 1; decide) ?_
      refine ⟨_, rfl, rfl, _, rfl, ?_⟩
      refine eq_no (by show ¬ (4 : Int) = 2; decide) ?_
      refine ⟨_, rfl, rfl, _, rfl, ?_⟩
      refine eq_no (by show ¬ (4 : Int) = 3; decide) ?_
      refine ⟨_, rfl, rfl, _, rfl, ?_⟩
      refine eq_yes rfl ?_
      refine ⟨_, rfl, a, dx, _, rfl, hob, lF_holds, _, rfl, _, _, _, _, rfl, rfl, SqL.of hl, at_of (j := 1) rfl k1, ?_⟩
      exact ⟨a, A, m, k, rfl, L, trivial, fin⟩
    | order =>
      have G := hc.resolve_left fun ⟨_, _, z⟩ => by cases z
      refine eq_no (by show ¬ (5 : Int) = 1; decide) ?_
      refine ⟨_, rfl, rfl, _, rfl, ?_⟩
      refine eq_no (by show ¬ (5 : Int) = 2; decide) ?_
      refine ⟨_, rfl, rfl, _, rfl, ?_⟩
      refine eq_no (by show ¬ (5 : Int) = 3; decide) ?_
      refine ⟨_, rfl, rfl, _, rfl, ?_⟩
      refine eq_no (by show ¬ (5 : Int) = 4; decide) ?_
      refine ⟨_, rfl, a, dx, _, rfl, hob, lF_order, ?_⟩
      exact ⟨a, A, m, rfl, L, G, fin⟩
end
end Cr
namespace Cr
open PySem PySem.Spec PyProof.Rows L2 LamX Sl
open S3 (Cl flat place outs st ans Asked)
theorem ans_len {q : M} {c : Cl} (h : (∃ r n, c = .beg r n) ∨ Gd q) : (ansQ q c).length ≤ 1025 := by
  cases c with
  | beg r n =>
    show 1 ≤ 1025
    omega
  | use k =>
    show (if q.has k = true then [1] else if (q.uses.length : Int) = q.room then [2, q.qgo] else [0]).length ≤ 1025
    split
    · exact Nat.le_trans (Nat.le_refl 1) (by omega)
    · split
      · exact Nat.le_trans (Nat.le_refl 2) (by omega)
      · exact Nat.le_trans (Nat.le_refl 1) (by omega)
  | drop k =>
    show 1 ≤ 1025
    omega
  | holds k =>
    show 1 ≤ 1025
    omega
  | order =>
    have G := h.resolve_left fun ⟨_, _, z⟩ => by cases z
    have hl := G.len
    have e : q.qord.length ≤ 1024 := by
      unfold M.qord
      split
      · rw [(byu_perm q).length_eq]
        omega
      · rw [List.length_append]
        exact hl
    show q.qord.length + 1 ≤ 1025
    omega
theorem cut_int {l : List Int} {i n : Nat} {j : Int} (hj : j = ((i + n : Nat) : Int)) (h : i + n ≤ l.length) : cutV (l.map V.int) (some (i : Int)) (some j) = ((l.drop i).take n).map V.int := by
  subst hj
  unfold cutV
  rw [HT.sIx_nat, HT.sIx_nat, List.length_map, Nat.min_eq_left h, Nat.min_eq_left (Nat.le_trans (Nat.le_add_right i n) h), Nat.add_sub_cancel_left, List.map_take, List.map_drop]
def spAll (P : Addr) (K : PySem.W.Frag) : Sp := fun vs H Q _ => ∃ (a : Addr) (l : List Int) (cs : List Cl), vs = [.ref a] ∧ SqL K H a (l.map V.int) ∧ Asked l cs ∧ Tabs (tabOf P) H ∧
  ∀ (H' : Hp) (g : Addr), H' g = some (.lst ((PyRb20.answers l).map V.int)) → Q (.ref g) H'
section
variable {Pg : Program} {w : World} {K : PySem.W.Frag} {mg : Str → Option Value} {base : Heap} {C P : Addr}
/-! ### answers -/
/-- what holds ahead of call i -/
structure At (C P : Addr) (H0 H : Hp) (x g : Addr) (A : Ad) (q : M) (cs : List Cl) (i : Nat) : Prop where
  ob : LnAt C P H x A q
  out : H g = some (.lst ((outs Rb20Neutral.start (cs.take i)).map V.int))
  nx : NewAt H0 x
  ng : NewAt H0 g
  nl : NewAt H0 A.l
  ns : NewAt H0 A.s
  nu : NewAt H0 A.u
  nk : NewAt H0 A.k
  gl : g ≠ A.l
  gs : g ≠ A.s
  old : ∀ b o, H0 b = some o → (∀ ps, o ≠ .tbl ps) → H b = some o
  le : (outs Rb20Neutral.start (cs.take i)).length ≤ 1026 * i
  rel : i = 0 ∨ Rq q (st Rb20Neutral.start (cs.take i))
theorem scAll : FnScope ["calls", "cache", "given", "place", "length", "answer"] ["calls"] (defScope sAll) := ⟨rfl, rfl, rfl, by decide +kernel, rfl, by decide +kernel, by decide +kernel⟩
theorem ok_all {f fI fL fN : Addr} {fd fdI fdL fdN : FuncData} (F : Fun K "answers" "answers" sAll f fd) (T : Txt K mg C) (M0 : Mk K C fI) (GI : FnOk Pg w K mg base CX0 1 fI fdI ["self"] (spInit C P)) (bI : Binds K fdI ["self"] [])
    (GL : FnOk Pg w K mg base CX0 1 fL fdL ["kind"] spLen) (bL : Binds K fdL ["kind"] []) (gL : mg "length_of" = some (.ref fL)) (kL : PySem.W.keepIn K (.ref fL) = true)
    (GN : FnOk Pg w K mg base CX0 7 fN fdN ["cache", "call"] (spAns C P)) (bN : Binds K fdN ["cache", "call"] []) (gN : mg "answer_of" = some (.ref fN)) (kN : PySem.W.keepIn K (.ref fN) = true) :
    FnOk Pg w K mg base CX0 8 f fd ["calls"] (spAll P K) := by
  refine F.ok scAll (fun vs H Q E h => ?_) (fun cdv A0 outer s H vs Q E hr h => ?_)
  · obtain ⟨a, l, cs, rfl, _⟩ := h
    rfl
  · obtain ⟨a, l, cs, rfl, hS, hA, hT, kk⟩ := h
    have nd := scAll.nd
    have hr1 : Room 1 _ := hr.mono (by decide)
    have hr2 : Room 2 _ := hr.mono (by decide)
    refine ⟨_, pss_cons (ps_set (i := 1) nd rfl (Or.inl rfl) (pe_make0 M0 GI hr2 rfl T.gC bI .nil pass0))
      (pss_cons (ps_set (i := 2) nd rfl (Or.inl rfl) (pe_lst pa_nil))
      (pss_cons (ps_set (i := 3) nd rfl (Or.inl rfl) pe_int)
      (pss_cons (ps_while PassesOwn.never (pt_cmpR op_lt (pv 3) (pe_callB call_len_seq (by rfl) T.len PySem.boot_len (pa_cons (pv 0) pa_nil)) (nomark _))
        (pss_cons (ps_set (i := 4) nd rfl (Or.inl rfl) (pe_call GL hr1 rfl gL kL bL .nil pass0 (pa_cons (pe_ix ix_list (pv 0) (pv 3) (fun _ _ => rfl)) pa_nil)))
        (pss_cons (ps_set (i := 5) nd rfl (Or.inl rfl) (pe_call GN hr rfl gN kN bN .nil pass0 (pa_cons (pv 1) (pa_cons (pe_slice sl_list (pv 0) (po_some (pv 3)) (po_some (pe_op op_add (pv 3) (pv 4)))) pa_nil))))
        (pss_cons (ps_expr (pe_bm PySem.F.plainAttrs_list PySem.F.slot_list_append PySem.F.type_list_append mt_append (pv 2) (pa_cons (pe_callB call_len_seq (by rfl) T.len PySem.boot_len (pa_cons (pv 5) pa_nil)) pa_nil)))
        (pss_cons (ps_expr (pe_bm PySem.F.plainAttrs_list PySem.F.slot_list_extend PySem.F.type_list_extend mt_extend (pv 2) (pa_cons (pv 5) pa_nil)))
        (pss_one (ps_aug (i := 3) nd rfl (.inl rfl) (pv 4) ip_add)))))))
      (pss_one (ps_ret (pv 2)))))), ?_⟩
    have el : l = flat cs := hA.eq
    subst el
    intro x dx nx ndx nex
    refine ⟨x, dx, rfl, upd_same, tabs_new (tabs_new hT ndx) (by rw [upd_ne nex.symm]; exact nx), fun A H1 f1 f2 f3 f4 L1 kp => ⟨rfl, ?_⟩⟩
    have s00 : ∀ b o, H b = some o → (upd (upd H dx (.own x)) x (.ins C dx []) : Hp) b = some o := fun b o e => by
      rw [upd_ne (ne_of_none e nx), upd_ne (ne_of_none e ndx)]
      exact e
    have old1 : ∀ b o, H b = some o → H1 b = some o := fun b o e => kp b o (s00 b o e) (ne_of_none e nx)
    have frz : ∀ {b}, (upd (upd H dx (.own x)) x (.ins C dx []) : Hp) b = none → NewAt H b := fun {b} e c o h _ z => by
      rw [← z, s00 c o h] at e
      cases e
    refine ⟨Nat.zero_le _, fun g hg => ?_⟩
    have start : At C P H (upd H1 g (.lst [])) x g A (M.fresh 0 0) cs 0 := by
      refine ⟨L1.new hg, upd_same, .of nx, fun c o h _ z => ?_, frz f1, frz f2, frz f3, frz f4, (ne_of_none L1.ln hg).symm, (ne_of_none L1.sf hg).symm, fun b o e _ => ?_, Nat.le_refl _, .inl rfl⟩
      · rw [← z, old1 c o h] at hg
        cases hg
      · rw [upd_ne (ne_of_none (old1 b o e) hg)]
        exact old1 b o e
    generalize upd H1 g (.lst []) = H2 at start
    have hlen := hA.len
    refine ⟨fun n σ' H' => ∃ (i : Nat) (A : Ad) (q : M) (v u : Option V), n = cs.length - i ∧ i ≤ cs.length ∧ σ' = [some (.ref a), some (.ref x), some (.ref g), some (.int (place cs i : Int)), v, u] ∧ At C P H H' x g A q cs i,
      ⟨_, 0, A, _, none, none, rfl, Nat.zero_le _, rfl, start⟩, ?_⟩
    rintro n σ' H' ⟨i, A, q, v, u, rfl, hi, rfl, W⟩
    have hS' : SqL K H' a ((flat cs).map V.int) := extN_seq W.old hS
    refine ⟨_, rfl, _, rfl, a, _, rfl, .inl hS', ?_⟩
    refine ⟨_, _, rfl, rfl, _, rfl, ?_⟩
    rw [List.length_map]
    by_cases c : i < cs.length
    · have hpl := S3.place_lt c
      rw [decide_eq_true (show (place cs i : Int) < ((flat cs).length : Int) by omega)]
      refine iteT ?_
      refine ⟨_, fun _ _ h => h, ?_⟩
      obtain ⟨d, hd⟩ : ∃ d, cs[i]? = some d := ⟨_, List.getElem?_eq_getElem c⟩
      have hk : ((flat cs).map V.int)[place cs i]? = some (.int (S3.kind d)) := at_int (by
        have q := S3.flat_at (j := 0) hd (S3.kind_at d)
        rw [Nat.add_zero] at q
        exact q)
      refine ⟨_, rfl, _, rfl, a, _, _, _, rfl, rfl, hS', at_of rfl hk, ?_⟩
      refine ⟨S3.kind d, rfl, ?_⟩
      rw [S3.len_kind]
      have hpe := S3.place_le hd
      refine ⟨_, rfl, _, rfl, _, rfl, _, rfl, _, rfl, _, rfl, _, _, rfl, rfl, ?_⟩
      refine ⟨_, rfl, a, _, rfl, hS', fun cl hcl => ?_⟩
      rw [cut_int (i := place cs i) (n := d.nums.length) (by omega) hpe, S3.flat_cut hd]
      have L3 := W.ob.new (o := .lst (d.nums.map V.int)) hcl
      have g3 : (upd H' cl (.lst (d.nums.map V.int)) : Hp) g = some (.lst ((outs Rb20Neutral.start (cs.take i)).map V.int)) := by
        rw [upd_ne (ne_of_none W.out hcl)]
        exact W.out
      have old3 : ∀ b o, H b = some o → (∀ ps, o ≠ .tbl ps) → (upd H' cl (.lst (d.nums.map V.int)) : Hp) b = some o := fun b o e n => by
        have e' := W.old b o e n
        rw [upd_ne (ne_of_none e' hcl)]
        exact e'
      have c3 : (upd H' cl (.lst (d.nums.map V.int)) : Hp) cl = some (.lst (d.nums.map V.int)) := upd_same
      generalize upd H' cl (.lst (d.nums.map V.int)) = H3 at L3 g3 old3 c3
      -- what the call answers, and the specification's word of it
      have hf := hA.fine d (List.mem_of_getElem? hd)
      have how : ((∃ r n, d = .beg r n) ∨ Gd q) ∧ Rq (nextQ q d) (st Rb20Neutral.start (cs.take (i + 1))) ∧ ans (st Rb20Neutral.start (cs.take i)) d = ansQ q d := by
        rw [S3.st_more hd]
        rcases W.rel with z | R
        · subst z
          obtain ⟨r, n, t, e, ht⟩ := hA.first
          have ed : d = .beg r n := by
            rw [e] at hd
            exact (Option.some.inj hd).symm
          subst ed
          obtain ⟨h1, h2⟩ := beg_firstQ (s := st Rb20Neutral.start (cs.take 0)) ht
          refine ⟨.inl ⟨r, n, rfl⟩, ?_, ?_⟩
          · show Rq (if Rb20.told r n = true then M.fresh r n else q) _
            rw [if_pos ht]
            exact h1
          · rw [h2]
            show [0] = [if Rb20.told r n = true then (0 : Int) else -2]
            rw [if_pos ht]
        · obtain ⟨h1, h2⟩ := call_stepQ R d hf
          exact ⟨.inr R.gd, h1, h2⟩
      obtain ⟨how1, how2, how3⟩ := how
      have hal := ans_len how1
      refine ⟨x, cl, A, q, d, rfl, L3, c3, how1, fun H4 A' p L4 K4 mv np h4 => ?_⟩
      obtain ⟨dx3, hob3⟩ := L3.ob
      have ngx : g ≠ x := fun z => by
        rw [z, hob3] at g3
        cases g3
      have ngu : g ≠ A.u := ne_of g3 L3.us (by intro z; cases z)
      have ngk : g ≠ A.k := ne_of g3 L3.mkd (by intro z; cases z)
      have g4 : H4 g = some (.lst ((outs Rb20Neutral.start (cs.take i)).map V.int)) := K4 g _ g3 plain_lst.1 ngx W.gl W.gs ngu ngk
      have npg : g ≠ p := np g _ g3 plain_lst.1
      have old4 : ∀ b o, H b = some o → (∀ ps, o ≠ .tbl ps) → H4 b = some o := fun b o e n => K4 b o (old3 b o e n) n (W.nx b o e n) (W.nl b o e n) (W.ns b o e n) (W.nu b o e n) (W.nk b o e n)
      have newOf : ∀ {b}, NewAt H3 b → NewAt H b := fun {b} h c o e n => h c o (old3 c o e n) n
      have all4 : NewAt H A'.l ∧ NewAt H A'.s ∧ NewAt H A'.u ∧ NewAt H A'.k ∧ g ≠ A'.l ∧ g ≠ A'.s := by
        rcases mv with z | ⟨m1, m2, m3, m4⟩
        · rw [z]
          exact ⟨W.nl, W.ns, W.nu, W.nk, W.gl, W.gs⟩
        · exact ⟨newOf m1, newOf m2, newOf m3, newOf m4, m1 g _ g3 plain_lst.1, m2 g _ g3 plain_lst.1⟩
      obtain ⟨n1, n2, n3, n4, n5, n6⟩ := all4
      have hle := W.le
      refine ⟨_, rfl, .inl ⟨rfl, _, SqL.of g4⟩, _, rfl, p, _, rfl, .inl (SqL.of h4), g, _, _, rfl, rfl, g4, small (by rw [List.length_map]; omega), ?_⟩
      rw [List.length_map]
      have h5 : (upd H4 g (.lst ((outs Rb20Neutral.start (cs.take i)).map V.int ++ [.int ((ansQ q d).length : Int)])) : Hp) p = some (.lst ((ansQ q d).map V.int)) := by
        rw [upd_ne npg.symm]
        exact h4
      refine ⟨_, rfl, .inl ⟨rfl, _, SqL.of upd_same⟩, _, rfl, g, p, _, _, rfl, rfl, upd_same, h5, ?_, ?_⟩
      · rw [List.length_append, List.length_map, List.length_map]
        refine Nat.le_of_lt (small ?_)
        show (outs Rb20Neutral.start (cs.take i)).length + 1 + (ansQ q d).length ≤ 1000000
        omega
      refine ⟨_, rfl, _, rfl, _, _, rfl, rfl, ?_⟩
      have eo : (outs Rb20Neutral.start (cs.take i)).map V.int ++ [V.int ((ansQ q d).length : Int)] ++ (ansQ q d).map V.int = (outs Rb20Neutral.start (cs.take (i + 1))).map V.int := by
        rw [S3.outs_more hd, how3, List.map_append, List.append_assoc]
        rfl
      rw [eo]
      have xg4 : x ≠ g := ngx.symm
      have ug : A'.u ≠ g := (ne_of g4 L4.us (by intro z; cases z)).symm
      have kg : A'.k ≠ g := (ne_of g4 L4.mkd (by intro z; cases z)).symm
      have L5 := L4.off (b := g) (o := .lst ((outs Rb20Neutral.start (cs.take i)).map V.int ++ [.int ((ansQ q d).length : Int)])) (fun _ => pl_at g4 plain_lst) xg4 n5.symm n6.symm ug kg
      have L6 := L5.off (b := g) (o := .lst ((outs Rb20Neutral.start (cs.take (i + 1))).map V.int)) (fun _ => pl_at upd_same plain_lst) xg4 n5.symm n6.symm ug kg
      refine ⟨cs.length - (i + 1), by omega, i + 1, A', nextQ q d, some (.int (d.nums.length : Int)), some (.ref p), rfl, c, ?_, L6, upd_same, W.nx, W.ng, n1, n2, n3, n4, n5, n6, fun b o e n => ?_, ?_, .inr how2⟩
      · rw [S3.place_more hd]
        rfl
      · rw [upd_ne (W.ng b o e n), upd_ne (W.ng b o e n)]
        exact old4 b o e n
      · rw [S3.outs_more hd, how3, List.length_append, List.length_cons]
        omega
    · have e : i = cs.length := by omega
      subst e
      rw [S3.place_all, decide_eq_false (by omega)]
      refine iteF ?_
      refine ⟨_, rfl, ?_⟩
      refine kk _ g ?_
      rw [W.out, List.take_length, hA.due]
      rfl
end
end Cr
namespace Cr
open PySem PySem.Spec PyProof.Rows L2 LamX Sl
/-! ### The end: what the top has written -/
theorem all_mk {Pg : Program} {w : World} {K : PySem.W.Frag} {h : Heap} {mg : Str → Option Value} {fa C P cb f1 f2 f3 f4 f5 f6 f7 f8 f9 f10 f11 f12 f13 f14 f15 f16 : Addr} (X : K.In h) (G : h.Ns mainGlobals mg) (hfa : mg "answers" = some (.ref fa))
    {od1 an1 od2 an2 od3 an3 od4 an4 od5 an5 od6 an6 od7 an7 od8 an8 od9 an9 od10 an10 od11 an11 od12 an12 od13 an13 od14 an14 od15 an15 od16 an16 : Option Addr} {sl1 sl2 sl3 sl4 sl5 sl6 sl7 sl8 sl9 sl10 sl11 sl12 sl13 sl14 sl15 sl16 : Array (Option Value)} {oc1 kV1 dc1 pm1 cd1 ct1 oc2 kV2 dc2 pm2 cd2 ct2 oc3 kV3 dc3 pm3 cd3 ct3 oc4 kV4 dc4 pm4 cd4 ct4 oc5 kV5 dc5 pm5 cd5 ct5 oc6 kV6 dc6 pm6 cd6 ct6 oc7 kV7 dc7 pm7 cd7 ct7 oc8 kV8 dc8 pm8 cd8 ct8 oc9 kV9 dc9 pm9 cd9 ct9 oc10 kV10 dc10 pm10 cd10 ct10 oc12 kV12 dc12 pm12 cd12 ct12 oc13 kV13 dc13 pm13 cd13 ct13 oc14 kV14 dc14 pm14 cd14 ct14 oc15 kV15 dc15 pm15 cd15 ct15 oc16 kV16 dc16 pm16 cd16 ct16 oc11 kV11 dc11 pm11 ct11 : Value} {tR tM tU t1 t2 t3 t4 t5 : Tok}
    (aC : PySem.W.nsIn K mainGlobals "Cache" = some (some (.ref C)))
    (a1 : PySem.W.findIn K (.ref C) "__init__" = some (some (.ref f1))) (i1 : PySem.W.isFn K (.ref f1) = true) (l1 : K.lookup f1 = some ⟨oc1, od1, .func (PySem.W.fnOf "__init__" "Cache.__init__" (defArgs sInit) (defBody sInit) (defScope sInit) .none kV1 dc1 pm1 an1 cd1 ct1), sl1⟩) (c1 : PySem.W.codeIn K cd1 "Cache.__init__" = true) (k1 : PySem.W.keepIn K (.ref f1) = true)
    (a2 : PySem.W.findIn K (.ref C) "begin" = some (some (.ref f2))) (i2 : PySem.W.isFn K (.ref f2) = true) (l2 : K.lookup f2 = some ⟨oc2, od2, .func (PySem.W.fnOf "begin" "Cache.begin" (defArgs sBeg) (defBody sBeg) (defScope sBeg) .none kV2 dc2 pm2 an2 cd2 ct2), sl2⟩) (c2 : PySem.W.codeIn K cd2 "Cache.begin" = true) (k2 : PySem.W.keepIn K (.ref f2) = true)
    (a3 : PySem.W.findIn K (.ref C) "use" = some (some (.ref f3))) (i3 : PySem.W.isFn K (.ref f3) = true) (l3 : K.lookup f3 = some ⟨oc3, od3, .func (PySem.W.fnOf "use" "Cache.use" (defArgs sUse) (defBody sUse) (defScope sUse) .none kV3 dc3 pm3 an3 cd3 ct3), sl3⟩) (c3 : PySem.W.codeIn K cd3 "Cache.use" = true) (k3 : PySem.W.keepIn K (.ref f3) = true)
    (a4 : PySem.W.findIn K (.ref C) "drop" = some (some (.ref f4))) (i4 : PySem.W.isFn K (.ref f4) = true) (l4 : K.lookup f4 = some ⟨oc4, od4, .func (PySem.W.fnOf "drop" "Cache.drop" (defArgs sDrop) (defBody sDrop) (defScope sDrop) .none kV4 dc4 pm4 an4 cd4 ct4), sl4⟩) (c4 : PySem.W.codeIn K cd4 "Cache.drop" = true) (k4 : PySem.W.keepIn K (.ref f4) = true)
    (a5 : PySem.W.findIn K (.ref C) "holds" = some (some (.ref f5))) (i5 : PySem.W.isFn K (.ref f5) = true) (l5 : K.lookup f5 = some ⟨oc5, od5, .func (PySem.W.fnOf "holds" "Cache.holds" (defArgs sHolds) (defBody sHolds) (defScope sHolds) .none kV5 dc5 pm5 an5 cd5 ct5), sl5⟩) (c5 : PySem.W.codeIn K cd5 "Cache.holds" = true) (k5 : PySem.W.keepIn K (.ref f5) = true)
    (a6 : PySem.W.findIn K (.ref C) "order" = some (some (.ref f6))) (i6 : PySem.W.isFn K (.ref f6) = true) (l6 : K.lookup f6 = some ⟨oc6, od6, .func (PySem.W.fnOf "order" "Cache.order" (defArgs sOrd) (defBody sOrd) (defScope sOrd) .none kV6 dc6 pm6 an6 cd6 ct6), sl6⟩) (c6 : PySem.W.codeIn K cd6 "Cache.order" = true) (k6 : PySem.W.keepIn K (.ref f6) = true)
    (a7 : PySem.W.findIn K (.ref C) "use_again" = some (some (.ref f7))) (i7 : PySem.W.isFn K (.ref f7) = true) (l7 : K.lookup f7 = some ⟨oc7, od7, .func (PySem.W.fnOf "use_again" "Cache.use_again" (defArgs sAgain) (defBody sAgain) (defScope sAgain) .none kV7 dc7 pm7 an7 cd7 ct7), sl7⟩) (c7 : PySem.W.codeIn K cd7 "Cache.use_again" = true) (k7 : PySem.W.keepIn K (.ref f7) = true)
    (a8 : PySem.W.findIn K (.ref C) "give_back" = some (some (.ref f8))) (i8 : PySem.W.isFn K (.ref f8) = true) (l8 : K.lookup f8 = some ⟨oc8, od8, .func (PySem.W.fnOf "give_back" "Cache.give_back" (defArgs sBack) (defBody sBack) (defScope sBack) .none kV8 dc8 pm8 an8 cd8 ct8), sl8⟩) (c8 : PySem.W.codeIn K cd8 "Cache.give_back" = true) (k8 : PySem.W.keepIn K (.ref f8) = true)
    (a9 : PySem.W.findIn K (.ref C) "leave" = some (some (.ref f9))) (i9 : PySem.W.isFn K (.ref f9) = true) (l9 : K.lookup f9 = some ⟨oc9, od9, .func (PySem.W.fnOf "leave" "Cache.leave" (defArgs sLeave) (defBody sLeave) (defScope sLeave) .none kV9 dc9 pm9 an9 cd9 ct9), sl9⟩) (c9 : PySem.W.codeIn K cd9 "Cache.leave" = true) (k9 : PySem.W.keepIn K (.ref f9) = true)
    (a10 : PySem.W.findIn K (.ref C) "spare_marked" = some (some (.ref f10))) (i10 : PySem.W.isFn K (.ref f10) = true) (l10 : K.lookup f10 = some ⟨oc10, od10, .func (PySem.W.fnOf "spare_marked" "Cache.spare_marked" (defArgs sSpare) (defBody sSpare) (defScope sSpare) .none kV10 dc10 pm10 an10 cd10 ct10), sl10⟩) (c10 : PySem.W.codeIn K cd10 "Cache.spare_marked" = true) (k10 : PySem.W.keepIn K (.ref f10) = true)
    (a11 : PySem.W.findIn K (.ref C) "by_uses" = some (some (.ref f11))) (i11 : PySem.W.isFn K (.ref f11) = true) (l11 : K.lookup f11 = some ⟨oc11, od11, .func (PySem.W.fnOf "by_uses" "Cache.by_uses" (defArgs sBy) (defBody sBy) (defScope sBy) .none kV11 dc11 pm11 an11 (.ref cb) ct11), sl11⟩) (c11 : PySem.W.codeIn K (.ref cb) "Cache.by_uses" = true) (k11 : PySem.W.keepIn K (.ref f11) = true)
    (a12 : PySem.W.findIn K (.ref C) "take_out" = some (some (.ref f12))) (i12 : PySem.W.isFn K (.ref f12) = true) (l12 : K.lookup f12 = some ⟨oc12, od12, .func (PySem.W.fnOf "take_out" "Cache.take_out" (defArgs sOut) (defBody sOut) (defScope sOut) .none kV12 dc12 pm12 an12 cd12 ct12), sl12⟩) (c12 : PySem.W.codeIn K cd12 "Cache.take_out" = true) (k12 : PySem.W.keepIn K (.ref f12) = true)
    (a13 : PySem.W.findIn K (.ref C) "forget" = some (some (.ref f13))) (i13 : PySem.W.isFn K (.ref f13) = true) (l13 : K.lookup f13 = some ⟨oc13, od13, .func (PySem.W.fnOf "forget" "Cache.forget" (defArgs sForget) (defBody sForget) (defScope sForget) .none kV13 dc13 pm13 an13 cd13 ct13), sl13⟩) (c13 : PySem.W.codeIn K cd13 "Cache.forget" = true) (k13 : PySem.W.keepIn K (.ref f13) = true)
    (a14 : PySem.W.nsIn K mainGlobals "length_of" = some (some (.ref f14))) (l14 : K.lookup f14 = some ⟨oc14, od14, .func (PySem.W.fnOf "length_of" "length_of" (defArgs sLen) (defBody sLen) (defScope sLen) .none kV14 dc14 pm14 an14 cd14 ct14), sl14⟩) (c14 : PySem.W.codeIn K cd14 "length_of" = true) (k14 : PySem.W.keepIn K (.ref f14) = true)
    (a15 : PySem.W.nsIn K mainGlobals "answer_of" = some (some (.ref f15))) (l15 : K.lookup f15 = some ⟨oc15, od15, .func (PySem.W.fnOf "answer_of" "answer_of" (defArgs sAns) (defBody sAns) (defScope sAns) .none kV15 dc15 pm15 an15 cd15 ct15), sl15⟩) (c15 : PySem.W.codeIn K cd15 "answer_of" = true) (k15 : PySem.W.keepIn K (.ref f15) = true)
    (a16 : PySem.W.nsIn K mainGlobals "answers" = some (some (.ref f16))) (l16 : K.lookup f16 = some ⟨oc16, od16, .func (PySem.W.fnOf "answers" "answers" (defArgs sAll) (defBody sAll) (defScope sAll) .none kV16 dc16 pm16 an16 cd16 ct16), sl16⟩) (c16 : PySem.W.codeIn K cd16 "answers" = true) (k16 : PySem.W.keepIn K (.ref f16) = true)
    (aR : PySem.W.nsIn K mainGlobals "LAST_RULE" = some (some (.int 4 tR))) (aM : PySem.W.nsIn K mainGlobals "MOST_ROOM" = some (some (.int 1024 tM))) (aU : PySem.W.nsIn K mainGlobals "MOST_USES" = some (some (.int 4294967295 tU))) (b1 : PySem.W.nsIn K mainGlobals "BEGIN" = some (some (.int 1 t1))) (b2 : PySem.W.nsIn K mainGlobals "USE" = some (some (.int 2 t2))) (b3 : PySem.W.nsIn K mainGlobals "DROP" = some (some (.int 3 t3))) (b4 : PySem.W.nsIn K mainGlobals "HOLDS" = some (some (.int 4 t4))) (b5 : PySem.W.nsIn K mainGlobals "ORDER" = some (some (.int 5 t5)))
    (pg : PySem.W.plainGet K C Str.empty = true) (hd : PySem.W.hasDictIn K C = true) (po : PySem.W.plainOver K C = true) (sa : PySem.W.findIn K (.ref C) "__setattr__" = some (some (.builtin "object.__setattr__"))) (mk : PySem.W.makesIn K C = true) (kc : PySem.W.keepIn K (.ref C) = true)
    (n1 : PySem.W.findIn K (.ref C) "rule" = some none) (n2 : PySem.W.findIn K (.ref C) "room" = some none) (n3 : PySem.W.findIn K (.ref C) "line" = some none) (n4 : PySem.W.findIn K (.ref C) "safe" = some none) (n5 : PySem.W.findIn K (.ref C) "uses" = some none) (n6 : PySem.W.findIn K (.ref C) "marked" = some none)
    (z1 : PySem.W.nsIn K mainGlobals "len" = some none) (z2 : PySem.W.nsIn K mainGlobals "min" = some none) (z3 : PySem.W.nsIn K mainGlobals "sorted" = some none) :
    ∃ fd : FuncData, (∀ (s : Shared) (u : Value), BindsTo s fd ⟨[u], []⟩ [(("calls" : Str), u)]) ∧ ∀ base : Heap, K.In base → base.Ns mainGlobals mg → TabB base mg cb P → FnOk Pg w K mg base CX0 8 fa fd ["calls"] (spAll P K) := by
  have e := hfa.symm.trans (PySem.W.mg_of X G a16)
  cases e
  have T : Txt K mg C := ⟨⟨pg, hd, po, sa⟩, n1, n2, n3, n4, n5, n6, PySem.W.mg_of X G aC, ⟨tR, PySem.W.mg_of X G aR⟩, ⟨tM, PySem.W.mg_of X G aM⟩, ⟨tU, PySem.W.mg_of X G aU⟩, ⟨t1, PySem.W.mg_of X G b1⟩, ⟨t2, PySem.W.mg_of X G b2⟩, ⟨t3, PySem.W.mg_of X G b3⟩, ⟨t4, PySem.W.mg_of X G b4⟩, ⟨t5, PySem.W.mg_of X G b5⟩, PySem.W.mg_none_of X G z1, PySem.W.mg_none_of X G z2, PySem.W.mg_none_of X G z3⟩
  have F1 := fun_mk (st := sInit) l1 c1 k1
  have e1 := F1.binds (ps := ["self"]) fun _ _ _ _ _ _ us hl => match us, hl with | [_], _ => rfl
  have F2 := fun_mk (st := sBeg) l2 c2 k2
  have e2 := F2.binds (ps := ["self", "rule", "room"]) fun _ _ _ _ _ _ us hl => match us, hl with | [_, _, _], _ => rfl
  have F3 := fun_mk (st := sUse) l3 c3 k3
  have e3 := F3.binds (ps := ["self", "key"]) fun _ _ _ _ _ _ us hl => match us, hl with | [_, _], _ => rfl
  have F4 := fun_mk (st := sDrop) l4 c4 k4
  have e4 := F4.binds (ps := ["self", "key"]) fun _ _ _ _ _ _ us hl => match us, hl with | [_, _], _ => rfl
  have F5 := fun_mk (st := sHolds) l5 c5 k5
  have e5 := F5.binds (ps := ["self", "key"]) fun _ _ _ _ _ _ us hl => match us, hl with | [_, _], _ => rfl
  have F6 := fun_mk (st := sOrd) l6 c6 k6
  have e6 := F6.binds (ps := ["self"]) fun _ _ _ _ _ _ us hl => match us, hl with | [_], _ => rfl
  have F7 := fun_mk (st := sAgain) l7 c7 k7
  have e7 := F7.binds (ps := ["self", "key"]) fun _ _ _ _ _ _ us hl => match us, hl with | [_, _], _ => rfl
  have F8 := fun_mk (st := sBack) l8 c8 k8
  have e8 := F8.binds (ps := ["self"]) fun _ _ _ _ _ _ us hl => match us, hl with | [_], _ => rfl
  have F9 := fun_mk (st := sLeave) l9 c9 k9
  have e9 := F9.binds (ps := ["self"]) fun _ _ _ _ _ _ us hl => match us, hl with | [_], _ => rfl
  have F10 := fun_mk (st := sSpare) l10 c10 k10
  have e10 := F10.binds (ps := ["self"]) fun _ _ _ _ _ _ us hl => match us, hl with | [_], _ => rfl
  have F11 := fun_mk (st := sBy) l11 c11 k11
  have e11 := F11.binds (ps := ["self"]) fun _ _ _ _ _ _ us hl => match us, hl with | [_], _ => rfl
  have F12 := fun_mk (st := sOut) l12 c12 k12
  have e12 := F12.binds (ps := ["self", "key"]) fun _ _ _ _ _ _ us hl => match us, hl with | [_, _], _ => rfl
  have F13 := fun_mk (st := sForget) l13 c13 k13
  have e13 := F13.binds (ps := ["self", "key"]) fun _ _ _ _ _ _ us hl => match us, hl with | [_, _], _ => rfl
  have F14 := fun_mk (st := sLen) l14 c14 k14
  have e14 := F14.binds (ps := ["kind"]) fun _ _ _ _ _ _ us hl => match us, hl with | [_], _ => rfl
  have F15 := fun_mk (st := sAns) l15 c15 k15
  have e15 := F15.binds (ps := ["cache", "call"]) fun _ _ _ _ _ _ us hl => match us, hl with | [_, _], _ => rfl
  have F16 := fun_mk (st := sAll) l16 c16 k16
  refine ⟨PySem.W.fnOf "answers" "answers" (defArgs sAll) (defBody sAll) (defScope sAll) .none kV16 dc16 pm16 an16 cd16 ct16, fun s u => .of_eq rfl, fun base _ _ TB => ?_⟩
  have GOut : FnOk Pg w K mg base CX0 1 f12 _ ["self", "key"] (spOut C P) := ok_out F12 T
  have GFor : FnOk Pg w K mg base CX0 2 f13 _ ["self", "key"] (spForget C P) := ok_forget F13 T GOut e12 ⟨a12, i12, k12⟩
  have GBack : FnOk Pg w K mg base CX0 1 f8 _ ["self"] (spBack C P) := ok_back F8 T
  have GSp : FnOk Pg w K mg base CX0 1 f10 _ ["self"] (spSpare C P) := ok_spare F10 T
  have GBy : FnOk Pg w K mg base CX0 4 f11 _ ["self"] (spBy C P) := ok_by l11 c11 T TB
  have GLv : FnOk Pg w K mg base CX0 5 f9 _ ["self"] (spLeave C P) := ok_leave F9 T GBy e11 ⟨a11, i11, k11⟩ GSp e10 ⟨a10, i10, k10⟩ GFor e13 ⟨a13, i13, k13⟩
  have GAg : FnOk Pg w K mg base CX0 2 f7 _ ["self", "key"] (spAgain C P) := ok_again F7 T GOut e12 ⟨a12, i12, k12⟩ GBack e8 ⟨a8, i8, k8⟩
  have GU : FnOk Pg w K mg base CX0 6 f3 _ ["self", "key"] (spUse C P) := ok_use F3 T GAg e7 ⟨a7, i7, k7⟩ GLv e9 ⟨a9, i9, k9⟩
  have GD : FnOk Pg w K mg base CX0 3 f4 _ ["self", "key"] (spDrop C P) := ok_drop F4 T GFor e13 ⟨a13, i13, k13⟩
  have GH : FnOk Pg w K mg base CX0 1 f5 _ ["self", "key"] (spHolds C P) := ok_holds F5 T
  have GO : FnOk Pg w K mg base CX0 5 f6 _ ["self"] (spOrd C P) := ok_ord F6 T GBy e11 ⟨a11, i11, k11⟩
  have GB : FnOk Pg w K mg base CX0 1 f2 _ ["self", "rule", "room"] (spBeg C P) := ok_beg F2 T
  have GI : FnOk Pg w K mg base CX0 1 f1 _ ["self"] (spInit C P) := ok_init F1 T
  have GL : FnOk Pg w K mg base CX0 1 f14 _ ["kind"] spLen := ok_len F14 T
  have GN : FnOk Pg w K mg base CX0 7 f15 _ ["cache", "call"] (spAns C P) := ok_ans F15 T GB e2 ⟨a2, i2, k2⟩ GU e3 ⟨a3, i3, k3⟩ GD e4 ⟨a4, i4, k4⟩ GH e5 ⟨a5, i5, k5⟩ GO e6 ⟨a6, i6, k6⟩
  exact ok_all F16 T ⟨mk, a1, i1, kc⟩ GI e1 GL e14 (PySem.W.mg_of X G a14) k14 GN e15 (PySem.W.mg_of X G a15) k15
end Cr
open PySem PySem.W PyProof.Rows
local macro_rules
  | `(tactic| o_headS ($_f:ident $k $a $p)) => `(tactic| o_headS (PySem.W.kmHook $k $a $p [93]))
set_option maxRecDepth 100000 in
set_option maxHeartbeats 8000000 in
theorem PySem.Challenge.cw_cacherules_s03_answers_holds : PySem.Challenge.rw_cacherules_s03_answers.Holds := by
  w_on; k_headS; (case hw => exact ⟨[.list [.int 1, .int 0, .int 1]], by decide +kernel, by decide +kernel⟩)
  k_fillS
  refine Sl.walk_specT (r := PySem.Challenge.rw_cacherules_s03_answers) (k := 8) (CX := L2.CX0) (par := "calls") (sp := Cr.spAll 93) (c := 97) (P := 93) (toL := fun a => a.1) (by decide +kernel) (fun _ => rfl) ⟨rfl, by decide, by decide⟩ (fun w h Y => PySem.W.km_in_of Y) (fun w h Y => PySem.W.km_tabs_of Y 93 List.mem_cons_self) ?tk ?cd ?F ?S (fun _ _ _ _ z => z)
  case tk =>
    intro w
    kernel_rfl
  case cd =>
    intro w
    kernel_rfl
  case F =>
    intro w mg fa h Y KX G hmg
    refine' Cr.all_mk KX G hmg ?aC ?a1 ?i1 ?l1 ?c1 ?k1 ?a2 ?i2 ?l2 ?c2 ?k2 ?a3 ?i3 ?l3 ?c3 ?k3 ?a4 ?i4 ?l4 ?c4 ?k4 ?a5 ?i5 ?l5 ?c5 ?k5 ?a6 ?i6 ?l6 ?c6 ?k6 ?a7 ?i7 ?l7 ?c7 ?k7 ?a8 ?i8 ?l8 ?c8 ?k8 ?a9 ?i9 ?l9 ?c9 ?k9 ?a10 ?i10 ?l10 ?c10 ?k10 ?a11 ?i11 ?l11 ?c11 ?k11 ?a12 ?i12 ?l12 ?c12 ?k12 ?a13 ?i13 ?l13 ?c13 ?k13 ?a14 ?l14 ?c14 ?k14 ?a15 ?l15 ?c15 ?k15 ?a16 ?l16 ?c16 ?k16 ?aR ?aM ?aU ?b1 ?b2 ?b3 ?b4 ?b5 ?pg ?hd ?po ?sa ?mk ?kc ?n1 ?n2 ?n3 ?n4 ?n5 ?n6 ?z1 ?z2 ?z3
    (case aC => k_is)
    (case a1 => k_is)
    (case i1 => k_is)
    (case l1 => k_is)
    (case c1 => k_is)
    (case k1 => k_is)
    (case a2 => k_is)
    (case i2 => k_is)
    (case l2 => k_is)
    (case c2 => k_is)
    (case k2 => k_is)
    (case a3 => k_is)
    (case i3 => k_is)
    (case l3 => k_is)
    (case c3 => k_is)
    (case k3 => k_is)
    (case a4 => k_is)
    (case i4 => k_is)
    (case l4 => k_is)
    (case c4 => k_is)
    (case k4 => k_is)
    (case a5 => k_is)
    (case i5 => k_is)
    (case l5 => k_is)
    (case c5 => k_is)
    (case k5 => k_is)
    (case a6 => k_is)
    (case i6 => k_is)
    (case l6 => k_is)
    (case c6 => k_is)
    (case k6 => k_is)
    (case a7 => k_is)
    (case i7 => k_is)
    (case l7 => k_is)
    (case c7 => k_is)
    (case k7 => k_is)
    (case a8 => k_is)
    (case i8 => k_is)
    (case l8 => k_is)
    (case c8 => k_is)
    (case k8 => k_is)
    (case a9 => k_is)
    (case i9 => k_is)
    (case l9 => k_is)
    (case c9 => k_is)
    (case k9 => k_is)
    (case a10 => k_is)
    (case i10 => k_is)
    (case l10 => k_is)
    (case c10 => k_is)
    (case k10 => k_is)
    (case a11 => k_is)
    (case i11 => k_is)
    (case l11 => k_is)
    (case c11 => k_is)
    (case k11 => k_is)
    (case a12 => k_is)
    (case i12 => k_is)
    (case l12 => k_is)
    (case c12 => k_is)
    (case k12 => k_is)
    (case a13 => k_is)
    (case i13 => k_is)
    (case l13 => k_is)
    (case c13 => k_is)
    (case k13 => k_is)
    (case a14 => k_is)
    (case l14 => k_is)
    (case c14 => k_is)
    (case k14 => k_is)
    (case a15 => k_is)
    (case l15 => k_is)
    (case c15 => k_is)
    (case k15 => k_is)
    (case a16 => k_is)
    (case l16 => k_is)
    (case c16 => k_is)
    (case k16 => k_is)
    (case aR => k_is)
    (case aM => k_is)
    (case aU => k_is)
    (case b1 => k_is)
    (case b2 => k_is)
    (case b3 => k_is)
    (case b4 => k_is)
    (case b5 => k_is)
    (case pg => k_is)
    (case hd => k_is)
    (case po => k_is)
    (case sa => k_is)
    (case mk => k_is)
    (case kc => k_is)
    (case n1 => k_is)
    (case n2 => k_is)
    (case n3 => k_is)
    (case n4 => k_is)
    (case n5 => k_is)
    (case n6 => k_is)
    (case z1 => k_is)
    (case z2 => k_is)
    (case z3 => k_is)
  case S =>
    intro K H a x hP hwi hask hS
    obtain ⟨cs, hA⟩ := S3.asked (l := x.1) hask
    refine ⟨a, x.1, cs, rfl, hS, hA, fun p hp => ?_, fun H' g hg => .lst (L2.SqL.of hg) (L2.dw_ints _)⟩
    rw [List.mem_singleton.mp hp]
    exact LamX.TabS.nil hP
#print axioms PySem.Challenge.cw_cacherules_s03_answers_holds
