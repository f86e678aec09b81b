import PyProof.Rows.All
import Wide.All
import OpenK.AllK
import Wide.FinOn
import Open.SpecLaws
import KE.OsGo
import HandS.ForSpec
import HandS.WordsDict
import HandS.More
import HandS.SetFor
import HandS.Remove
import PySem.Challenge.RW_cacherules_s01_misses
set_option Elab.async false
set_option maxRecDepth 100000
set_option maxHeartbeats 2000000
/-! ### 1. The mirror -/
namespace Cr
open PySem L2
open Rb20 (sooner turned)
abbrev KVs := List (Key × V)
structure M where
  rule : Int
  room : Int
  line : List Int
  safe : List Int
  uses : KVs
  marked : KVs
abbrev ki (k : Int) : Key := Sum.inl k
def cnt (kvs : KVs) (k : Int) : Int := match valV kvs (ki k) with
  | some (.int n) => n
  | _ => 0
def TOP : Int := 4294967295
def after (n : Int) : Int := if TOP < n + 1 then TOP else n + 1
def lowPart (kvs : KVs) (u : Int) (l : List Int) : List Int := l.filter fun x => decide (cnt kvs x ≤ u)
def highPart (kvs : KVs) (u : Int) (l : List Int) : List Int := l.filter fun x => decide (u < cnt kvs x)
def M.place (m : M) (k : Int) : M := { m with line := lowPart m.uses (cnt m.uses k) m.line ++ k :: highPart m.uses (cnt m.uses k) m.line }
def M.put1 (m : M) (k : Int) : M := { m with uses := putK m.uses (ki k) (.int 1) }
def M.come (m : M) (k : Int) : M := if m.rule = 2 then (m.put1 k).place k else { m.put1 k with line := m.line ++ [k] }
def M.inSafe (m : M) (k : Int) : M := if k ∈ m.safe then { m with safe := m.safe.erase k ++ [k] } else { m with line := m.line.erase k, safe := m.safe ++ [k] }
def M.back (m : M) : M := if m.room / 2 < (m.safe.length : Int) then { m with line := m.line ++ m.safe.take 1, safe := m.safe.drop 1 } else m
def M.safer (m : M) (k : Int) : M := (m.inSafe k).back
def M.count (m : M) (k : Int) : M := { m with uses := putK m.uses (ki k) (.int (after (cnt m.uses k))) }
def M.off (m : M) (k : Int) : M := { m with line := m.line.erase k }
def M.again (m : M) (k : Int) : M :=
  if m.rule = 1 then { m.count k with line := m.line.erase k ++ [k] }
  else if m.rule = 2 then ((m.count k).off k).place k
  else if m.rule = 3 then { m.count k with marked := putK m.marked (ki k) (.bl true) }
  else if m.rule = 4 then (m.count k).safer k
  else m.count k
def M.turn (m : M) (x : Int) (r : List Int) : M := { m with line := r ++ [x], marked := dropK m.marked (ki x) }
def spin : Nat → M → M
  | 0, m => m
  | f + 1, m => match m.line with
    | [] => m
    | x :: r => if (valV m.marked (ki x)).isSome = true then spin f (m.turn x r) else m
def M.gone (m : M) : M := match m.line with
  | [] => m
  | x :: r => { m with line := r, uses := dropK m.uses (ki x) }
def M.leave (m : M) : M := (spin m.marked.length m).gone
def M.has (m : M) (k : Int) : Bool := (valV m.uses (ki k)).isSome
def M.use (m : M) (k : Int) : M := if m.has k = true then m.again k else (if (m.uses.length : Int) = m.room then m.leave else m).come k
def M.fresh (rule room : Int) : M := ⟨rule, room, [], [], [], []⟩
/-! ### 2. Dicts -/
section
variable {κ : Type} [DecidableEq κ]
theorem keys_put_old {kvs : List (κ × V)} {k : κ} {v : V} (h : (valV kvs k).isSome = true) : (putK kvs k v).map (·.1) = kvs.map (·.1) := by
  unfold putK
  rw [valV_any, if_pos h, List.map_map]
  refine List.map_congr_left fun a _ => ?_
  show (if a.1 = k then (a.1, v) else a).1 = a.1
  split <;> rfl
theorem keys_put_new {kvs : List (κ × V)} {k : κ} {v : V} (h : valV kvs k = none) : (putK kvs k v).map (·.1) = kvs.map (·.1) ++ [k] := by
  rw [putK_new v h, List.map_append]
  rfl
theorem keys_drop {kvs : List (κ × V)} {k : κ} : (dropK kvs k).map (·.1) = (kvs.map (·.1)).filter fun x => decide (x ≠ k) := by
  unfold dropK
  rw [List.filter_map]
  rfl
theorem valV_drop (k j : κ) : ∀ kvs : List (κ × V), valV (dropK kvs k) j = if j = k then none else valV kvs j
  | [] => by
    show none = _
    split <;> rfl
  | p :: r => by
    have ih := valV_drop k j r
    by_cases e : p.1 = k
    · rw [dropK_pos e, ih]
      by_cases ej : j = k
      · rw [if_pos ej, if_pos ej]
      · rw [if_neg ej, if_neg ej, valV_neg fun z => ej (z.symm.trans e)]
    · rw [dropK_neg e]
      by_cases ep : p.1 = j
      · rw [valV_pos ep, valV_pos ep, if_neg fun z => e (ep.trans z)]
      · rw [valV_neg ep, valV_neg ep, ih]
theorem isSome_iff {kvs : List (κ × V)} {k : κ} : (valV kvs k).isSome = true ↔ k ∈ kvs.map (·.1) := by
  rw [← valV_any, List.any_eq_true, List.mem_map]
  constructor
  · rintro ⟨p, hp, e⟩
    exact ⟨p, hp, of_decide_eq_true e⟩
  · rintro ⟨p, hp, e⟩
    exact ⟨p, hp, decide_eq_true e⟩
end
/-- all the counts are whole numbers -/
def Ints (kvs : KVs) : Prop := ∀ k v, valV kvs k = some v → ∃ n, v = .int n
theorem Ints.put {kvs : KVs} (h : Ints kvs) (k : Key) (n : Int) : Ints (putK kvs k (.int n)) := by
  intro j v e
  rw [valV_put] at e
  split at e
  · exact ⟨n, (Option.some.inj e).symm⟩
  · exact h j v e
theorem Ints.drop {kvs : KVs} (h : Ints kvs) (k : Key) : Ints (dropK kvs k) := by
  intro j v e
  rw [valV_drop] at e
  split at e
  · cases e
  · exact h j v e
theorem Ints.at {kvs : KVs} (h : Ints kvs) {k : Int} (e : (valV kvs (ki k)).isSome = true) : valV kvs (ki k) = some (.int (cnt kvs k)) := by
  unfold cnt
  cases q : valV kvs (ki k) with
  | none => rw [q] at e; cases e
  | some v =>
    obtain ⟨n, rfl⟩ := h _ _ q
    rfl
theorem ki_inj {a b : Int} : ki a = ki b ↔ a = b := ⟨fun h => Sum.inl.inj h, fun h => congrArg _ h⟩
theorem cnt_put {kvs : KVs} {k j n : Int} : cnt (putK kvs (ki k) (.int n)) j = if j = k then n else cnt kvs j := by
  unfold cnt
  rw [valV_put]
  by_cases e : j = k
  · rw [if_pos (ki_inj.mpr e), if_pos e]
  · rw [if_neg fun z => e (ki_inj.mp z), if_neg e]
theorem cnt_of {kvs : KVs} {k n : Int} (h : valV kvs (ki k) = some (.int n)) : cnt kvs k = n := by
  unfold cnt
  rw [h]
end Cr
namespace Cr
open PySem L2
open Rb20 (sooner turned)
/-! ### 3. What the mirror's state has to do with the specification's cache -/
abbrev ik (e : Rb20.Entry) : Int := (e.key : Int)
structure Rel (m : M) (s : Rb20.Cache) (es : List Rb20.Entry) : Prop where
  rule : m.rule = (s.rule : Int)
  room : m.room = (s.room : Int)
  r4 : s.rule ≤ 4
  r1 : 1 ≤ s.room
  rM : s.room ≤ 1024
  perm : es.Perm s.first
  same : s.rule ≠ 2 → es = s.first
  srt : s.rule = 2 → es.Pairwise (fun x y => sooner x y = true)
  line : m.line = es.map ik
  safe : m.safe = s.safe.map ik
  nd : (m.line ++ m.safe).Nodup
  sf0 : s.rule ≠ 4 → s.safe = []
  sfL : s.safe.length ≤ s.room / 2
  len : m.line.length + m.safe.length ≤ s.room
  ukeys : (m.uses.map (·.1)).Perm ((m.line ++ m.safe).map ki)
  uints : Ints m.uses
  ucnt : s.rule = 2 → ∀ e ∈ es, cnt m.uses (ik e) = e.uses
  clk : s.rule = 2 → ∀ e ∈ es, e.last ≤ s.clock
  mnd : (m.marked.map (·.1)).Nodup
  mkeys : ∀ q ∈ m.marked.map (·.1), q ∈ m.line.map ki
  mks : s.rule = 3 → ∀ e ∈ es, (valV m.marked (ki (ik e))).isSome = e.mark
  nomk : s.rule ≠ 3 → m.marked = []
theorem mem_ki {k : Int} {l : List Int} : ki k ∈ l.map ki ↔ k ∈ l := by
  rw [List.mem_map]
  constructor
  · rintro ⟨a, ha, e⟩
    rw [← ki_inj.mp e]
    exact ha
  · intro h
    exact ⟨k, h, rfl⟩
theorem Rel.has {m : M} {s : Rb20.Cache} {es : List Rb20.Entry} (R : Rel m s es) (k : Int) : (valV m.uses (ki k)).isSome = true ↔ k ∈ m.line ++ m.safe := by
  rw [isSome_iff, R.ukeys.mem_iff, mem_ki]
theorem Rel.ulen {m : M} {s : Rb20.Cache} {es : List Rb20.Entry} (R : Rel m s es) : m.uses.length = m.line.length + m.safe.length := by
  have h := R.ukeys.length_eq
  rw [List.length_map, List.length_map, List.length_append] at h
  exact h
theorem Rel.mlen {m : M} {s : Rb20.Cache} {es : List Rb20.Entry} (R : Rel m s es) : m.marked.length ≤ m.line.length := by
  have h := R.mnd.length_le_of_subset (l₂ := m.line.map ki) fun q hq => R.mkeys q hq
  rw [List.length_map, List.length_map] at h
  exact h
theorem mem_ik {k : Nat} {l : List Rb20.Entry} : (k : Int) ∈ l.map ik ↔ ∃ e ∈ l, e.key = k := by
  rw [List.mem_map]
  constructor
  · rintro ⟨e, he, h⟩
    exact ⟨e, he, by have h : (e.key : Int) = (k : Int) := h; omega⟩
  · rintro ⟨e, he, rfl⟩
    exact ⟨e, he, rfl⟩
theorem Rel.ll {m : M} {s : Rb20.Cache} {es : List Rb20.Entry} (R : Rel m s es) : m.line.length = s.first.length := by
  rw [R.line, List.length_map, R.perm.length_eq]
theorem Rel.sl {m : M} {s : Rb20.Cache} {es : List Rb20.Entry} (R : Rel m s es) : m.safe.length = s.safe.length := by
  rw [R.safe, List.length_map]
theorem Rel.mem {m : M} {s : Rb20.Cache} {es : List Rb20.Entry} (R : Rel m s es) (k : Nat) : (k : Int) ∈ m.line ++ m.safe ↔ ∃ e ∈ s.all, e.key = k := by
  rw [R.line, R.safe, ← List.map_append, mem_ik]
  constructor
  · rintro ⟨e, he, h⟩
    refine ⟨e, ?_, h⟩
    rcases List.mem_append.mp he with q | q
    · exact List.mem_append.mpr (.inl (R.perm.mem_iff.mp q))
    · exact List.mem_append.mpr (.inr q)
  · rintro ⟨e, he, h⟩
    refine ⟨e, ?_, h⟩
    rcases List.mem_append.mp he with q | q
    · exact List.mem_append.mpr (.inl (R.perm.mem_iff.mpr q))
    · exact List.mem_append.mpr (.inr q)
theorem Rel.holds {m : M} {s : Rb20.Cache} {es : List Rb20.Entry} (R : Rel m s es) (k : Nat) : s.holds k = m.has (k : Int) := by
  have h1 : s.holds k = true ↔ ∃ e ∈ s.all, e.key = k := by
    unfold Rb20.Cache.holds
    rw [List.any_eq_true]
    constructor
    · rintro ⟨e, he, h⟩
      exact ⟨e, he, beq_iff_eq.mp h⟩
    · rintro ⟨e, he, h⟩
      exact ⟨e, he, beq_iff_eq.mpr h⟩
  have h2 : m.has (k : Int) = true ↔ ∃ e ∈ s.all, e.key = k := (R.has k).trans (R.mem k)
  exact Bool.eq_iff_iff.mpr (h1.trans h2.symm)
/-! ### 4. Lists -/
theorem without_map {k : Nat} {l : List Rb20.Entry} (h : (l.map ik).Nodup) : (Rb20.without k l).map ik = (l.map ik).erase (k : Int) := by
  rw [h.erase_eq_filter, List.filter_map]
  unfold Rb20.without
  refine congrArg _ (List.filter_congr fun x _ => ?_)
  show (x.key != k) = ((x.key : Int) != (k : Int))
  rw [Bool.eq_iff_iff, bne_iff_ne, bne_iff_ne]
  omega
theorem without_no {k : Nat} {l : List Rb20.Entry} (h : ¬ (k : Int) ∈ l.map ik) : Rb20.without k l = l := by
  unfold Rb20.without
  rw [List.filter_eq_self]
  intro a ha
  rw [bne_iff_ne]
  intro e
  exact h (mem_ik.mpr ⟨a, ha, e⟩)
theorem without_mem {k : Nat} {l : List Rb20.Entry} {e : Rb20.Entry} (h : e ∈ Rb20.without k l) : e ∈ l ∧ e.key ≠ k := by
  unfold Rb20.without at h
  rw [List.mem_filter, bne_iff_ne] at h
  exact h
theorem sooner_iff {x y : Rb20.Entry} : sooner x y = true ↔ x.uses < y.uses ∨ (x.uses = y.uses ∧ x.last < y.last) := by
  unfold sooner
  rw [Bool.or_eq_true, Bool.and_eq_true, decide_eq_true_iff, decide_eq_true_iff, beq_iff_eq]
/-- the entry goes behind all that have no more uses -/
def ins (e : Rb20.Entry) (l : List Rb20.Entry) : List Rb20.Entry := (l.filter fun x => decide (x.uses ≤ e.uses)) ++ e :: l.filter fun x => decide (e.uses < x.uses)
theorem ins_perm (e : Rb20.Entry) (l : List Rb20.Entry) : (ins e l).Perm (e :: l) := by
  unfold ins
  refine List.perm_middle.trans (List.Perm.cons e ?_)
  have q := List.filter_append_perm (fun x : Rb20.Entry => decide (x.uses ≤ e.uses)) l
  have c : (l.filter fun x => !decide (x.uses ≤ e.uses)) = l.filter fun x => decide (e.uses < x.uses) := by
    refine List.filter_congr fun x _ => ?_
    rw [Bool.eq_iff_iff, Bool.not_eq_true', decide_eq_false_iff_not, decide_eq_true_iff]
    omega
  rw [c] at q
  exact q
theorem ins_srt {e : Rb20.Entry} {l : List Rb20.Entry} (h : l.Pairwise (fun x y => sooner x y = true)) (ht : ∀ x ∈ l, x.last < e.last) : (ins e l).Pairwise (fun x y => sooner x y = true) := by
  unfold ins
  rw [List.pairwise_append, List.pairwise_cons]
  refine ⟨h.filter _, ⟨fun a ha => ?_, h.filter _⟩, fun a ha b hb => ?_⟩
  · rw [List.mem_filter, decide_eq_true_iff] at ha
    exact sooner_iff.mpr (.inl ha.2)
  · rw [List.mem_filter, decide_eq_true_iff] at ha
    have hx := ht a ha.1
    rcases List.mem_cons.mp hb with q | q
    · subst q
      exact sooner_iff.mpr (by omega)
    · rw [List.mem_filter, decide_eq_true_iff] at q
      exact sooner_iff.mpr (by omega)
theorem ins_map {kvs : KVs} {e : Rb20.Entry} {l : List Rb20.Entry} (hc : ∀ x ∈ l, cnt kvs (ik x) = x.uses) : (ins e l).map ik = lowPart kvs e.uses (l.map ik) ++ ik e :: highPart kvs e.uses (l.map ik) := by
  unfold ins lowPart highPart
  rw [List.map_append, List.map_cons, List.filter_map, List.filter_map]
  congr 1
  · refine congrArg _ (List.filter_congr fun x hx => ?_)
    show decide (x.uses ≤ e.uses) = decide (cnt kvs (ik x) ≤ e.uses)
    rw [hc x hx, Bool.eq_iff_iff, decide_eq_true_iff, decide_eq_true_iff]
    omega
  · refine congrArg _ (congrArg _ (List.filter_congr fun x hx => ?_))
    show decide (e.uses < x.uses) = decide ((e.uses : Int) < cnt kvs (ik x))
    rw [hc x hx, Bool.eq_iff_iff, decide_eq_true_iff, decide_eq_true_iff]
    omega
/-- of a row in order the first leaves first -/
theorem first_of : ∀ (l : List Rb20.Entry) (a : Rb20.Entry), (l.foldl (fun a b => if sooner b a = true then b else a) a) ∈ a :: l ∧ ∀ b ∈ a :: l, sooner b (l.foldl (fun a b => if sooner b a = true then b else a) a) ≠ true
  | [], a => by
    refine ⟨List.mem_cons_self, fun b hb => ?_⟩
    have e : b = a := by simpa using hb
    subst e
    show sooner b b ≠ true
    rw [Ne, sooner_iff]
    omega
  | c :: r, a => by
    rw [List.foldl_cons]
    by_cases h : sooner c a = true
    · rw [if_pos h]
      obtain ⟨h1, h2⟩ := first_of r c
      refine ⟨List.mem_cons_of_mem _ h1, fun b hb => ?_⟩
      rcases List.mem_cons.mp hb with q | q
      · subst q
        have z := h2 c List.mem_cons_self
        rw [Ne, sooner_iff] at z ⊢
        rw [sooner_iff] at h
        omega
      · exact h2 b q
    · rw [if_neg h]
      obtain ⟨h1, h2⟩ := first_of r a
      refine ⟨?_, fun b hb => ?_⟩
      · rcases List.mem_cons.mp h1 with q | q
        · rw [q]
          exact List.mem_cons_self
        · exact List.mem_cons_of_mem _ (List.mem_cons_of_mem _ q)
      · rcases List.mem_cons.mp hb with q | q
        · subst q
          exact h2 b List.mem_cons_self
        · rcases List.mem_cons.mp q with q | q
          · subst q
            have z := h2 a List.mem_cons_self
            rw [Ne, sooner_iff] at z ⊢
            rw [sooner_iff] at h
            omega
          · exact h2 b (List.mem_cons_of_mem _ q)
theorem first_is {y x : Rb20.Entry} {es r : List Rb20.Entry} (hs : (y :: es).Pairwise (fun x y => sooner x y = true)) (hp : (y :: es).Perm (x :: r)) : (r.foldl (fun a b => if sooner b a = true then b else a) x) = y := by
  obtain ⟨h1, h2⟩ := first_of r x
  generalize (r.foldl (fun a b => if sooner b a = true then b else a) x) = z at h1 h2
  have hz := hp.mem_iff.mpr h1
  have hy := h2 y (hp.mem_iff.mp List.mem_cons_self)
  rcases List.mem_cons.mp hz with q | q
  · exact q
  · exact absurd ((List.pairwise_cons.mp hs).1 z q) hy
end Cr
namespace Cr
open PySem L2
open Rb20 (sooner turned)
/-! ### 5. One leaves -/
theorem cnt_drop {kvs : KVs} {k j : Int} (h : j ≠ k) : cnt (dropK kvs (ki k)) j = cnt kvs j := by
  unfold cnt
  rw [valV_drop, if_neg fun z => h (ki_inj.mp z)]
theorem Rel.ndl {m : M} {s : Rb20.Cache} {es : List Rb20.Entry} (R : Rel m s es) : (es.map ik).Nodup := by
  have h := R.nd
  rw [R.line] at h
  exact (List.nodup_append.mp h).1
theorem Rel.turn {m : M} {s : Rb20.Cache} {x : Rb20.Entry} {r : List Rb20.Entry} (R : Rel m s (x :: r)) (h3 : s.rule = 3) :
    Rel (m.turn (ik x) (r.map ik)) { s with first := r ++ [{ x with mark := false }] } (r ++ [{ x with mark := false }]) := by
  have hl : m.line = ik x :: r.map ik := R.line
  have hp : (r.map ik ++ [ik x]).Perm m.line := by
    rw [hl]
    exact List.perm_append_comm
  have hp2 : ((r.map ik ++ [ik x]) ++ m.safe).Perm (m.line ++ m.safe) := hp.append_right _
  have h2 : ¬ s.rule = 2 := by omega
  have hn := R.ndl
  rw [List.map_cons, List.nodup_cons] at hn
  refine ⟨R.rule, R.room, R.r4, R.r1, R.rM, .refl _, fun _ => rfl, fun z => absurd z h2, ?_, R.safe, hp2.nodup_iff.mpr R.nd, R.sf0, R.sfL, ?_, R.ukeys.trans (hp2.symm.map _), R.uints, fun z => absurd z h2, fun z => absurd z h2, nd_dropK R.mnd, ?_, ?_, fun z => absurd h3 z⟩
  · show r.map ik ++ [ik x] = _
    rw [List.map_append]
    rfl
  · show (r.map ik ++ [ik x]).length + m.safe.length ≤ s.room
    rw [hp.length_eq]
    exact R.len
  · intro q hq
    show q ∈ (r.map ik ++ [ik x]).map ki
    rw [(hp.map ki).mem_iff]
    change q ∈ (dropK m.marked (ki (ik x))).map (·.1) at hq
    rw [keys_drop, List.mem_filter] at hq
    exact R.mkeys q hq.1
  · intro _ e he
    show (valV (dropK m.marked (ki (ik x))) (ki (ik e))).isSome = e.mark
    rw [valV_drop]
    rcases List.mem_append.mp he with q | q
    · have ne : ik e ≠ ik x := fun z => hn.1 (by rw [← z]; exact List.mem_map_of_mem q)
      rw [if_neg fun z => ne (ki_inj.mp z)]
      exact R.mks h3 e (List.mem_cons_of_mem _ q)
    · have e1 := List.mem_singleton.mp q
      subst e1
      rw [if_pos rfl]
      rfl
theorem Rel.spin : ∀ (n : Nat) {m : M} {s : Rb20.Cache} {es : List Rb20.Entry} (f : Nat), m.marked.length = n → Rel m s es → s.rule = 3 → n < f → es = s.first →
    Rel (spin n m) { s with first := turned f es } (turned f es) ∧ (turned f es).length = es.length ∧ ∀ x r, turned f es = x :: r → x.mark = false := by
  intro n
  induction n with
  | zero =>
    intro m s es f hn R h3 hf he
    obtain ⟨f, rfl⟩ : ∃ g, f = g + 1 := ⟨f - 1, by omega⟩
    cases es with
    | nil =>
      refine ⟨?_, rfl, fun x r z => by cases z⟩
      show Rel m { s with first := [] } []
      rw [he]
      rw [he] at R
      exact R
    | cons x r =>
      have hm : x.mark = false := by
        have q := R.mks h3 x List.mem_cons_self
        rw [List.length_eq_zero_iff.mp hn] at q
        exact q.symm
      have ht : turned (f + 1) (x :: r) = x :: r := by
        show (if x.mark = true then _ else x :: r) = x :: r
        rw [hm]
        rfl
      rw [ht]
      refine ⟨?_, rfl, fun y t z => by rw [← (List.cons.inj z).1]; exact hm⟩
      show Rel m { s with first := x :: r } (x :: r)
      rw [he]
      rw [he] at R
      exact R
  | succ n ih =>
    intro m s es f hn R h3 hf he
    obtain ⟨f, rfl⟩ : ∃ g, f = g + 1 := ⟨f - 1, by omega⟩
    cases es with
    | nil =>
      have hl : m.line = [] := R.line
      refine ⟨?_, rfl, fun x r z => by cases z⟩
      have e1 : Cr.spin (n + 1) m = m := by
        unfold Cr.spin
        rw [hl]
      rw [e1]
      show Rel m { s with first := [] } []
      rw [he]
      rw [he] at R
      exact R
    | cons x r =>
      have hl : m.line = ik x :: r.map ik := R.line
      have hq := R.mks h3 x List.mem_cons_self
      have e1 : Cr.spin (n + 1) m = if (valV m.marked (ki (ik x))).isSome = true then Cr.spin n (m.turn (ik x) (r.map ik)) else m := by
        conv => lhs; unfold Cr.spin
        rw [hl]
      cases hm : x.mark with
      | false =>
        rw [hm] at hq
        have ht : turned (f + 1) (x :: r) = x :: r := by
          show (if x.mark = true then _ else x :: r) = x :: r
          rw [hm]
          rfl
        rw [ht, e1, hq]
        refine ⟨?_, rfl, fun y t z => by rw [← (List.cons.inj z).1]; exact hm⟩
        show Rel m { s with first := x :: r } (x :: r)
        rw [he]
        rw [he] at R
        exact R
      | true =>
        rw [hm] at hq
        have ht : turned (f + 1) (x :: r) = turned f (r ++ [{ x with mark := false }]) := by
          show (if x.mark = true then turned f (r ++ [{ x with mark := false }]) else x :: r) = _
          rw [hm]
          rfl
        rw [ht, e1, hq, if_pos rfl]
        have hd : (m.turn (ik x) (r.map ik)).marked.length = n := by
          have q := dropK_len R.mnd (isSome_iff.mp hq)
          show (dropK m.marked (ki (ik x))).length = n
          omega
        obtain ⟨a, b, c⟩ := ih f hd (R.turn h3) h3 (by omega) rfl
        refine ⟨a, ?_, c⟩
        rw [b, List.length_append]
        rfl
theorem Rel.gone {m : M} {s : Rb20.Cache} {x : Rb20.Entry} {r F : List Rb20.Entry} (R : Rel m s (x :: r)) (hm : s.rule = 3 → x.mark = false) (hF : r.Perm F) (hs : s.rule ≠ 2 → F = r) : Rel m.gone { s with first := F } r := by
  have hl : m.line = ik x :: r.map ik := R.line
  have eg : m.gone = { m with line := r.map ik, uses := dropK m.uses (ki (ik x)) } := by
    unfold M.gone
    rw [hl]
  have hnd := R.nd
  rw [hl, List.cons_append, List.nodup_cons] at hnd
  have hn := R.ndl
  rw [List.map_cons, List.nodup_cons] at hn
  rw [eg]
  refine ⟨R.rule, R.room, R.r4, R.r1, R.rM, hF, fun z => (hs z).symm, fun z => (List.pairwise_cons.mp (R.srt z)).2, rfl, R.safe, hnd.2, R.sf0, R.sfL, ?_, ?_, R.uints.drop _, fun z e he => ?_, fun z e he => R.clk z e (List.mem_cons_of_mem _ he), R.mnd, fun q hq => ?_, fun z e he => R.mks z e (List.mem_cons_of_mem _ he), R.nomk⟩
  · have q := R.len
    rw [hl, List.length_cons] at q
    show (r.map ik).length + m.safe.length ≤ s.room
    omega
  · show ((dropK m.uses (ki (ik x))).map (·.1)).Perm ((r.map ik ++ m.safe).map ki)
    rw [keys_drop]
    have q := R.ukeys.filter (fun z => decide (z ≠ ki (ik x)))
    rw [hl, List.cons_append, List.map_cons, List.filter_cons, if_neg (by simp)] at q
    have c : ((r.map ik ++ m.safe).map ki).filter (fun z => decide (z ≠ ki (ik x))) = (r.map ik ++ m.safe).map ki := by
      rw [List.filter_eq_self]
      intro a ha
      rw [decide_eq_true_iff]
      intro z
      rw [z, mem_ki] at ha
      exact hnd.1 ha
    rw [c] at q
    exact q
  · show cnt (dropK m.uses (ki (ik x))) (ik e) = e.uses
    have ne : ik e ≠ ik x := fun z => hn.1 (by rw [← z]; exact List.mem_map_of_mem he)
    rw [cnt_drop ne]
    exact R.ucnt z e (List.mem_cons_of_mem _ he)
  · have h3 : s.rule = 3 := by
      by_cases h3 : s.rule = 3
      · exact h3
      · change q ∈ m.marked.map (·.1) at hq
        rw [R.nomk h3] at hq
        cases hq
    have a := R.mkeys q hq
    rw [hl, List.map_cons] at a
    rcases List.mem_cons.mp a with z | z
    · have b := R.mks h3 x List.mem_cons_self
      rw [hm h3, ← z] at b
      rw [isSome_iff.mpr hq] at b
      cases b
    · exact z
/-- what stands in the way of nothing else: the leaving of one -/
theorem Rel.leave {m : M} {s : Rb20.Cache} {es : List Rb20.Entry} (R : Rel m s es) (hne : es ≠ []) :
    ∃ (g : Nat) (s' : Rb20.Cache) (es' : List Rb20.Entry), Rb20.leaves s = some (g, s') ∧ Rel m.leave s' es' ∧ s'.clock = s.clock ∧ s'.rule = s.rule ∧ s'.room = s.room ∧ s'.safe = s.safe ∧ s'.first.length + 1 = s.first.length ∧ (∀ e ∈ s'.first, ∃ e' ∈ s.first, e'.key = e.key) := by
  by_cases h2 : s.rule = 2
  · cases es with
    | nil => exact absurd rfl hne
    | cons y r =>
      have hp := R.perm
      cases hf : s.first with
      | nil =>
        rw [hf] at hp
        exact absurd hp.length_eq (by simp)
      | cons x t =>
        rw [hf] at hp
        have e1 := first_is (R.srt h2) hp
        have hm : m.marked = [] := R.nomk (by omega)
        have e2 : m.leave = m.gone := by
          unfold M.leave
          rw [hm]
          rfl
        have hy : s.rule = 3 → y.mark = false := fun z => absurd (h2.symm.trans z) (by decide)
        have hn := R.ndl
        rw [List.map_cons, List.nodup_cons] at hn
        have e3 : Rb20.without y.key (y :: r) = r := by
          have q : Rb20.without y.key r = r := without_no hn.1
          unfold Rb20.without at q ⊢
          rw [List.filter_cons, if_neg (by simp), q]
        have hF : r.Perm (Rb20.without y.key (x :: t)) := by
          have q := hp.filter (fun z => z.key != y.key)
          change (Rb20.without y.key (y :: r)).Perm (Rb20.without y.key (x :: t)) at q
          rw [e3] at q
          exact q
        refine ⟨y.key, { s with first := Rb20.without y.key (x :: t) }, r, ?_, ?_, rfl, rfl, rfl, rfl, ?_, fun e he => ⟨e, (without_mem he).1, rfl⟩⟩
        · unfold Rb20.leaves
          rw [if_pos h2, hf]
          show some (_, _) = _
          rw [e1]
        · rw [e2]
          exact R.gone hy hF fun z => absurd h2 z
        · show (Rb20.without y.key (x :: t)).length + 1 = (x :: t).length
          rw [← hF.length_eq, ← hp.length_eq]
          rfl
  · have hes := R.same h2
    by_cases h3 : s.rule = 3
    · have hlt : m.marked.length < s.first.length + 1 := by
        have a := R.mlen
        rw [R.ll] at a
        omega
      obtain ⟨a, b, c⟩ := Rel.spin m.marked.length (s.first.length + 1) rfl R h3 hlt hes
      cases ht : turned (s.first.length + 1) es with
      | nil =>
        rw [ht] at b
        exact absurd (List.length_eq_zero_iff.mp b.symm) hne
      | cons x r =>
        rw [ht] at a b
        refine ⟨x.key, { s with first := r }, r, ?_, a.gone (fun _ => c x r ht) (.refl _) fun _ => rfl, rfl, rfl, rfl, rfl, ?_, fun e he => ?_⟩
        · unfold Rb20.leaves
          rw [if_neg h2, if_pos h3, ← hes]
          show (match turned (es.length + 1) es with | x :: r => _ | [] => _) = _
          have ht' : turned (es.length + 1) es = x :: r := by
            rw [hes] at ht ⊢
            exact ht
          rw [ht']
        · show r.length + 1 = s.first.length
          rw [← hes, ← b]
          rfl
        · have hk : (e.key : Int) ∈ (Cr.spin m.marked.length m).line ++ (Cr.spin m.marked.length m).safe := (a.mem e.key).mpr ⟨e, List.mem_append.mpr (.inl (List.mem_cons_of_mem _ he)), rfl⟩
          have hu : ∀ (n : Nat) (m : M), (Cr.spin n m).uses = m.uses := by
            intro n
            induction n with
            | zero => exact fun m => rfl
            | succ n ih =>
              intro m
              unfold Cr.spin
              split
              · rfl
              · split
                · rw [ih]
                  rfl
                · rfl
          have h1 := (a.has e.key).mpr hk
          rw [hu] at h1
          have h4 := (R.mem e.key).mp ((R.has e.key).mp h1)
          obtain ⟨e', h5, h6⟩ := h4
          unfold Rb20.Cache.all at h5
          rw [R.sf0 (by omega), List.append_nil] at h5
          exact ⟨e', h5, h6⟩
    · have hm : m.marked = [] := R.nomk h3
      have e2 : m.leave = m.gone := by
        unfold M.leave
        rw [hm]
        rfl
      cases es with
      | nil => exact absurd rfl hne
      | cons y r =>
        have hy : s.rule = 3 → y.mark = false := fun z => absurd z h3
        refine ⟨y.key, { s with first := r }, r, ?_, ?_, rfl, rfl, rfl, rfl, ?_, fun e he => ?_⟩
        · unfold Rb20.leaves
          rw [if_neg h2, if_neg h3, ← hes]
        · rw [e2]
          exact R.gone hy (.refl _) fun _ => rfl
        · rw [← hes]
          rfl
        · rw [← hes]
          exact ⟨e, List.mem_cons_of_mem _ he, rfl⟩
end Cr
namespace Cr
open PySem L2
open Rb20 (sooner turned)
/-! ### 6. One comes -/
theorem cnt_has {kvs : KVs} {k n : Int} (h : Ints kvs) (hs : (valV kvs (ki k)).isSome = true) (e : cnt kvs k = n) : valV kvs (ki k) = some (.int n) := by
  rw [h.at hs, e]
/-- the mirror with another line, and one key more that is counted 1 -/
theorem Rel.add {m : M} {s : Rb20.Cache} {es es' : List Rb20.Entry} {t : Nat} {k : Nat} {L : List Int} (R : Rel m s es) (hk : ¬ (k : Int) ∈ m.line ++ m.safe) (hlen : m.line.length + m.safe.length + 1 ≤ s.room)
    (hp : es'.Perm (es ++ [⟨k, 1, t, false⟩])) (hs : s.rule ≠ 2 → es' = es ++ [⟨k, 1, t, false⟩]) (hq : s.rule = 2 → es'.Pairwise (fun x y => sooner x y = true)) (hL : L = es'.map ik) (ht : s.clock ≤ t) :
    Rel { m.put1 (k : Int) with line := L } { s with clock := t, first := s.first ++ [⟨k, 1, t, false⟩] } es' := by
  have hno : valV m.uses (ki (k : Int)) = none := by
    cases z : valV m.uses (ki (k : Int)) with
    | none => rfl
    | some v => exact absurd ((R.has (k : Int)).mp (by rw [z]; rfl)) hk
  have hLp : L.Perm (m.line ++ [(k : Int)]) := by
    rw [hL, R.line]
    have q := hp.map ik
    rw [List.map_append] at q
    exact q
  have hall : (L ++ m.safe).Perm ((m.line ++ m.safe) ++ [(k : Int)]) := by
    refine (hLp.append_right m.safe).trans ?_
    rw [List.append_assoc, List.append_assoc]
    exact List.Perm.append_left _ List.perm_append_comm
  have hnd2 : ((m.line ++ m.safe) ++ [(k : Int)]).Nodup := nd_snoc R.nd hk
  have hkl : ¬ (k : Int) ∈ m.line := fun z => hk (List.mem_append.mpr (.inl z))
  refine ⟨R.rule, R.room, R.r4, R.r1, R.rM, ?_, fun z => ?_, hq, hL, R.safe, hall.nodup_iff.mpr hnd2, R.sf0, R.sfL, ?_, ?_, R.uints.put _ _, fun z e he => ?_, fun z e he => ?_, R.mnd, fun q hq => ?_, fun z3 e he => ?_, R.nomk⟩
  · exact hp.trans (R.perm.append_right _)
  · rw [hs z, R.same z]
  · have a := hLp.length_eq
    rw [List.length_append] at a
    show L.length + m.safe.length ≤ s.room
    rw [a]
    show m.line.length + 1 + m.safe.length ≤ s.room
    omega
  · show ((putK m.uses (ki (k : Int)) (.int 1)).map (·.1)).Perm ((L ++ m.safe).map ki)
    rw [keys_put_new hno]
    refine List.Perm.trans ?_ (hall.map ki).symm
    rw [List.map_append]
    exact R.ukeys.append_right _
  · show cnt (putK m.uses (ki (k : Int)) (.int 1)) (ik e) = e.uses
    rw [cnt_put]
    rcases List.mem_append.mp (hp.mem_iff.mp he) with q | q
    · have ne : ¬ ik e = (k : Int) := fun y => hkl (by rw [R.line, ← y]; exact List.mem_map_of_mem q)
      rw [if_neg ne]
      exact R.ucnt z e q
    · have e1 := List.mem_singleton.mp q
      subst e1
      rw [if_pos rfl]
      rfl
  · show e.last ≤ t
    rcases List.mem_append.mp (hp.mem_iff.mp he) with q | q
    · exact Nat.le_trans (R.clk z e q) ht
    · have e1 := List.mem_singleton.mp q
      subst e1
      exact Nat.le_refl _
  · show q ∈ L.map ki
    rw [(hLp.map ki).mem_iff, List.map_append, List.mem_append]
    exact .inl (R.mkeys q hq)
  · show (valV m.marked (ki (ik e))).isSome = e.mark
    rcases List.mem_append.mp (hp.mem_iff.mp he) with q | q
    · exact R.mks z3 e q
    · have e1 := List.mem_singleton.mp q
      subst e1
      show (valV m.marked (ki (k : Int))).isSome = false
      cases z : (valV m.marked (ki (k : Int))).isSome with
      | false => rfl
      | true => exact absurd (mem_ki.mp (R.mkeys _ (isSome_iff.mp z))) hkl
theorem cnt_put_ne {kvs : KVs} {k n : Int} {l : List Rb20.Entry} (hk : ¬ k ∈ l.map ik) (hc : ∀ x ∈ l, cnt kvs (ik x) = x.uses) : ∀ x ∈ l, cnt (putK kvs (ki k) (.int n)) (ik x) = x.uses := by
  intro x hx
  rw [cnt_put, if_neg fun (z : ik x = k) => hk (by rw [← z]; exact List.mem_map_of_mem hx)]
  exact hc x hx
theorem Rel.come {m : M} {s : Rb20.Cache} {es : List Rb20.Entry} {k : Nat} (R : Rel m s es) (hk : ¬ (k : Int) ∈ m.line ++ m.safe) (hlen : m.line.length + m.safe.length + 1 ≤ s.room) :
    ∃ es', Rel (m.come (k : Int)) { s with clock := s.clock + 1, first := s.first ++ [⟨k, 1, s.clock + 1, false⟩] } es' := by
  have hkl : ¬ (k : Int) ∈ es.map ik := fun z => hk (List.mem_append.mpr (.inl (by rw [R.line]; exact z)))
  by_cases h2 : s.rule = 2
  · have hc := cnt_put_ne (n := 1) hkl (R.ucnt h2)
    have hm : m.come (k : Int) = { m.put1 (k : Int) with line := (ins ⟨k, 1, s.clock + 1, false⟩ es).map ik } := by
      unfold M.come
      rw [if_pos (by rw [R.rule, h2]; rfl)]
      unfold M.place
      have e1 : cnt (m.put1 (k : Int)).uses (k : Int) = 1 := by
        show cnt (putK m.uses (ki (k : Int)) (.int 1)) (k : Int) = 1
        rw [cnt_put, if_pos rfl]
      rw [e1, ins_map (kvs := (m.put1 (k : Int)).uses) hc, ← R.line]
      rfl
    refine ⟨ins ⟨k, 1, s.clock + 1, false⟩ es, ?_⟩
    rw [hm]
    refine R.add hk hlen ?_ (fun z => absurd h2 z) (fun _ => ins_srt (R.srt h2) fun x hx => ?_) rfl (Nat.le_succ _)
    · exact (ins_perm _ es).trans (List.perm_append_comm (l₁ := [_]))
    · have q := R.clk h2 x hx
      show x.last < s.clock + 1
      omega
  · have hm : m.come (k : Int) = { m.put1 (k : Int) with line := m.line ++ [(k : Int)] } := by
      unfold M.come
      rw [if_neg (by rw [R.rule]; omega)]
    refine ⟨es ++ [⟨k, 1, s.clock + 1, false⟩], ?_⟩
    rw [hm]
    refine R.add hk hlen (.refl _) (fun _ => rfl) (fun z => absurd z h2) ?_ (Nat.le_succ _)
    rw [List.map_append, R.line]
    rfl
/-! ### 7. One that is there is used -/
theorem after_eq (u : Nat) : after (u : Int) = ((min (u + 1) Rb20.TOP : Nat) : Int) := by
  unfold after TOP Rb20.TOP
  split <;> omega
theorem hit_some {s : Rb20.Cache} {k : Nat} {x : Rb20.Entry} (hf : (s.all.find? fun x => x.key == k) = some x) : Rb20.hit s k =
    if s.rule = 0 then { s with clock := s.clock + 1 }
    else if s.rule = 1 then { s with clock := s.clock + 1, first := Rb20.without k s.first ++ [Rb20.again (s.clock + 1) x] }
    else if s.rule = 2 then { s with clock := s.clock + 1, first := s.first.map fun y => if y.key = k then Rb20.again (s.clock + 1) y else y }
    else if s.rule = 3 then { s with clock := s.clock + 1, first := s.first.map fun y => if y.key = k then { y with mark := true } else y }
    else if s.room / 2 < (Rb20.without k s.safe ++ [Rb20.again (s.clock + 1) x]).length then
      { s with clock := s.clock + 1, first := Rb20.without k s.first ++ (Rb20.without k s.safe ++ [Rb20.again (s.clock + 1) x]).take 1, safe := (Rb20.without k s.safe ++ [Rb20.again (s.clock + 1) x]).drop 1 }
    else { s with clock := s.clock + 1, first := Rb20.without k s.first, safe := Rb20.without k s.safe ++ [Rb20.again (s.clock + 1) x] } := by
  unfold Rb20.hit
  show (match (s.all.find? fun x => x.key == k) with | none => _ | some x => _) = _
  rw [hf]
theorem find_some {s : Rb20.Cache} {k : Nat} (h : ∃ e ∈ s.all, e.key = k) : ∃ x, (s.all.find? fun x => x.key == k) = some x ∧ x ∈ s.all ∧ x.key = k := by
  obtain ⟨e, he, hk⟩ := h
  cases hf : s.all.find? fun x => x.key == k with
  | none =>
    have q := List.find?_eq_none.mp hf e he
    rw [hk] at q
    exact absurd (beq_self_eq_true k) q
  | some x =>
    refine ⟨x, rfl, List.mem_of_find?_eq_some hf, ?_⟩
    have q := List.find?_some hf
    exact beq_iff_eq.mp q
/-- the count alone -/
theorem Rel.count {m : M} {s : Rb20.Cache} {es : List Rb20.Entry} {t : Nat} {k : Int} (R : Rel m s es) (h2 : ¬ s.rule = 2) (hk : k ∈ m.line ++ m.safe) : Rel (m.count k) { s with clock := t } es := by
  have hh := (R.has k).mpr hk
  refine ⟨R.rule, R.room, R.r4, R.r1, R.rM, R.perm, R.same, fun z => absurd z h2, R.line, R.safe, R.nd, R.sf0, R.sfL, R.len, ?_, R.uints.put _ _, fun z => absurd z h2, fun z => absurd z h2, R.mnd, R.mkeys, R.mks, R.nomk⟩
  show ((putK m.uses (ki k) (.int (after (cnt m.uses k)))).map (·.1)).Perm ((m.line ++ m.safe).map ki)
  rw [keys_put_old hh]
  exact R.ukeys
/-- both lines anew, of the same keys; no marks -/
theorem Rel.move {m : M} {s : Rb20.Cache} {es : List Rb20.Entry} {F S : List Rb20.Entry} {L Z : List Int} (R : Rel m s es) (h2 : ¬ s.rule = 2) (h3 : ¬ s.rule = 3) (hL : L = F.map ik) (hZ : Z = S.map ik) (hp : (L ++ Z).Perm (m.line ++ m.safe))
    (hS : s.rule ≠ 4 → S = []) (hSl : S.length ≤ s.room / 2) : Rel { m with line := L, safe := Z } { s with first := F, safe := S } F := by
  have hm := R.nomk h3
  refine ⟨R.rule, R.room, R.r4, R.r1, R.rM, .refl _, fun _ => rfl, fun z => absurd z h2, hL, hZ, hp.nodup_iff.mpr R.nd, hS, hSl, ?_, R.ukeys.trans (hp.symm.map _), R.uints, fun z => absurd z h2, fun z => absurd z h2, R.mnd, fun q hq => ?_, fun z => absurd z h3, R.nomk⟩
  · have a := hp.length_eq
    rw [List.length_append, List.length_append] at a
    show L.length + Z.length ≤ s.room
    rw [a]
    exact R.len
  · rw [show ({ m with line := L, safe := Z } : M).marked = m.marked from rfl, hm] at hq
    cases hq
theorem erase_snoc_perm {l : List Int} {k : Int} (h : k ∈ l) : (l.erase k ++ [k]).Perm l :=
  List.perm_append_comm.trans (List.perm_cons_erase h).symm
end Cr
namespace Cr
open PySem L2
open Rb20 (sooner turned)
theorem split_at {x : Rb20.Entry} {l : List Rb20.Entry} (hx : x ∈ l) (hn : (l.map ik).Nodup) : l.Perm (x :: Rb20.without x.key l) ∧ ∀ e ∈ l, e.key = x.key → e = x := by
  obtain ⟨a, b, rfl⟩ := List.append_of_mem hx
  rw [List.map_append, List.map_cons, List.nodup_append, List.nodup_cons] at hn
  obtain ⟨_, ⟨h1, _⟩, h2⟩ := hn
  have ha : ¬ (x.key : Int) ∈ a.map ik := fun z => h2 _ z _ List.mem_cons_self rfl
  have hb : ¬ (x.key : Int) ∈ b.map ik := h1
  have e1 : Rb20.without x.key (a ++ x :: b) = a ++ b := by
    have q1 := without_no ha
    have q2 := without_no hb
    unfold Rb20.without at q1 q2 ⊢
    rw [List.filter_append, List.filter_cons, if_neg (by simp), q1, q2]
  refine ⟨?_, fun e he hk => ?_⟩
  · rw [e1]
    exact List.perm_middle
  · rcases List.mem_append.mp he with q | q
    · exact absurd (mem_ik.mpr ⟨e, q, hk⟩) ha
    · rcases List.mem_cons.mp q with q | q
      · exact q
      · exact absurd (mem_ik.mpr ⟨e, q, hk⟩) hb
theorem Rel.again {m : M} {s : Rb20.Cache} {es : List Rb20.Entry} {k : Nat} (R : Rel m s es) (hk : (k : Int) ∈ m.line ++ m.safe) : ∃ es', Rel (m.again (k : Int)) (Rb20.hit s k) es' := by
  obtain ⟨x, hf, hx, hxk⟩ := find_some ((R.mem k).mp hk)
  rw [hit_some hf]
  have hr := R.rule
  have h4 := R.r4
  by_cases c0 : s.rule = 0
  · rw [if_pos c0]
    have e1 : m.again (k : Int) = m.count (k : Int) := by
      unfold M.again
      rw [if_neg (by omega), if_neg (by omega), if_neg (by omega), if_neg (by omega)]
    rw [e1]
    exact ⟨es, R.count (by omega) hk⟩
  rw [if_neg c0]
  by_cases c1 : s.rule = 1
  · rw [if_pos c1]
    have e1 : m.again (k : Int) = { m.count (k : Int) with line := m.line.erase (k : Int) ++ [(k : Int)] } := by
      unfold M.again
      rw [if_pos (by omega)]
    rw [e1]
    have hs0 : s.safe = [] := R.sf0 (by omega)
    have hms : m.safe = [] := by
      rw [R.safe, hs0]
      rfl
    have hkl : (k : Int) ∈ m.line := by
      rw [hms, List.append_nil] at hk
      exact hk
    have hes := R.same (by omega)
    have C := R.count (t := s.clock + 1) (by omega) hk
    have hxf : x ∈ s.first := by
      unfold Rb20.Cache.all at hx
      rw [hs0, List.append_nil] at hx
      exact hx
    refine ⟨_, C.move (F := Rb20.without k s.first ++ [Rb20.again (s.clock + 1) x]) (S := s.safe) (L := m.line.erase (k : Int) ++ [(k : Int)]) (Z := m.safe) (by show ¬ s.rule = 2; omega) (by show ¬ s.rule = 3; omega) ?_ R.safe ?_ (fun _ => hs0) R.sfL⟩
    · rw [List.map_append, ← hes, without_map R.ndl, ← R.line]
      show _ = _ ++ [(x.key : Int)]
      rw [hxk]
    · exact (erase_snoc_perm hkl).append_right _
  rw [if_neg c1]
  by_cases c2 : s.rule = 2
  · rw [if_pos c2]
    have hs0 : s.safe = [] := R.sf0 (by omega)
    have hms : m.safe = [] := by
      rw [R.safe, hs0]
      rfl
    have hh := (R.has (k : Int)).mpr hk
    have hxf : x ∈ s.first := by
      unfold Rb20.Cache.all at hx
      rw [hs0, List.append_nil] at hx
      exact hx
    have hxe : x ∈ es := R.perm.mem_iff.mpr hxf
    obtain ⟨hsp, huq⟩ := split_at hxe R.ndl
    rw [hxk] at hsp huq
    have hcx : cnt m.uses (k : Int) = (x.uses : Int) := by
      have q := R.ucnt c2 x hxe
      rw [← hxk]
      exact q
    have hwk : ¬ (k : Int) ∈ (Rb20.without k es).map ik := fun z => by
      obtain ⟨e, he, h⟩ := mem_ik.mp z
      exact (without_mem he).2 h
    have hc0 : ∀ e ∈ Rb20.without k es, cnt m.uses (ik e) = e.uses := fun e he => R.ucnt c2 e (without_mem he).1
    have hc1 := cnt_put_ne (n := after (cnt m.uses (k : Int))) hwk hc0
    have hnew : ((Rb20.again (s.clock + 1) x).uses : Int) = after (cnt m.uses (k : Int)) := by
      rw [hcx, after_eq]
      rfl
    have hline : m.line.erase (k : Int) = (Rb20.without k es).map ik := by
      rw [without_map R.ndl, ← R.line]
    have e1 : m.again (k : Int) = { m.count (k : Int) with line := (ins (Rb20.again (s.clock + 1) x) (Rb20.without k es)).map ik } := by
      unfold M.again
      rw [if_neg (by omega), if_pos (by omega)]
      unfold M.place
      have e2 : cnt ((m.count (k : Int)).off (k : Int)).uses (k : Int) = ((Rb20.again (s.clock + 1) x).uses : Int) := by
        show cnt (putK m.uses (ki (k : Int)) (.int (after (cnt m.uses (k : Int))))) (k : Int) = _
        rw [cnt_put, if_pos rfl, hnew]
      have e3 : ik (Rb20.again (s.clock + 1) x) = (k : Int) := by
        show (x.key : Int) = _
        rw [hxk]
      rw [e2, ins_map (kvs := ((m.count (k : Int)).off (k : Int)).uses) hc1, e3, ← hline]
      rfl
    have hfe : ∀ e ∈ Rb20.without k es, (if e.key = k then Rb20.again (s.clock + 1) e else e) = e := fun e he => if_neg (without_mem he).2
    have hP : (ins (Rb20.again (s.clock + 1) x) (Rb20.without k es)).Perm (s.first.map fun y => if y.key = k then Rb20.again (s.clock + 1) y else y) := by
      refine (ins_perm _ _).trans ?_
      have q := (hsp.symm.trans R.perm).map (fun y => if y.key = k then Rb20.again (s.clock + 1) y else y)
      rw [List.map_cons, if_pos hxk, List.map_congr_left hfe, List.map_id'] at q
      exact q
    have hK : ((ins (Rb20.again (s.clock + 1) x) (Rb20.without k es)).map ik).Perm m.line := by
      rw [R.line]
      have q1 := (ins_perm (Rb20.again (s.clock + 1) x) (Rb20.without k es)).map ik
      have q2 := hsp.map ik
      exact q1.trans q2.symm
    have hm0 := R.nomk (by omega)
    have hmem : ∀ e ∈ ins (Rb20.again (s.clock + 1) x) (Rb20.without k es), e = Rb20.again (s.clock + 1) x ∨ e ∈ Rb20.without k es := fun e he => List.mem_cons.mp ((ins_perm _ _).mem_iff.mp he)
    refine ⟨ins (Rb20.again (s.clock + 1) x) (Rb20.without k es), ?_⟩
    rw [e1]
    refine ⟨R.rule, R.room, R.r4, R.r1, R.rM, hP, fun z => absurd c2 z, fun _ => ?_, rfl, R.safe, (hK.append_right _).nodup_iff.mpr R.nd, R.sf0, R.sfL, ?_, ?_, R.uints.put _ _, fun _ e he => ?_, fun _ e he => ?_, R.mnd, fun q hq => ?_, fun z => absurd (c2.symm.trans z) (by decide), R.nomk⟩
    · refine ins_srt ((R.srt c2).filter _) fun e he => ?_
      have q := R.clk c2 e (without_mem he).1
      show e.last < s.clock + 1
      omega
    · have q := hK.length_eq
      show ((ins (Rb20.again (s.clock + 1) x) (Rb20.without k es)).map ik).length + m.safe.length ≤ s.room
      rw [q]
      exact R.len
    · show ((putK m.uses (ki (k : Int)) (.int (after (cnt m.uses (k : Int))))).map (·.1)).Perm _
      rw [keys_put_old hh]
      exact R.ukeys.trans ((hK.append_right m.safe).symm.map ki)
    · show cnt (putK m.uses (ki (k : Int)) (.int (after (cnt m.uses (k : Int))))) (ik e) = e.uses
      rcases hmem e he with q | q
      · rw [q, cnt_put, if_pos (by show (x.key : Int) = _; rw [hxk]), hnew]
      · exact hc1 e q
    · show e.last ≤ s.clock + 1
      rcases hmem e he with q | q
      · rw [q]
        exact Nat.le_refl _
      · exact Nat.le_succ_of_le (R.clk c2 e (without_mem q).1)
    · rw [show ({ m.count (k : Int) with line := (ins (Rb20.again (s.clock + 1) x) (Rb20.without k es)).map ik } : M).marked = m.marked from rfl, hm0] at hq
      cases hq
  rw [if_neg c2]
  by_cases c3 : s.rule = 3
  · rw [if_pos c3]
    have hs0 : s.safe = [] := R.sf0 (by omega)
    have hms : m.safe = [] := by
      rw [R.safe, hs0]
      rfl
    have hkl : (k : Int) ∈ m.line := by
      rw [hms, List.append_nil] at hk
      exact hk
    have hes := R.same c2
    have e1 : m.again (k : Int) = { m.count (k : Int) with marked := putK m.marked (ki (k : Int)) (.bl true) } := by
      unfold M.again
      rw [if_neg (by omega), if_neg (by omega), if_pos (by omega)]
    have C := R.count (t := s.clock + 1) (by omega) hk
    have hik : ∀ y : Rb20.Entry, ik (if y.key = k then { y with mark := true } else y) = ik y := fun y => by
      by_cases z : y.key = k
      · rw [if_pos z]
      · rw [if_neg z]
    have hmm : (s.first.map fun y => if y.key = k then { y with mark := true } else y).map ik = s.first.map ik := by
      rw [List.map_map]
      exact List.map_congr_left fun y _ => hik y
    refine ⟨s.first.map fun y => if y.key = k then { y with mark := true } else y, ?_⟩
    rw [e1]
    refine ⟨C.rule, C.room, C.r4, C.r1, C.rM, .refl _, fun _ => rfl, fun z => absurd z c2, ?_, C.safe, C.nd, C.sf0, C.sfL, C.len, C.ukeys, C.uints, fun z => absurd z c2, fun z => absurd z c2, ?_, fun q hq => ?_, fun _ e he => ?_, fun z => absurd c3 z⟩
    · rw [hmm, ← hes]
      exact R.line
    · show ((putK m.marked (ki (k : Int)) (.bl true)).map (·.1)).Nodup
      cases z : valV m.marked (ki (k : Int)) with
      | none => exact nd_putK _ R.mnd z
      | some v =>
        rw [keys_put_old (by rw [z]; rfl)]
        exact R.mnd
    · show q ∈ m.line.map ki
      change q ∈ (putK m.marked (ki (k : Int)) (.bl true)).map (·.1) at hq
      cases z : valV m.marked (ki (k : Int)) with
      | none =>
        rw [keys_put_new z, List.mem_append] at hq
        rcases hq with y | y
        · exact R.mkeys q y
        · rw [List.mem_singleton.mp y, mem_ki]
          exact hkl
      | some v =>
        rw [keys_put_old (by rw [z]; rfl)] at hq
        exact R.mkeys q hq
    · show (valV (putK m.marked (ki (k : Int)) (.bl true)) (ki (ik e))).isSome = e.mark
      obtain ⟨y, hy, rfl⟩ := List.mem_map.mp he
      rw [valV_put, hik]
      by_cases z : y.key = k
      · rw [if_pos (by rw [ki_inj]; show (y.key : Int) = _; rw [z]), if_pos z]
        rfl
      · rw [if_neg (by rw [ki_inj]; show ¬ (y.key : Int) = _; omega), if_neg z]
        exact R.mks c3 y (by rw [hes]; exact hy)
  rw [if_neg c3]
  have c4 : s.rule = 4 := by omega
  have hes := R.same c2
  have e1 : m.again (k : Int) = (m.count (k : Int)).safer (k : Int) := by
    unfold M.again
    rw [if_neg (by omega), if_neg (by omega), if_neg (by omega), if_pos (by omega)]
  have C := R.count (t := s.clock + 1) c2 hk
  -- the key at the end of the safe ones
  have hnd := R.nd
  rw [List.nodup_append] at hnd
  have hS : ((Rb20.without k s.safe ++ [Rb20.again (s.clock + 1) x]).map ik) = m.safe.erase (k : Int) ++ [(k : Int)] := by
    rw [List.map_append, without_map (by rw [← R.safe]; exact hnd.2.1), ← R.safe]
    show _ ++ [(x.key : Int)] = _
    rw [hxk]
  have hF : (Rb20.without k s.first).map ik = m.line.erase (k : Int) := by
    rw [← hes, without_map R.ndl, ← R.line]
  have hsafe1 : (m.inSafe (k : Int)).safe = (Rb20.without k s.safe ++ [Rb20.again (s.clock + 1) x]).map ik := by
    rw [hS]
    unfold M.inSafe
    by_cases z : (k : Int) ∈ m.safe
    · rw [if_pos z]
    · rw [if_neg z, List.erase_of_not_mem z]
  have hline1 : (m.inSafe (k : Int)).line = (Rb20.without k s.first).map ik := by
    rw [hF]
    unfold M.inSafe
    by_cases z : (k : Int) ∈ m.safe
    · rw [if_pos z]
      exact (List.erase_of_not_mem fun y => hnd.2.2 _ y _ z rfl).symm
    · rw [if_neg z]
  have hall : ((m.inSafe (k : Int)).line ++ (m.inSafe (k : Int)).safe).Perm (m.line ++ m.safe) := by
    unfold M.inSafe
    by_cases z : (k : Int) ∈ m.safe
    · rw [if_pos z]
      exact (erase_snoc_perm z).append_left _
    · rw [if_neg z]
      have y : (k : Int) ∈ m.line := (List.mem_append.mp hk).resolve_right z
      show (m.line.erase (k : Int) ++ (m.safe ++ [(k : Int)])).Perm (m.line ++ m.safe)
      refine List.Perm.trans ?_ ((List.perm_cons_erase y).symm.append_right _)
      refine List.Perm.trans ((List.perm_append_comm (l₁ := m.safe)).append_left _) ?_
      exact List.perm_middle
  have hsl : (m.inSafe (k : Int)).safe.length = (Rb20.without k s.safe ++ [Rb20.again (s.clock + 1) x]).length := by
    rw [hsafe1, List.length_map]
  have hroom : m.room / 2 = ((s.room / 2 : Nat) : Int) := by
    rw [R.room]
    omega
  have e2 : (m.count (k : Int)).safer (k : Int) = { m.count (k : Int) with line := ((m.inSafe (k : Int)).back).line, safe := ((m.inSafe (k : Int)).back).safe } := by
    unfold M.safer M.back M.inSafe M.count
    by_cases z : (k : Int) ∈ m.safe
    · rw [if_pos z, if_pos z]
      dsimp only
      split <;> rfl
    · rw [if_neg z, if_neg z]
      dsimp only
      split <;> rfl
  have hroomI : (m.inSafe (k : Int)).room = m.room := by
    unfold M.inSafe
    split <;> rfl
  have hlen2 : (Rb20.without k s.safe).length ≤ s.room / 2 := Nat.le_trans (List.length_filter_le _ _) R.sfL
  rw [e1, e2]
  by_cases c5 : s.room / 2 < (Rb20.without k s.safe ++ [Rb20.again (s.clock + 1) x]).length
  · rw [if_pos c5]
    have e3 : (m.inSafe (k : Int)).back = { m.inSafe (k : Int) with line := (m.inSafe (k : Int)).line ++ (m.inSafe (k : Int)).safe.take 1, safe := (m.inSafe (k : Int)).safe.drop 1 } := by
      unfold M.back
      rw [if_pos (by rw [hroomI, hroom, hsl]; omega)]
    rw [e3]
    refine ⟨_, C.move (F := Rb20.without k s.first ++ (Rb20.without k s.safe ++ [Rb20.again (s.clock + 1) x]).take 1) (S := (Rb20.without k s.safe ++ [Rb20.again (s.clock + 1) x]).drop 1) c2 c3 ?_ ?_ ?_ (fun z => absurd c4 z) ?_⟩
    · show (m.inSafe (k : Int)).line ++ (m.inSafe (k : Int)).safe.take 1 = _
      rw [hline1, hsafe1, List.map_append (l₁ := Rb20.without k s.first), List.map_take]
    · show (m.inSafe (k : Int)).safe.drop 1 = _
      rw [hsafe1, List.map_drop]
    · show (((m.inSafe (k : Int)).line ++ (m.inSafe (k : Int)).safe.take 1) ++ (m.inSafe (k : Int)).safe.drop 1).Perm (m.line ++ m.safe)
      rw [List.append_assoc, List.take_append_drop]
      exact hall
    · show ((Rb20.without k s.safe ++ [Rb20.again (s.clock + 1) x]).drop 1).length ≤ s.room / 2
      rw [List.length_drop, List.length_append]
      show (Rb20.without k s.safe).length + 1 - 1 ≤ _
      omega
  · rw [if_neg c5]
    have e3 : (m.inSafe (k : Int)).back = m.inSafe (k : Int) := by
      unfold M.back
      rw [if_neg (by rw [hroomI, hroom, hsl]; omega)]
    rw [e3]
    exact ⟨_, C.move (F := Rb20.without k s.first) (S := Rb20.without k s.safe ++ [Rb20.again (s.clock + 1) x]) c2 c3 hline1 hsafe1 hall (fun z => absurd c4 z) (by show _ ≤ s.room / 2; omega)⟩
end Cr
namespace Cr
open PySem L2
open Rb20 (sooner turned)
/-! ### 8. One use, many uses -/
theorem Rel.fullp {m : M} {s : Rb20.Cache} {es : List Rb20.Entry} (R : Rel m s es) (h : m.line.length + m.safe.length = s.room) : es ≠ [] := by
  intro e
  have h1 : m.line.length = 0 := by
    rw [R.line, e]
    rfl
  have h2 := R.sfL
  have h3 := R.r1
  rw [← R.sl] at h2
  omega
theorem Rel.all_len {m : M} {s : Rb20.Cache} {es : List Rb20.Entry} (R : Rel m s es) : s.all.length = m.line.length + m.safe.length := by
  unfold Rb20.Cache.all
  rw [List.length_append, R.ll, R.sl]
theorem Rel.use {m : M} {s : Rb20.Cache} {es : List Rb20.Entry} (R : Rel m s es) (k : Nat) : (Rb20.use s k).1 = m.has (k : Int) ∧ ∃ es', Rel (m.use (k : Int)) (Rb20.use s k).2.2 es' := by
  unfold Rb20.use M.use
  rw [R.holds k]
  cases hh : m.has (k : Int) with
  | true =>
    rw [if_pos rfl, if_pos rfl]
    exact ⟨rfl, R.again ((R.has (k : Int)).mp hh)⟩
  | false =>
    rw [if_neg Bool.false_ne_true, if_neg Bool.false_ne_true]
    have hk : ¬ (k : Int) ∈ m.line ++ m.safe := fun z => by
      have q : m.has (k : Int) = true := (R.has (k : Int)).mpr z
      rw [hh] at q
      cases q
    have hlen := R.len
    by_cases c : s.all.length < s.room
    · have c' : ¬ (m.uses.length : Int) = m.room := by
        rw [R.ulen, R.room]
        rw [R.all_len] at c
        omega
      rw [if_neg c']
      show (if s.all.length < s.room then _ else _ : Bool × Option Nat × Rb20.Cache).1 = false ∧ _
      simp only [if_pos c]
      refine ⟨trivial, ?_⟩
      exact R.come hk (by rw [R.all_len] at c; omega)
    · have hfull : m.line.length + m.safe.length = s.room := by
        rw [R.all_len] at c
        omega
      have c' : (m.uses.length : Int) = m.room := by
        rw [R.ulen, R.room]
        omega
      rw [if_pos c']
      obtain ⟨g, s', es', hl, R', hc, hr, hrm, hsf, hln, hmem⟩ := R.leave (R.fullp hfull)
      have hk' : ¬ (k : Int) ∈ m.leave.line ++ m.leave.safe := fun z => by
        obtain ⟨e, he, hek⟩ := (R'.mem k).mp z
        apply hk
        rw [R.mem k]
        rcases List.mem_append.mp he with q | q
        · obtain ⟨e', h1, h2⟩ := hmem e q
          exact ⟨e', List.mem_append.mpr (.inl h1), h2.trans hek⟩
        · rw [hsf] at q
          exact ⟨e, List.mem_append.mpr (.inr q), hek⟩
      have hlen' : m.leave.line.length + m.leave.safe.length + 1 ≤ s'.room := by
        have a := R'.ll
        have b := R'.sl
        have a0 := R.ll
        have b0 := R.sl
        rw [hsf] at b
        omega
      obtain ⟨es2, R2⟩ := R'.come hk' hlen'
      simp only [if_neg c, hl]
      refine ⟨trivial, es2, ?_⟩
      rw [hc] at R2
      exact R2
theorem Rel.fresh {rule room : Int} (h : Rb20.told rule room = true) : Rel (M.fresh rule room) (Rb20.empty rule.toNat room.toNat) [] := by
  unfold Rb20.told Rb20.within at h
  rw [Bool.and_eq_true, Bool.and_eq_true, Bool.and_eq_true, decide_eq_true_iff, decide_eq_true_iff, decide_eq_true_iff, decide_eq_true_iff] at h
  obtain ⟨⟨h1, h2⟩, h3, h4⟩ := h
  have z1 : (M.fresh rule room).rule = ((Rb20.empty rule.toNat room.toNat).rule : Int) := by
    show rule = (rule.toNat : Int)
    omega
  have z2 : (M.fresh rule room).room = ((Rb20.empty rule.toNat room.toNat).room : Int) := by
    show room = (room.toNat : Int)
    omega
  exact ⟨z1, z2, by show rule.toNat ≤ 4; omega, by show 1 ≤ room.toNat; omega, by show room.toNat ≤ 1024; omega, .refl _, fun _ => rfl, fun _ => .nil, rfl, rfl, .nil, fun _ => rfl, Nat.zero_le _, Nat.zero_le _, .nil, fun k v e => (by cases e),
    fun _ e he => (by cases he), fun _ e he => (by cases he), .nil, fun q hq => (by cases hq), fun _ e he => (by cases he), fun _ => rfl⟩
/-- one turn of the loop: the mirror, the misses so far -/
def turn1 (p : M × Int) (k : Int) : M × Int := (p.1.use k, if p.1.has k = true then p.2 else p.2 + 1)
def runs (p : M × Int) (ks : List Int) : M × Int := ks.foldl turn1 p
theorem runs_misses : ∀ (ks : List Int) {m : M} {s : Rb20.Cache} {es : List Rb20.Entry} (c : Int), Rel m s es → (∀ k ∈ ks, 0 ≤ k) → (runs (m, c) ks).2 = c + (Rb20.missesFrom s (Rb20Neutral.nats ks) : Int)
  | [], m, s, es, c, R, h => by
    show c = c + ((0 : Nat) : Int)
    omega
  | k :: r, m, s, es, c, R, h => by
    have hk := h k List.mem_cons_self
    obtain ⟨n, rfl⟩ := Int.eq_ofNat_of_zero_le hk
    obtain ⟨h1, es', R'⟩ := R.use n
    have ih := runs_misses r (if m.has (n : Int) = true then c else c + 1) R' fun j hj => h j (List.mem_cons_of_mem _ hj)
    show (runs (turn1 (m, c) (n : Int)) r).2 = c + (((if (Rb20.use s (Int.toNat (n : Int))).1 = true then 0 else 1) + Rb20.missesFrom (Rb20.use s (Int.toNat (n : Int))).2.2 (Rb20Neutral.nats r) : Nat) : Int)
    rw [Int.toNat_natCast, h1]
    refine ih.trans ?_
    split <;> omega
theorem runs_rel : ∀ (ks : List Int) {m : M} {s : Rb20.Cache} {es : List Rb20.Entry} (c : Int), Rel m s es → (∀ k ∈ ks, 0 ≤ k) → ∃ s' es', Rel (runs (m, c) ks).1 s' es'
  | [], m, s, es, c, R, h => ⟨s, es, R⟩
  | k :: r, m, s, es, c, R, h => by
    have hk := h k List.mem_cons_self
    obtain ⟨n, rfl⟩ := Int.eq_ofNat_of_zero_le hk
    obtain ⟨h1, es', R'⟩ := R.use n
    exact runs_rel r _ R' fun j hj => h j (List.mem_cons_of_mem _ hj)
theorem take_more {α : Type} : ∀ {l : List α} {i : Nat} {x : α}, l[i]? = some x → l.take (i + 1) = l.take i ++ [x]
  | [], i, x, h => by simp at h
  | a :: l, 0, x, h => by
    have e : a = x := Option.some.inj h
    subst e
    rfl
  | a :: l, i + 1, x, h => by
    have ih := take_more (l := l) (i := i) (x := x) h
    show a :: l.take (i + 1) = a :: l.take i ++ [x]
    rw [ih]
    rfl
theorem runs_more {p : M × Int} {l : List Int} {i : Nat} {z : Int} (h : l[i]? = some z) : runs p (l.take (i + 1)) = turn1 (runs p (l.take i)) z := by
  unfold runs
  rw [take_more h, List.foldl_append]
  rfl
theorem due {rule room : Int} {ks : List Int} (h : ∀ k ∈ ks, 0 ≤ k) : PyRb20.misses rule room ks = [if Rb20.told rule room = true then (runs (M.fresh rule room, 0) ks).2 else -2] := by
  show [if Rb20.told rule room = true then (Rb20.missesFrom (Rb20.empty rule.toNat room.toNat) (Rb20Neutral.nats ks) : Int) else -2] = _
  by_cases c : Rb20.told rule room = true
  · rw [if_pos c, if_pos c, runs_misses ks 0 (Rel.fresh c) h, Int.zero_add]
  · rw [if_neg c, if_neg c]
/-! ### 9. What each def asks ahead -/
structure PrePlace (m : M) (k : Int) : Prop where
  len : m.line.length ≤ 1024
  whl : Ints m.uses
  has : (valV m.uses (ki k)).isSome = true
  all : ∀ x ∈ m.line, (valV m.uses (ki x)).isSome = true
  srt : m.line.Pairwise (fun x y => cnt m.uses x ≤ cnt m.uses y)
structure PreSafer (m : M) (k : Int) : Prop where
  len : m.line.length + m.safe.length ≤ 1024
  mem : k ∈ m.line ++ m.safe
structure PreLeave (m : M) : Prop where
  ne : m.line ≠ []
  len : m.line.length ≤ 1024
  nd : (m.marked.map (·.1)).Nodup
  all : ∀ x ∈ m.line, (valV m.uses (ki x)).isSome = true
theorem Rel.srtc {m : M} {s : Rb20.Cache} {es : List Rb20.Entry} (R : Rel m s es) (h2 : s.rule = 2) : m.line.Pairwise (fun x y => cnt m.uses x ≤ cnt m.uses y) := by
  rw [R.line, List.pairwise_map]
  have q := R.srt h2
  refine q.imp_of_mem fun {a b} ha hb hab => ?_
  rw [R.ucnt h2 a ha, R.ucnt h2 b hb]
  have z := sooner_iff.mp hab
  omega
theorem Rel.in_line {m : M} {s : Rb20.Cache} {es : List Rb20.Entry} (R : Rel m s es) {x : Int} (hx : x ∈ m.line) : (valV m.uses (ki x)).isSome = true := (R.has x).mpr (List.mem_append.mpr (.inl hx))
theorem Rel.lines {m : M} {s : Rb20.Cache} {es : List Rb20.Entry} (R : Rel m s es) : m.line.length + m.safe.length ≤ 1024 := Nat.le_trans R.len R.rM
theorem Rel.preLeave {m : M} {s : Rb20.Cache} {es : List Rb20.Entry} (R : Rel m s es) (hne : es ≠ []) : PreLeave m := by
  have h := R.lines
  refine ⟨fun z => ?_, by omega, R.mnd, fun x hx => R.in_line hx⟩
  rw [R.line] at z
  exact hne (List.map_eq_nil_iff.mp z)
theorem some_put {kvs : KVs} {k j : Int} {v : V} (h : (valV kvs (ki j)).isSome = true) : (valV (putK kvs (ki k) v) (ki j)).isSome = true := by
  rw [valV_put]
  split
  · rfl
  · exact h
theorem Rel.preCome {m : M} {s : Rb20.Cache} {es : List Rb20.Entry} {k : Int} (R : Rel m s es) (h2 : s.rule = 2) (hk : ¬ k ∈ m.line ++ m.safe) : PrePlace (m.put1 k) k := by
  have h := R.lines
  refine ⟨by show m.line.length ≤ 1024; omega, R.uints.put _ _, ?_, fun x hx => some_put (R.in_line hx), ?_⟩
  · show (valV (putK m.uses (ki k) (.int 1)) (ki k)).isSome = true
    rw [valV_put, if_pos rfl]
    rfl
  · show m.line.Pairwise (fun x y => cnt (putK m.uses (ki k) (.int 1)) x ≤ cnt (putK m.uses (ki k) (.int 1)) y)
    refine (R.srtc h2).imp_of_mem fun {a b} ha hb hab => ?_
    rw [cnt_put, cnt_put, if_neg fun (z : a = k) => hk (List.mem_append.mpr (.inl (z ▸ ha))), if_neg fun (z : b = k) => hk (List.mem_append.mpr (.inl (z ▸ hb)))]
    exact hab
theorem Rel.preAgain {m : M} {s : Rb20.Cache} {es : List Rb20.Entry} {k : Int} (R : Rel m s es) (h2 : s.rule = 2) (hk : k ∈ m.line ++ m.safe) : PrePlace ((m.count k).off k) k := by
  have h := R.lines
  have hndl : m.line.Nodup := (List.nodup_append.mp R.nd).1
  have hle : (m.line.erase k).length ≤ m.line.length := List.length_erase_le
  refine ⟨by show (m.line.erase k).length ≤ 1024; omega, R.uints.put _ _, some_put ((R.has k).mpr hk), fun x hx => some_put (R.in_line (List.mem_of_mem_erase hx)), ?_⟩
  show (m.line.erase k).Pairwise (fun x y => cnt (putK m.uses (ki k) (.int (after (cnt m.uses k)))) x ≤ cnt (putK m.uses (ki k) (.int (after (cnt m.uses k)))) y)
  refine ((R.srtc h2).sublist List.erase_sublist).imp_of_mem fun {a b} ha hb hab => ?_
  rw [cnt_put, cnt_put, if_neg (hndl.mem_erase_iff.mp ha).1, if_neg (hndl.mem_erase_iff.mp hb).1]
  exact hab
/-- where the search ends, there the line is cut -/
theorem cut_at {kvs : KVs} {u : Int} {l : List Int} {i : Nat} (h1 : ∀ (j : Nat) (x : Int), j < i → l[j]? = some x → cnt kvs x ≤ u) (h2 : ∀ (j : Nat) (x : Int), i ≤ j → l[j]? = some x → u < cnt kvs x) :
    l.take i = lowPart kvs u l ∧ l.drop i = highPart kvs u l := by
  have e : l = l.take i ++ l.drop i := (List.take_append_drop i l).symm
  have a1 : ∀ x ∈ l.take i, cnt kvs x ≤ u := fun x hx => by
    obtain ⟨j, hj⟩ := List.mem_iff_getElem?.mp hx
    rw [List.getElem?_take] at hj
    split at hj
    · exact h1 j x (by assumption) hj
    · cases hj
  have a2 : ∀ x ∈ l.drop i, u < cnt kvs x := fun x hx => by
    obtain ⟨j, hj⟩ := List.mem_iff_getElem?.mp hx
    rw [List.getElem?_drop] at hj
    exact h2 (i + j) x (Nat.le_add_right _ _) hj
  constructor
  · unfold lowPart
    conv => rhs; rw [e]
    rw [List.filter_append, List.filter_eq_self.mpr fun x hx => decide_eq_true (a1 x hx), List.filter_eq_nil_iff.mpr fun x hx => by rw [decide_eq_true_iff]; have := a2 x hx; omega, List.append_nil]
  · unfold highPart
    conv => rhs; rw [e]
    rw [List.filter_append, List.filter_eq_nil_iff.mpr fun x hx => by rw [decide_eq_true_iff]; have := a1 x hx; omega, List.filter_eq_self.mpr fun x hx => decide_eq_true (a2 x hx), List.nil_append]
theorem at_le {kvs : KVs} {l : List Int} (h : l.Pairwise (fun x y => cnt kvs x ≤ cnt kvs y)) {i j : Nat} {x y : Int} (hij : i ≤ j) (hi : l[i]? = some x) (hj : l[j]? = some y) : cnt kvs x ≤ cnt kvs y := by
  obtain ⟨h1, e1⟩ := List.getElem?_eq_some_iff.mp hi
  obtain ⟨h2, e2⟩ := List.getElem?_eq_some_iff.mp hj
  by_cases c : i = j
  · subst c
    rw [← e1, ← e2]
    exact Int.le_refl _
  · have q := List.pairwise_iff_getElem.mp h i j h1 h2 (by omega)
    rw [e1, e2] at q
    exact q
end Cr
namespace Cr
open PySem PySem.Spec PyProof.Rows L2
/-! ### 10. The text by places -/
def top (i : Nat) : Stmt := PySem.Challenge.pw_cacherules_s01_misses.main.body.getD i (.Pass ⟨0, 0, 0, 0⟩)
abbrev sRef : Stmt := top 4
abbrev sAft : Stmt := top 5
abbrev sInit : Stmt := inClass (top 6) 0
abbrev sUse : Stmt := inClass (top 6) 1
abbrev sCome : Stmt := inClass (top 6) 2
abbrev sAgain : Stmt := inClass (top 6) 3
abbrev sPlace : Stmt := inClass (top 6) 4
abbrev sSafe : Stmt := inClass (top 6) 5
abbrev sLeave : Stmt := inClass (top 6) 6
abbrev sMis : Stmt := top 7
/-! ### 11. The heap -/
structure Ad where
  l : Addr
  s : Addr
  u : Addr
  k : Addr
def lF (A : Ad) (r n : Int) : List (Str × V) := [("rule", .int r), ("room", .int n), ("line", .ref A.l), ("safe", .ref A.s), ("uses", .ref A.u), ("marked", .ref A.k)]
theorem lk_here {k : Str} {v : V} {r : List (Str × V)} : List.lookup k ((k, v) :: r) = some v := by
  have e : (k == k) = true := beq_self_eq_true k
  simp only [List.lookup, e]
theorem lk_past {k g : Str} {v : V} {r : List (Str × V)} (h : (k == g) = false) : List.lookup k ((g, v) :: r) = List.lookup k r := by
  simp only [List.lookup, h]
theorem put_past {f g : Str} {v x : V} {r : List (Str × V)} (h : ¬ g = f) : putF f v ((g, x) :: r) = (g, x) :: putF f v r := if_neg h
section
variable {A : Ad} {r n : Int}
theorem lF_rule : (lF A r n).lookup ("rule" : Str) = some (.int r) := lk_here
theorem lF_room : (lF A r n).lookup ("room" : Str) = some (.int n) := (lk_past (by decide +kernel)).trans lk_here
theorem lF_line : (lF A r n).lookup ("line" : Str) = some (.ref A.l) := (lk_past (by decide +kernel)).trans ((lk_past (by decide +kernel)).trans lk_here)
theorem lF_safe : (lF A r n).lookup ("safe" : Str) = some (.ref A.s) := (lk_past (by decide +kernel)).trans ((lk_past (by decide +kernel)).trans ((lk_past (by decide +kernel)).trans lk_here))
theorem lF_uses : (lF A r n).lookup ("uses" : Str) = some (.ref A.u) := (lk_past (by decide +kernel)).trans ((lk_past (by decide +kernel)).trans ((lk_past (by decide +kernel)).trans ((lk_past (by decide +kernel)).trans lk_here)))
theorem lF_marked : (lF A r n).lookup ("marked" : Str) = some (.ref A.k) := (lk_past (by decide +kernel)).trans ((lk_past (by decide +kernel)).trans ((lk_past (by decide +kernel)).trans ((lk_past (by decide +kernel)).trans ((lk_past (by decide +kernel)).trans lk_here))))
theorem lF_no {g : Str} (h1 : (g == "rule") = false) (h2 : (g == "room") = false) (h3 : (g == "line") = false) (h4 : (g == "safe") = false) (h5 : (g == "uses") = false) (h6 : (g == "marked") = false) : (lF A r n).lookup g = none :=
  (lk_past h1).trans ((lk_past h2).trans ((lk_past h3).trans ((lk_past h4).trans ((lk_past h5).trans ((lk_past h6).trans rfl)))))
theorem lF_come : (lF A r n).lookup ("come" : Str) = none := lF_no (by decide +kernel) (by decide +kernel) (by decide +kernel) (by decide +kernel) (by decide +kernel) (by decide +kernel)
theorem lF_use : (lF A r n).lookup ("use" : Str) = none := lF_no (by decide +kernel) (by decide +kernel) (by decide +kernel) (by decide +kernel) (by decide +kernel) (by decide +kernel)
theorem lF_again : (lF A r n).lookup ("use_again" : Str) = none := lF_no (by decide +kernel) (by decide +kernel) (by decide +kernel) (by decide +kernel) (by decide +kernel) (by decide +kernel)
theorem lF_place : (lF A r n).lookup ("place_by_uses" : Str) = none := lF_no (by decide +kernel) (by decide +kernel) (by decide +kernel) (by decide +kernel) (by decide +kernel) (by decide +kernel)
theorem lF_makes : (lF A r n).lookup ("make_safe" : Str) = none := lF_no (by decide +kernel) (by decide +kernel) (by decide +kernel) (by decide +kernel) (by decide +kernel) (by decide +kernel)
theorem lF_leave : (lF A r n).lookup ("leave" : Str) = none := lF_no (by decide +kernel) (by decide +kernel) (by decide +kernel) (by decide +kernel) (by decide +kernel) (by decide +kernel)
theorem lF_new : putF "marked" (.ref A.k) (putF "uses" (.ref A.u) (putF "safe" (.ref A.s) (putF "line" (.ref A.l) (putF "room" (.int n) (putF "rule" (.int r) []))))) = lF A r n := by
  have e1 : putF "rule" (.int r) [] = [(("rule" : Str), V.int r)] := rfl
  have e2 : putF "room" (.int n) [(("rule" : Str), V.int r)] = [(("rule" : Str), V.int r), ("room", .int n)] := (put_past (by decide +kernel)).trans rfl
  have e3 : putF "line" (.ref A.l) [(("rule" : Str), V.int r), ("room", .int n)] = [(("rule" : Str), V.int r), ("room", .int n), ("line", .ref A.l)] := (put_past (by decide +kernel)).trans (congrArg _ ((put_past (by decide +kernel)).trans rfl))
  have e4 : putF "safe" (.ref A.s) [(("rule" : Str), V.int r), ("room", .int n), ("line", .ref A.l)] = [(("rule" : Str), V.int r), ("room", .int n), ("line", .ref A.l), ("safe", .ref A.s)] :=
    (put_past (by decide +kernel)).trans (congrArg _ ((put_past (by decide +kernel)).trans (congrArg _ ((put_past (by decide +kernel)).trans rfl))))
  have e5 : putF "uses" (.ref A.u) [(("rule" : Str), V.int r), ("room", .int n), ("line", .ref A.l), ("safe", .ref A.s)] = [(("rule" : Str), V.int r), ("room", .int n), ("line", .ref A.l), ("safe", .ref A.s), ("uses", .ref A.u)] :=
    (put_past (by decide +kernel)).trans (congrArg _ ((put_past (by decide +kernel)).trans (congrArg _ ((put_past (by decide +kernel)).trans (congrArg _ ((put_past (by decide +kernel)).trans rfl))))))
  rw [e1, e2, e3, e4, e5]
  exact (put_past (by decide +kernel)).trans (congrArg _ ((put_past (by decide +kernel)).trans (congrArg _ ((put_past (by decide +kernel)).trans (congrArg _ ((put_past (by decide +kernel)).trans (congrArg _ ((put_past (by decide +kernel)).trans rfl))))))))
end
structure LnAt (C : Addr) (H : Hp) (a : Addr) (A : Ad) (m : M) : Prop where
  ob : ∃ dx, H a = some (.ins C dx (lF A m.rule m.room))
  ln : H A.l = some (.lst (m.line.map V.int))
  sf : H A.s = some (.lst (m.safe.map V.int))
  us : H A.u = some (.dK m.uses)
  mkd : H A.k = some (.dK m.marked)
  ls : A.l ≠ A.s
  uk : A.u ≠ A.k
def Keeps (A : Ad) (H H' : Hp) : Prop := ∀ b o, H b = some o → b ≠ A.l → b ≠ A.s → b ≠ A.u → b ≠ A.k → H' b = some o
theorem Keeps.refl {A : Ad} {H : Hp} : Keeps A H H := fun _ _ h _ _ _ _ => h
theorem Keeps.trans {A : Ad} {H H1 H2 : Hp} (x : Keeps A H H1) (y : Keeps A H1 H2) : Keeps A H H2 := fun b o h h1 h2 h3 h4 => y b o (x b o h h1 h2 h3 h4) h1 h2 h3 h4
section
variable {C a : Addr} {A : Ad} {H : Hp} {m : M}
theorem LnAt.alu (L : LnAt C H a A m) : A.l ≠ A.u := ne_of L.ln L.us (by intro z; cases z)
theorem LnAt.alk (L : LnAt C H a A m) : A.l ≠ A.k := ne_of L.ln L.mkd (by intro z; cases z)
theorem LnAt.asu (L : LnAt C H a A m) : A.s ≠ A.u := ne_of L.sf L.us (by intro z; cases z)
theorem LnAt.ask (L : LnAt C H a A m) : A.s ≠ A.k := ne_of L.sf L.mkd (by intro z; cases z)
theorem LnAt.aal (L : LnAt C H a A m) : a ≠ A.l := let ⟨_, h⟩ := L.ob; ne_of h L.ln (by intro z; cases z)
theorem LnAt.aas (L : LnAt C H a A m) : a ≠ A.s := let ⟨_, h⟩ := L.ob; ne_of h L.sf (by intro z; cases z)
theorem LnAt.aau (L : LnAt C H a A m) : a ≠ A.u := let ⟨_, h⟩ := L.ob; ne_of h L.us (by intro z; cases z)
theorem LnAt.aak (L : LnAt C H a A m) : a ≠ A.k := let ⟨_, h⟩ := L.ob; ne_of h L.mkd (by intro z; cases z)
theorem LnAt.setLine {xs : List V} {l : List Int} (L : LnAt C H a A m) (e : xs = l.map V.int) : LnAt C (upd H A.l (.lst xs)) a A { m with line := l } := by
  subst e
  exact ⟨let ⟨dx, h⟩ := L.ob; ⟨dx, by rw [upd_ne L.aal]; exact h⟩, upd_same, by rw [upd_ne L.ls.symm]; exact L.sf, by rw [upd_ne L.alu.symm]; exact L.us, by rw [upd_ne L.alk.symm]; exact L.mkd, L.ls, L.uk⟩
theorem LnAt.setSafe {xs : List V} {l : List Int} (L : LnAt C H a A m) (e : xs = l.map V.int) : LnAt C (upd H A.s (.lst xs)) a A { m with safe := l } := by
  subst e
  exact ⟨let ⟨dx, h⟩ := L.ob; ⟨dx, by rw [upd_ne L.aas]; exact h⟩, by rw [upd_ne L.ls]; exact L.ln, upd_same, by rw [upd_ne L.asu.symm]; exact L.us, by rw [upd_ne L.ask.symm]; exact L.mkd, L.ls, L.uk⟩
theorem LnAt.setUses {kv : KVs} (L : LnAt C H a A m) : LnAt C (upd H A.u (.dK kv)) a A { m with uses := kv } :=
  ⟨let ⟨dx, h⟩ := L.ob; ⟨dx, by rw [upd_ne L.aau]; exact h⟩, by rw [upd_ne L.alu]; exact L.ln, by rw [upd_ne L.asu]; exact L.sf, upd_same, by rw [upd_ne L.uk.symm]; exact L.mkd, L.ls, L.uk⟩
theorem LnAt.setMarked {kv : KVs} (L : LnAt C H a A m) : LnAt C (upd H A.k (.dK kv)) a A { m with marked := kv } :=
  ⟨let ⟨dx, h⟩ := L.ob; ⟨dx, by rw [upd_ne L.aak]; exact h⟩, by rw [upd_ne L.alk]; exact L.ln, by rw [upd_ne L.ask]; exact L.sf, by rw [upd_ne L.uk]; exact L.us, upd_same, L.ls, L.uk⟩
theorem Keeps.l {o : HO} : Keeps A H (upd H A.l o) := fun b u h h1 _ _ _ => by rw [upd_ne h1]; exact h
theorem Keeps.s {o : HO} : Keeps A H (upd H A.s o) := fun b u h _ h1 _ _ => by rw [upd_ne h1]; exact h
theorem Keeps.u {o : HO} : Keeps A H (upd H A.u o) := fun b u h _ _ h1 _ => by rw [upd_ne h1]; exact h
theorem Keeps.k {o : HO} : Keeps A H (upd H A.k o) := fun b u h _ _ _ h1 => by rw [upd_ne h1]; exact h
end
/-! ### 12. The promises -/
def spRef : Sp := fun vs H Q _ => ∃ r n : Int, vs = [.int r, .int n] ∧ Q (.bl (!Rb20.told r n)) H
def spAft : Sp := fun vs H Q _ => ∃ n : Int, vs = [.int n] ∧ Q (.int (after n)) H
def spInit (C : Addr) : Sp := fun vs H Q _ => ∃ (p dx : Addr) (r n : Int), vs = [.ref p, .int r, .int n] ∧ H p = some (.ins C dx []) ∧
  ∀ (A : Ad) (H' : Hp), H A.l = none → H A.s = none → H A.u = none → H A.k = none → LnAt C H' p A (M.fresh r n) → (∀ b o, H b = some o → b ≠ p → H' b = some o) → Q .non H'
def spM (C : Addr) (pre : M → Int → Prop) (f : M → Int → M) (ret : M → Int → V) : Sp := fun vs H Q _ => ∃ (a : Addr) (A : Ad) (m : M) (k : Int), vs = [.ref a, .int k] ∧ LnAt C H a A m ∧ pre m k ∧
  ∀ H' : Hp, LnAt C H' a A (f m k) → Keeps A H H' → Q (ret m k) H'
def spPlace (C : Addr) : Sp := spM C PrePlace M.place fun _ _ => .non
def spSafe (C : Addr) : Sp := spM C PreSafer M.safer fun _ _ => .non
def preCome (m : M) (k : Int) : Prop := ∃ s es, Rel m s es ∧ ¬ k ∈ m.line ++ m.safe
def preAgain (m : M) (k : Int) : Prop := ∃ s es, Rel m s es ∧ k ∈ m.line ++ m.safe
def preUse (m : M) (k : Int) : Prop := 0 ≤ k ∧ ∃ s es, Rel m s es
def spCome (C : Addr) : Sp := spM C preCome M.come fun _ _ => .non
def spAgain (C : Addr) : Sp := spM C preAgain M.again fun _ _ => .non
def spUse (C : Addr) : Sp := spM C preUse M.use fun m k => .bl (m.has k)
def spLeave (C : Addr) : Sp := fun vs H Q _ => ∃ (a : Addr) (A : Ad) (m : M), vs = [.ref a] ∧ LnAt C H a A m ∧ PreLeave m ∧ ∀ H' : Hp, LnAt C H' a A m.leave → Keeps A H H' → Q .non H'
def spMis (K : PySem.W.Frag) : Sp := fun vs H Q _ => ∃ (r n : Int) (a : Addr) (ks : List Int), vs = [.int r, .int n, .ref a] ∧ SqL K H a (ks.map V.int) ∧ (∀ k ∈ ks, 0 ≤ k) ∧
  ∀ (H' : Hp) (p : Addr), H' p = some (.lst ((PyRb20.misses r n ks).map V.int)) → Q (.ref p) H'
structure Txt (K : PySem.W.Frag) (mg : Str → Option Value) (C : Addr) : Prop where
  cl : Cls K C
  n1 : NoAttr K C "rule"
  n2 : NoAttr K C "room"
  n3 : NoAttr K C "line"
  n4 : NoAttr K C "safe"
  n5 : NoAttr K C "uses"
  n6 : NoAttr K C "marked"
  gC : mg "Lines" = some (.ref C)
  gR : ∃ t, mg "LAST_RULE" = some (.int 4 t)
  gM : ∃ t, mg "MOST_ROOM" = some (.int 1024 t)
  gU : ∃ t, mg "MOST_USES" = some (.int 4294967295 t)
  len : mg "len" = none
  min : mg "min" = none
/-! ### 13. What is read of the object -/
section
variable {K : PySem.W.Frag} {mg : Str → Option Value} {C a : Addr} {A : Ad} {H : Hp} {m : M} {sg : L2.St} {Q : VK}
theorem g_rule (T : Txt K mg C) (L : LnAt C H a A m) (hs : sg[0]? = some (some (.ref a))) (q : Q (.int m.rule) H) : tFld K (tVar 0) "rule" sg H Q := let ⟨dx, h⟩ := L.ob; ⟨_, hs, a, C, dx, _, _, rfl, h, T.cl, T.n1, lF_rule, q⟩
theorem g_room (T : Txt K mg C) (L : LnAt C H a A m) (hs : sg[0]? = some (some (.ref a))) (q : Q (.int m.room) H) : tFld K (tVar 0) "room" sg H Q := let ⟨dx, h⟩ := L.ob; ⟨_, hs, a, C, dx, _, _, rfl, h, T.cl, T.n2, lF_room, q⟩
theorem g_line (T : Txt K mg C) (L : LnAt C H a A m) (hs : sg[0]? = some (some (.ref a))) (q : Q (.ref A.l) H) : tFld K (tVar 0) "line" sg H Q := let ⟨dx, h⟩ := L.ob; ⟨_, hs, a, C, dx, _, _, rfl, h, T.cl, T.n3, lF_line, q⟩
theorem g_safe (T : Txt K mg C) (L : LnAt C H a A m) (hs : sg[0]? = some (some (.ref a))) (q : Q (.ref A.s) H) : tFld K (tVar 0) "safe" sg H Q := let ⟨dx, h⟩ := L.ob; ⟨_, hs, a, C, dx, _, _, rfl, h, T.cl, T.n4, lF_safe, q⟩
theorem g_uses (T : Txt K mg C) (L : LnAt C H a A m) (hs : sg[0]? = some (some (.ref a))) (q : Q (.ref A.u) H) : tFld K (tVar 0) "uses" sg H Q := let ⟨dx, h⟩ := L.ob; ⟨_, hs, a, C, dx, _, _, rfl, h, T.cl, T.n5, lF_uses, q⟩
theorem g_marked (T : Txt K mg C) (L : LnAt C H a A m) (hs : sg[0]? = some (some (.ref a))) (q : Q (.ref A.k) H) : tFld K (tVar 0) "marked" sg H Q := let ⟨dx, h⟩ := L.ob; ⟨_, hs, a, C, dx, _, _, rfl, h, T.cl, T.n6, lF_marked, q⟩
theorem ty_l (L : LnAt C H a A m) : tyV K "list" (.ref A.l) H := .inl ⟨rfl, _, SqL.of L.ln⟩
theorem ty_s (L : LnAt C H a A m) : tyV K "list" (.ref A.s) H := .inl ⟨rfl, _, SqL.of L.sf⟩
end
theorem line_small {n : Nat} (h : n ≤ 1024) : n < sizeLine := Nat.lt_of_le_of_lt h (by decide)
end Cr
namespace Cr
open PySem PySem.Spec PyProof.Rows L2
section
variable {P : Program} {w : World} {K : PySem.W.Frag} {mg : Str → Option Value} {base : Heap} {C : Addr}
/-! ### 14. The small defs -/
theorem scRef : FnScope ["rule", "room"] ["rule", "room"] (defScope sRef) := ⟨rfl, rfl, rfl, by decide +kernel, rfl, by decide +kernel, by decide +kernel⟩
theorem ok_ref {f : Addr} {fd : FuncData} (F : Fun K "is_refused" "is_refused" sRef f fd) (T : Txt K mg C) : FnOk P w K mg base CX0 1 f fd ["rule", "room"] spRef := by
  obtain ⟨tR, gR⟩ := T.gR
  obtain ⟨tM, gM⟩ := T.gM
  refine F.ok scRef (fun vs H Q E h => ?_) (fun cdv A outer s H vs Q E hr h => ?_)
  · obtain ⟨r, n, rfl, _⟩ := h
    rfl
  · obtain ⟨r, n, rfl, k⟩ := h
    refine ⟨_, pss_one (ps_ret (pe_not (pe_and (pe_chain op_le op_le pe_int (pv 0) (pe_glob (v := .int 4) rfl gR ⟨_, rfl⟩)) (pe_one (pe_chain op_le op_le pe_int (pv 1) (pe_glob (v := .int 1024) rfl gM ⟨_, rfl⟩)))))), ?_⟩
    have fin : ∀ c : Bool, c = Rb20.told r n → Q (.bl (!c)) H := fun c e => by
      rw [e]
      exact k
    have e0 : Rb20.told r n = ((decide (0 ≤ r) && decide (r ≤ 4)) && (decide (1 ≤ n) && decide (n ≤ 1024))) := rfl
    refine ⟨_, rfl, _, _, rfl, rfl, _, rfl, ?_⟩
    by_cases h1 : 0 ≤ r
    · rw [decide_eq_true h1] at e0 ⊢
      refine iteT ?_
      refine ⟨_, _, rfl, rfl, _, rfl, ?_⟩
      by_cases h2 : r ≤ 4
      · rw [decide_eq_true h2] at e0 ⊢
        refine iteT ?_
        refine ⟨_, rfl, _, _, rfl, rfl, _, rfl, ?_⟩
        by_cases h3 : 1 ≤ n
        · rw [decide_eq_true h3] at e0 ⊢
          refine iteT ?_
          refine ⟨_, _, rfl, rfl, _, rfl, ?_⟩
          exact fin _ (by rw [e0]; rfl)
        · rw [decide_eq_false h3] at e0 ⊢
          refine iteF ?_
          refine ⟨_, rfl, ?_⟩
          exact fin _ (by rw [e0]; rfl)
      · rw [decide_eq_false h2] at e0 ⊢
        refine iteF ?_
        refine ⟨_, rfl, ?_⟩
        exact fin _ (by rw [e0]; rfl)
    · rw [decide_eq_false h1] at e0 ⊢
      refine iteF ?_
      refine ⟨_, rfl, ?_⟩
      refine iteF ?_
      refine ⟨_, rfl, ?_⟩
      exact fin _ (by rw [e0]; rfl)
theorem scAft : FnScope ["uses"] ["uses"] (defScope sAft) := ⟨rfl, rfl, rfl, by decide +kernel, rfl, by decide +kernel, by decide +kernel⟩
theorem ok_aft {f : Addr} {fd : FuncData} (F : Fun K "uses_after" "uses_after" sAft f fd) (T : Txt K mg C) : FnOk P w K mg base CX0 1 f fd ["uses"] spAft := by
  obtain ⟨tU, gU⟩ := T.gU
  refine F.ok scAft (fun vs H Q E h => ?_) (fun cdv A outer s H vs Q E hr h => ?_)
  · obtain ⟨n, rfl, _⟩ := h
    rfl
  · obtain ⟨n, rfl, k⟩ := h
    refine ⟨_, pss_one (ps_ret (pe_callB (call_min2 rfl) (by rfl) T.min (by decide +kernel) (pa_cons (pe_op op_add (pv 0) pe_int) (pa_cons (pe_glob (v := .int 4294967295) rfl gU ⟨_, rfl⟩) pa_nil)))), ?_⟩
    exact ⟨_, rfl, _, _, rfl, rfl, _, _, rfl, k⟩
theorem scInit : FnScope ["self", "rule", "room"] ["self", "rule", "room"] (defScope sInit) := ⟨rfl, rfl, rfl, by decide +kernel, rfl, by decide +kernel, by decide +kernel⟩
theorem ok_init {f : Addr} {fd : FuncData} (F : Fun K "__init__" "Lines.__init__" sInit f fd) (T : Txt K mg C) : FnOk P w K mg base CX0 1 f fd ["self", "rule", "room"] (spInit C) := by
  refine F.ok scInit (fun vs H Q E h => ?_) (fun cdv A outer s H vs Q E hr h => ?_)
  · obtain ⟨p, dx, r, n, rfl, _⟩ := h
    rfl
  · obtain ⟨p, dx, r, n, rfl, hp, k⟩ := h
    refine ⟨_, pss_cons (ps_fld (pv 0) (pv 1) rfl) (pss_cons (ps_fld (pv 0) (pv 2) rfl) (pss_cons (ps_fld (pv 0) (pe_lst pa_nil) rfl) (pss_cons (ps_fld (pv 0) (pe_lst pa_nil) rfl)
      (pss_cons (ps_fld (pv 0) pe_dnewK rfl) (pss_one (ps_fld (pv 0) pe_dnewK rfl)))))), ?_⟩
    refine ⟨_, rfl, _, rfl, p, C, dx, _, rfl, hp, T.cl, T.n1, (by show 0 < 1000; decide), ?_⟩
    refine ⟨_, rfl, _, rfl, p, C, dx, _, rfl, upd_same, T.cl, T.n2, (by show 1 < 1000; decide), ?_⟩
    refine ⟨Nat.zero_le _, fun l hl => ?_⟩
    have npl : p ≠ l := ne_of_none upd_same hl
    rw [upd_ne npl.symm, upd_ne npl.symm] at hl
    refine ⟨_, rfl, p, C, dx, _, rfl, (by rw [upd_ne npl]; exact upd_same), T.cl, T.n3, (by show 2 < 1000; decide), ?_⟩
    refine ⟨Nat.zero_le _, fun q hq => ?_⟩
    have npq : p ≠ q := ne_of_none upd_same hq
    rw [upd_ne npq.symm] at hq
    have nlq : l ≠ q := ne_of_none upd_same hq
    rw [upd_ne nlq.symm, upd_ne npq.symm, upd_ne npq.symm] at hq
    refine ⟨_, rfl, p, C, dx, _, rfl, (by rw [upd_ne npq]; exact upd_same), T.cl, T.n4, (by show 3 < 1000; decide), ?_⟩
    intro u hu
    have npu : p ≠ u := ne_of_none upd_same hu
    rw [upd_ne npu.symm] at hu
    have nqu : q ≠ u := ne_of_none upd_same hu
    rw [upd_ne nqu.symm, upd_ne npu.symm] at hu
    have nlu : l ≠ u := ne_of_none upd_same hu
    rw [upd_ne nlu.symm, upd_ne npu.symm, upd_ne npu.symm] at hu
    refine ⟨_, rfl, p, C, dx, _, rfl, (by rw [upd_ne npu]; exact upd_same), T.cl, T.n5, (by show 4 < 1000; decide), ?_⟩
    intro d hd
    have npd : p ≠ d := ne_of_none upd_same hd
    rw [upd_ne npd.symm] at hd
    have nud : u ≠ d := ne_of_none upd_same hd
    rw [upd_ne nud.symm, upd_ne npd.symm] at hd
    have nqd : q ≠ d := ne_of_none upd_same hd
    rw [upd_ne nqd.symm, upd_ne npd.symm] at hd
    have nld : l ≠ d := ne_of_none upd_same hd
    rw [upd_ne nld.symm, upd_ne npd.symm, upd_ne npd.symm] at hd
    refine ⟨_, rfl, p, C, dx, _, rfl, (by rw [upd_ne npd]; exact upd_same), T.cl, T.n6, (by show 5 < 1000; decide), ?_⟩
    refine k ⟨l, q, u, d⟩ _ hl hq hu hd ⟨⟨dx, Eq.trans upd_same (congrArg (fun l => some (HO.ins C dx l)) (lF_new (A := ⟨l, q, u, d⟩)))⟩, ?_, ?_, ?_, ?_, nlq, nud⟩ fun b o e hb => ?_
    · show (upd _ _ _ : Hp) l = _
      rw [upd_ne npl.symm, upd_ne nld, upd_ne npl.symm, upd_ne nlu, upd_ne npl.symm, upd_ne nlq, upd_ne npl.symm]
      exact upd_same
    · show (upd _ _ _ : Hp) q = _
      rw [upd_ne npq.symm, upd_ne nqd, upd_ne npq.symm, upd_ne nqu, upd_ne npq.symm]
      exact upd_same
    · show (upd _ _ _ : Hp) u = _
      rw [upd_ne npu.symm, upd_ne nud, upd_ne npu.symm]
      exact upd_same
    · show (upd _ _ _ : Hp) d = _
      rw [upd_ne npd.symm]
      exact upd_same
    · rw [upd_ne hb, upd_ne (ne_of_none e hd), upd_ne hb, upd_ne (ne_of_none e hu), upd_ne hb, upd_ne (ne_of_none e hq), upd_ne hb, upd_ne (ne_of_none e hl), upd_ne hb, upd_ne hb]
      exact e
end
end Cr
namespace Cr
open PySem PySem.Spec PyProof.Rows L2
theorem LnAt.cnt {C a : Addr} {A : Ad} {H : Hp} {m : M} (L : LnAt C H a A m) {k : Int} (hw : Ints m.uses) (h : (valV m.uses (ki k)).isSome = true) : DGet H A.u (.int k) (some (.int (Cr.cnt m.uses k))) := by
  have q := DGet.k (k := ki k) L.us
  rw [hw.at h] at q
  exact q
theorem at_int {l : List Int} {j : Nat} {x : Int} (h : l[j]? = some x) : (l.map V.int)[j]? = some (.int x) := by
  rw [List.getElem?_map, h]
  rfl
section
variable {P : Program} {w : World} {K : PySem.W.Frag} {mg : Str → Option Value} {base : Heap} {C : Addr}
/-! ### 15. place_by_uses: the search by halves -/
theorem scPlace : FnScope ["self", "key", "uses", "low", "high", "middle"] ["self", "key"] (defScope sPlace) := ⟨rfl, rfl, rfl, by decide +kernel, rfl, by decide +kernel, by decide +kernel⟩
theorem ok_place {f : Addr} {fd : FuncData} (F : Fun K "place_by_uses" "Lines.place_by_uses" sPlace f fd) (T : Txt K mg C) : FnOk P w K mg base CX0 1 f fd ["self", "key"] (spPlace C) := by
  refine F.ok scPlace (fun vs H Q E h => ?_) (fun cdv A0 outer s H vs Q E hr h => ?_)
  · obtain ⟨a, A, m, k, rfl, _⟩ := h
    rfl
  · obtain ⟨a, A, m, k, rfl, L, Pr, kk⟩ := h
    have hu := hu_of hr
    have nd := scPlace.nd
    obtain ⟨dx, hob⟩ := L.ob
    refine ⟨_, pss_cons (ps_set (i := 2) nd rfl (Or.inl rfl) (pe_dget hu (pe_fld (pv 0) rfl) (pv 1) (fun _ _ => rfl)))
      (pss_cons (ps_set (i := 3) nd rfl (Or.inl rfl) pe_int)
      (pss_cons (ps_set (i := 4) nd rfl (Or.inl rfl) (pe_callB call_len_seq (by rfl) T.len PySem.boot_len (pa_cons (pe_fld (pv 0) rfl) pa_nil)))
      (pss_cons (ps_while PassesOwn.never (pt_cmpR op_lt (pv 3) (pv 4) (nomark _))
        (pss_cons (ps_set (i := 5) nd rfl (Or.inl rfl) (pe_op op_fdiv (pe_op op_add (pv 3) (pv 4)) pe_int))
        (pss_one (ps_if (pt_cmpR op_le (pe_dget hu (pe_fld (pv 0) rfl) (pe_ix ix_list (pe_fld (pv 0) rfl) (pv 5) (fun _ _ => rfl)) (fun _ _ => rfl)) (pv 2) (nomark _))
          (pss_one (ps_set (i := 3) nd rfl (Or.inl rfl) (pe_op op_add (pv 5) pe_int)))
          (pss_one (ps_set (i := 4) nd rfl (Or.inl rfl) (pv 5)))))))
      (pss_one (ps_expr (pe_bm PySem.F.plainAttrs_list PySem.F.slot_list_insert PySem.F.type_list_insert mt_insert (pe_fld (pv 0) rfl) (pa_cons (pv 3) (pa_cons (pv 1) pa_nil)))))))), ?_⟩
    refine ⟨_, rfl, a, C, dx, _, _, rfl, hob, T.cl, T.n5, lF_uses, _, rfl, _, _, rfl, L.cnt Pr.whl Pr.has, ?_⟩
    refine ⟨_, rfl, a, C, dx, _, _, rfl, hob, T.cl, T.n3, lF_line, _, _, rfl, .inl (SqL.of L.ln), ?_⟩
    refine ⟨fun n σ' H' => ∃ (lo hi : Nat) (v : Option V), n = hi - lo ∧ H' = H ∧ σ' = [some (.ref a), some (.int k), some (.int (cnt m.uses k)), some (.int (lo : Int)), some (.int (hi : Int)), v] ∧ lo ≤ hi ∧ hi ≤ m.line.length ∧
      (∀ (j : Nat) (x : Int), j < lo → m.line[j]? = some x → cnt m.uses x ≤ cnt m.uses k) ∧ (∀ (j : Nat) (x : Int), hi ≤ j → m.line[j]? = some x → cnt m.uses k < cnt m.uses x), ⟨m.line.length, 0, m.line.length, none, rfl, rfl, ?_, Nat.zero_le _, Nat.le_refl _, fun j x hj => absurd hj (Nat.not_lt_zero _), fun j x hj hx => ?_⟩, ?_⟩
    · rw [List.length_map]
      rfl
    · have q := (List.getElem?_eq_some_iff.mp hx).1
      omega
    · rintro n σ' H' ⟨lo, hi, v, rfl, rfl, rfl, hlh, hhl, h1, h2⟩
      refine ⟨_, rfl, _, rfl, _, _, rfl, rfl, _, rfl, ?_⟩
      by_cases c : (lo : Int) < (hi : Int)
      · rw [decide_eq_true c]
        refine iteT ?_
        refine ⟨_, fun _ _ h => h, ?_⟩
        refine ⟨_, rfl, _, rfl, _, _, rfl, rfl, _, _, rfl, rfl, ⟨by decide, by decide⟩, ?_⟩
        have hmid : ((lo : Int) + (hi : Int)) / 2 = (((lo + hi) / 2 : Nat) : Int) := by omega
        have hml : (lo + hi) / 2 < m.line.length := by omega
        obtain ⟨x, hx⟩ : ∃ x, m.line[(lo + hi) / 2]? = some x := ⟨_, List.getElem?_eq_getElem hml⟩
        have hxm : x ∈ m.line := List.mem_of_getElem? hx
        refine ⟨_, rfl, a, C, dx, _, _, rfl, hob, T.cl, T.n5, lF_uses, _, rfl, a, C, dx, _, _, rfl, hob, T.cl, T.n3, lF_line, _, rfl, _, _, _, _, rfl, rfl, SqL.of L.ln, at_of hmid (at_int hx), _, _, rfl, L.cnt Pr.whl (Pr.all x hxm), ?_⟩
        refine ⟨_, rfl, _, _, rfl, rfl, _, rfl, ?_⟩
        by_cases c2 : cnt m.uses x ≤ cnt m.uses k
        · rw [decide_eq_true c2]
          refine iteT ?_
          refine ⟨_, rfl, _, _, rfl, rfl, ?_⟩
          refine ⟨hi - ((lo + hi) / 2 + 1), by omega, (lo + hi) / 2 + 1, hi, some (V.int (((lo : Int) + (hi : Int)) / 2)), rfl, rfl, ?_, by omega, hhl, fun j y hj hy => ?_, h2⟩
          · show [some (V.ref a), some (V.int k), some (V.int (cnt m.uses k)), some (V.int (((lo : Int) + (hi : Int)) / 2 + 1)), some (V.int (hi : Int)), some (V.int (((lo : Int) + (hi : Int)) / 2))] = _
            rw [show ((lo : Int) + (hi : Int)) / 2 + 1 = (((lo + hi) / 2 + 1 : Nat) : Int) by omega]
          · exact Int.le_trans (at_le Pr.srt (by omega) hy hx) c2
        · rw [decide_eq_false c2]
          refine iteF ?_
          refine ⟨_, rfl, ?_⟩
          refine ⟨(lo + hi) / 2 - lo, by omega, lo, (lo + hi) / 2, some (V.int (((lo : Int) + (hi : Int)) / 2)), rfl, rfl, ?_, by omega, by omega, h1, fun j y hj hy => ?_⟩
          · show [some (V.ref a), some (V.int k), some (V.int (cnt m.uses k)), some (V.int (lo : Int)), some (V.int (((lo : Int) + (hi : Int)) / 2)), some (V.int (((lo : Int) + (hi : Int)) / 2))] = _
            rw [hmid]
          · exact Int.lt_of_lt_of_le (Int.not_le.mp c2) (at_le Pr.srt hj hx hy)
      · rw [decide_eq_false c]
        refine iteF ?_
        have e : lo = hi := by omega
        subst e
        have hlen := Pr.len
        refine ⟨_, rfl, a, C, dx, _, _, rfl, hob, T.cl, T.n3, lF_line, ty_l L, _, rfl, _, rfl, _, _, _, _, rfl, rfl, L.ln, line_small (by rw [List.length_map]; exact hlen), Int.natCast_nonneg _, (by omega), ?_⟩
        obtain ⟨e1, e2⟩ := cut_at h1 h2
        refine kk _ (L.setLine ?_) Keeps.l
        rw [Int.toNat_natCast, ← List.map_take, ← List.map_drop, e1, e2, List.append_assoc, List.map_append, List.map_cons]
        rfl
end
end Cr
namespace Cr
open PySem PySem.Spec PyProof.Rows L2
theorem flat_ints (l : List Int) : (l.map V.int).all flatV = true := by
  rw [List.all_map, List.all_eq_true]
  exact fun _ _ => rfl
theorem inV_ints (k : Int) (l : List Int) : inV (.int k) (l.map V.int) = decide (k ∈ l) := by
  unfold inV
  rw [List.any_map, Bool.eq_iff_iff, List.any_eq_true, decide_eq_true_iff]
  constructor
  · rintro ⟨x, hx, e⟩
    have e : (x == k) = true := e
    rw [← beq_iff_eq.mp e]
    exact hx
  · intro h
    exact ⟨k, h, beq_self_eq_true k⟩
section
variable {C a : Addr} {A : Ad} {H : Hp} {m : M} {Q : VK}
theorem snoc_map {l : List Int} {k : Int} : l.map V.int ++ [V.int k] = (l ++ [k]).map V.int := by
  rw [List.map_append]
  rfl
theorem small_map {l : List Int} (h : l.length ≤ 1024) : (l.map V.int).length < sizeLine := line_small (by rw [List.length_map]; exact h)
theorem sq0 {n : Nat} : seqIndex? 0 (n + 1) = some 0 := by
  unfold seqIndex?
  simp
/-- self.line.pop(0), self.safe.pop(0) -/
theorem p_line {x : Int} {r : List Int} (L : LnAt C H a A m) (e : m.line = x :: r) (q : Q (.int x) (upd H A.l (.lst (r.map V.int)))) : rPopAt (.ref A.l) [.int 0] H Q := by
  have h := L.ln
  rw [e] at h
  exact ⟨A.l, _, 0, 0, _, rfl, rfl, h, by decide, by decide, sq0, rfl, q⟩
theorem p_safe {x : Int} {r : List Int} (L : LnAt C H a A m) (e : m.safe = x :: r) (q : Q (.int x) (upd H A.s (.lst (r.map V.int)))) : rPopAt (.ref A.s) [.int 0] H Q := by
  have h := L.sf
  rw [e] at h
  exact ⟨A.s, _, 0, 0, _, rfl, rfl, h, by decide, by decide, sq0, rfl, q⟩
end
end Cr
namespace Cr
open PySem PySem.Spec PyProof.Rows L2
section
variable {P : Program} {w : World} {K : PySem.W.Frag} {mg : Str → Option Value} {base : Heap} {C : Addr}
/-! ### 16. make_safe -/
theorem scSafe : FnScope ["self", "key"] ["self", "key"] (defScope sSafe) := ⟨rfl, rfl, rfl, by decide +kernel, rfl, by decide +kernel, by decide +kernel⟩
/-- self.safe.append(key); if len(self.safe) > self.room // 2: self.line.append(self.safe.pop(0)) -/
def t_tail (K : PySem.W.Frag) : TS :=
  tSeq (tDrop (tBM K "list" rAppend (tFld K (tVar 0) "safe") (tCons (tVar 1) tNil)))
    (tIfS (tTest (tOp (rI0 fun i j => .bl (decide (j < i))) (tCB (fun xs H Q => ∃ p ys, xs = [.ref p] ∧ (SqL K H p ys ∨ SqT K H p ys) ∧ Q (.int ys.length) H) (tCons (tFld K (tVar 0) "safe") tNil)) (tOp (rI CDiv fun i j => .int (i / j)) (tFld K (tVar 0) "room") (tC (.int 2)))))
      (tDrop (tBM K "list" rAppend (tFld K (tVar 0) "line") (tCons (tBM K "list" rPopAt (tFld K (tVar 0) "safe") (tCons (tC (.int 0)) tNil)) tNil))) tNext)
theorem tail_ok (T : Txt K mg C) {a : Addr} {A : Ad} {H : Hp} {m : M} {k : Int} {Q : VK} (L : LnAt C H a A m) (hs : m.safe.length + 1 ≤ 1024) (hl : m.line.length ≤ 1024)
    (q : ∀ H', LnAt C H' a A ({ m with safe := m.safe ++ [k] } : M).back → Keeps A H H' → Q .non H') : t_tail K { nx := fun _ H' => Q .non H', rt := Q } [some (.ref a), some (.int k)] H := by
  obtain ⟨dx, hob⟩ := L.ob
  refine ⟨_, rfl, a, C, dx, _, _, rfl, hob, T.cl, T.n4, lF_safe, ty_s L, _, rfl, A.s, _, _, rfl, rfl, L.sf, small_map (by omega), ?_⟩
  have L1 := L.setSafe (l := m.safe ++ [k]) (snoc_map (l := m.safe) (k := k))
  have K1 : Keeps A H (upd H A.s (.lst (m.safe.map V.int ++ [V.int k]))) := Keeps.s
  generalize upd H A.s (.lst (m.safe.map V.int ++ [V.int k])) = H1 at L1 K1
  obtain ⟨dx1, hob1⟩ := L1.ob
  refine ⟨_, rfl, a, C, dx1, _, _, rfl, hob1, T.cl, T.n4, lF_safe, _, _, rfl, .inl (SqL.of L1.sf), ?_⟩
  refine ⟨_, rfl, a, C, dx1, _, _, rfl, hob1, T.cl, T.n2, lF_room, _, _, rfl, rfl, ⟨by decide, by decide⟩, _, _, rfl, rfl, _, rfl, ?_⟩
  by_cases c : m.room / 2 < ((m.safe ++ [k]).length : Int)
  · have c' : m.room / 2 < (((m.safe ++ [k]).map V.int).length : Int) := by rw [List.length_map]; exact c
    refine (if_pos (decide_eq_true c')).mpr ?_
    obtain ⟨x, r, e⟩ : ∃ x r, m.safe ++ [k] = x :: r := by
      cases h : m.safe ++ [k] with
      | nil => exact absurd h (by simp)
      | cons x r => exact ⟨x, r, rfl⟩
    refine ⟨_, rfl, a, C, dx1, _, _, rfl, hob1, T.cl, T.n3, lF_line, ty_l L1, _, rfl, a, C, dx1, _, _, rfl, hob1, T.cl, T.n4, lF_safe, ty_s L1, ?_⟩
    refine p_safe L1 e ?_
    have L2 := L1.setSafe (xs := r.map V.int) rfl
    have K2 : Keeps A H (upd H1 A.s (.lst (r.map V.int))) := K1.trans Keeps.s
    refine ⟨A.l, _, _, rfl, rfl, L2.ln, small_map hl, ?_⟩
    refine q _ ?_ (K2.trans Keeps.l)
    have eb : ({ m with safe := m.safe ++ [k] } : M).back = { m with line := m.line ++ [x], safe := r } := by
      unfold M.back
      rw [if_pos c]
      simp only [e]
      rfl
    rw [eb]
    exact L2.setLine snoc_map
  · have c' : ¬ m.room / 2 < (((m.safe ++ [k]).map V.int).length : Int) := by rw [List.length_map]; exact c
    refine (if_neg (by rw [decide_eq_true_iff]; exact c')).mpr ?_
    refine q _ ?_ K1
    have eb : ({ m with safe := m.safe ++ [k] } : M).back = { m with safe := m.safe ++ [k] } := by
      unfold M.back
      rw [if_neg c]
    rw [eb]
    exact L1
theorem ok_safe {f : Addr} {fd : FuncData} (F : Fun K "make_safe" "Lines.make_safe" sSafe f fd) (T : Txt K mg C) : FnOk P w K mg base CX0 1 f fd ["self", "key"] (spSafe C) := by
  refine F.ok scSafe (fun vs H Q E h => ?_) (fun cdv A0 outer s H vs Q E hr h => ?_)
  · obtain ⟨a, A, m, k, rfl, _⟩ := h
    rfl
  · obtain ⟨a, A, m, k, rfl, L, Pr, kk⟩ := h
    refine ⟨_, pss_cons (ps_if (pt_cmpR op_in_seq (pv 1) (pe_fld (pv 0) rfl) (by rfl))
        (pss_one (ps_expr (pe_bm PySem.F.plainAttrs_list PySem.F.slot_list_remove PySem.F.type_list_remove mt_remove (pe_fld (pv 0) rfl) (pa_cons (pv 1) pa_nil))))
        (pss_one (ps_expr (pe_bm PySem.F.plainAttrs_list PySem.F.slot_list_remove PySem.F.type_list_remove mt_remove (pe_fld (pv 0) rfl) (pa_cons (pv 1) pa_nil)))))
      (pss_cons (ps_expr (pe_bm PySem.F.plainAttrs_list PySem.F.slot_list_append PySem.F.type_list_append mt_append (pe_fld (pv 0) rfl) (pa_cons (pv 1) pa_nil)))
      (pss_one (ps_if (pt_cmpR op_gt (pe_callB call_len_seq (by rfl) T.len PySem.boot_len (pa_cons (pe_fld (pv 0) rfl) pa_nil)) (pe_op op_fdiv (pe_fld (pv 0) rfl) pe_int) (nomark _))
        (pss_one (ps_expr (pe_bm PySem.F.plainAttrs_list PySem.F.slot_list_append PySem.F.type_list_append mt_append (pe_fld (pv 0) rfl)
          (pa_cons (pe_bm PySem.F.plainAttrs_list PySem.F.slot_list_pop PySem.F.type_list_pop mt_popAt (pe_fld (pv 0) rfl) (pa_cons pe_int pa_nil)) pa_nil)))) pss_nil))), ?_⟩
    obtain ⟨dx, hob⟩ := L.ob
    have hlen := Pr.len
    refine ⟨_, rfl, _, rfl, a, C, dx, _, _, rfl, hob, T.cl, T.n4, lF_safe, _, _, rfl, .inl (SqL.of L.sf), rfl, flat_ints _, _, rfl, ?_⟩
    have ei : inV (V.int k) (m.safe.map V.int) = decide (k ∈ m.safe) := inV_ints k _
    by_cases c : k ∈ m.safe
    · refine (if_pos (ei.trans (decide_eq_true c))).mpr ?_
      refine ⟨_, rfl, a, C, dx, _, _, rfl, hob, T.cl, T.n4, lF_safe, ty_s L, _, rfl, ?_⟩
      obtain ⟨j, _, g2, g3, g4⟩ := first_at c
      refine ⟨A.s, m.safe, k, j, rfl, rfl, L.sf, g2, g3, ?_⟩
      have hle : (m.safe.erase k).length = m.safe.length - 1 := List.length_erase_of_mem c
      have hpos : 0 < m.safe.length := List.length_pos_of_mem c
      refine tail_ok T (L.setSafe (l := m.safe.erase k) (by rw [g4])) (by show (m.safe.erase k).length + 1 ≤ 1024; omega) (by show m.line.length ≤ 1024; omega) fun H' L' K' => ?_
      refine kk H' ?_ (Keeps.s.trans K')
      unfold M.safer M.inSafe
      rw [if_pos c]
      exact L'
    · refine (if_neg (by rw [Bool.not_eq_true]; exact ei.trans (decide_eq_false c))).mpr ?_
      have hk : k ∈ m.line := (List.mem_append.mp Pr.mem).resolve_right c
      refine ⟨_, rfl, a, C, dx, _, _, rfl, hob, T.cl, T.n3, lF_line, ty_l L, _, rfl, ?_⟩
      obtain ⟨j, _, g2, g3, g4⟩ := first_at hk
      refine ⟨A.l, m.line, k, j, rfl, rfl, L.ln, g2, g3, ?_⟩
      have hle : (m.line.erase k).length = m.line.length - 1 := List.length_erase_of_mem hk
      have hpos : 0 < m.line.length := List.length_pos_of_mem hk
      refine tail_ok T (L.setLine (l := m.line.erase k) (by rw [g4])) (by show m.safe.length + 1 ≤ 1024; omega) (by show (m.line.erase k).length ≤ 1024; omega) fun H' L' K' => ?_
      refine kk H' ?_ (Keeps.l.trans K')
      unfold M.safer M.inSafe
      rw [if_neg c]
      exact L'
end
end Cr
namespace Cr
open PySem PySem.Spec PyProof.Rows L2
section
variable {P : Program} {w : World} {K : PySem.W.Frag} {mg : Str → Option Value} {base : Heap} {C : Addr}
/-! ### 17. leave -/
theorem scLeave : FnScope ["self", "spared", "gone"] ["self"] (defScope sLeave) := ⟨rfl, rfl, rfl, by decide +kernel, rfl, by decide +kernel, by decide +kernel⟩
theorem spin_turn {m : M} {x : Int} {r : List Int} (e : m.line = x :: r) (h : (valV m.marked (ki x)).isSome = true) (hn : (m.marked.map (·.1)).Nodup) :
    spin (m.turn x r).marked.length (m.turn x r) = spin m.marked.length m ∧ (m.turn x r).marked.length + 1 = m.marked.length := by
  have q : (dropK m.marked (ki x)).length + 1 = m.marked.length := dropK_len hn (isSome_iff.mp h)
  refine ⟨?_, q⟩
  rw [← q]
  show spin (dropK m.marked (ki x)).length (m.turn x r) = spin ((dropK m.marked (ki x)).length + 1) m
  conv => rhs; unfold spin
  rw [e]
  show _ = if (valV m.marked (ki x)).isSome = true then _ else _
  rw [if_pos h]
theorem spin_stop {m : M} {x : Int} {r : List Int} (e : m.line = x :: r) (h : ¬ (valV m.marked (ki x)).isSome = true) : ∀ n, spin n m = m
  | 0 => rfl
  | n + 1 => by
    unfold spin
    rw [e]
    show (if (valV m.marked (ki x)).isSome = true then _ else _) = _
    rw [if_neg h]
theorem ok_leave {f : Addr} {fd : FuncData} (F : Fun K "leave" "Lines.leave" sLeave f fd) (T : Txt K mg C) : FnOk P w K mg base CX0 1 f fd ["self"] (spLeave C) := by
  refine F.ok scLeave (fun vs H Q E h => ?_) (fun cdv A0 outer s H vs Q E hr h => ?_)
  · obtain ⟨a, A, m, rfl, _⟩ := h
    rfl
  · obtain ⟨a, A, m, rfl, L, Pr, kk⟩ := h
    have hu := hu_of hr
    have nd := scLeave.nd
    refine ⟨_, pss_cons (ps_while PassesOwn.never (pt_cmp (pc_din hu (pe_ix ix_list (pe_fld (pv 0) rfl) pe_int (fun _ _ => rfl)) (pe_fld (pv 0) rfl)))
        (pss_cons (ps_set (i := 1) nd rfl (Or.inl rfl) (pe_bm PySem.F.plainAttrs_list PySem.F.slot_list_pop PySem.F.type_list_pop mt_popAt (pe_fld (pv 0) rfl) (pa_cons pe_int pa_nil)))
        (pss_cons (ps_expr (pe_dpop1 (pe_fld (pv 0) rfl) (pv 1) ⟨rfl, rfl, rfl, rfl⟩))
        (pss_one (ps_expr (pe_bm PySem.F.plainAttrs_list PySem.F.slot_list_append PySem.F.type_list_append mt_append (pe_fld (pv 0) rfl) (pa_cons (pv 1) pa_nil)))))))
      (pss_cons (ps_set (i := 2) nd rfl (Or.inl rfl) (pe_bm PySem.F.plainAttrs_list PySem.F.slot_list_pop PySem.F.type_list_pop mt_popAt (pe_fld (pv 0) rfl) (pa_cons pe_int pa_nil)))
      (pss_one (ps_expr (pe_dpop1 (pe_fld (pv 0) rfl) (pv 2) ⟨rfl, rfl, rfl, rfl⟩)))), ?_⟩
    refine ⟨fun n σ' H' => ∃ (m' : M) (v u : Option V), n = m'.marked.length ∧ σ' = [some (.ref a), v, u] ∧ LnAt C H' a A m' ∧ Keeps A H H' ∧ PreLeave m' ∧ spin m'.marked.length m' = spin m.marked.length m, ⟨_, m, none, none, rfl, rfl, L, .refl, Pr, rfl⟩, ?_⟩
    rintro n σ' H' ⟨m', v, u, rfl, rfl, L', K', Pr', es⟩
    obtain ⟨dx, hob⟩ := L'.ob
    obtain ⟨x, r, e⟩ : ∃ x r, m'.line = x :: r := by
      cases h : m'.line with
      | nil => exact absurd h Pr'.ne
      | cons x r => exact ⟨x, r, rfl⟩
    have h0 : (m'.line.map V.int)[0]? = some (V.int x) := by rw [e]; rfl
    have hx : x ∈ m'.line := by rw [e]; exact List.mem_cons_self
    have hlen := Pr'.len
    refine ⟨_, rfl, a, C, dx, _, _, rfl, hob, T.cl, T.n3, lF_line, _, _, _, _, rfl, rfl, SqL.of L'.ln, at_of (j := 0) rfl h0, ?_⟩
    refine ⟨_, rfl, a, C, dx, _, _, rfl, hob, T.cl, T.n6, lF_marked, _, _, rfl, DGet.k (k := ki x) L'.mkd, _, rfl, ?_⟩
    by_cases c : (valV m'.marked (ki x)).isSome = true
    · refine (if_pos c).mpr ?_
      refine ⟨_, fun _ _ h => h, ?_⟩
      refine ⟨_, rfl, a, C, dx, _, _, rfl, hob, T.cl, T.n3, lF_line, ty_l L', ?_⟩
      refine p_line L' e ?_
      have L1 := L'.setLine (l := r) (xs := r.map V.int) rfl
      have K1 : Keeps A H (upd H' A.l (.lst (r.map V.int))) := K'.trans Keeps.l
      obtain ⟨dx1, hob1⟩ := L1.ob
      obtain ⟨z, hz⟩ := Option.isSome_iff_exists.mp c
      refine ⟨_, rfl, a, C, dx1, _, _, rfl, hob1, T.cl, T.n6, lF_marked, _, rfl, .inl ⟨_, Rd.of L1.mkd⟩, _, rfl, m'.marked, ki x, z, L1.mkd, rfl, hz, ?_⟩
      have L2 := L1.setMarked (kv := dropK m'.marked (ki x))
      obtain ⟨dx2, hob2⟩ := L2.ob
      refine ⟨_, rfl, a, C, dx2, _, _, rfl, hob2, T.cl, T.n3, lF_line, ty_l L2, _, rfl, ?_⟩
      have hr : r.length ≤ 1024 := by
        rw [e, List.length_cons] at hlen
        omega
      refine ⟨A.l, _, _, rfl, rfl, L2.ln, small_map hr, ?_⟩
      obtain ⟨s1, s2⟩ := spin_turn e c Pr'.nd
      have hp : (r ++ [x]).Perm m'.line := by
        rw [e]
        exact List.perm_append_comm (l₂ := [x])
      refine ⟨_, ?_, m'.turn x r, _, _, rfl, rfl, L2.setLine (l := r ++ [x]) snoc_map, (K1.trans Keeps.k).trans Keeps.l, ⟨?_, ?_, nd_dropK Pr'.nd, ?_⟩, s1.trans es⟩
      · omega
      · show r ++ [x] ≠ []
        simp
      · show (r ++ [x]).length ≤ 1024
        rw [hp.length_eq]
        exact hlen
      · intro y hy
        exact Pr'.all y (hp.mem_iff.mp hy)
    · refine (if_neg c).mpr ?_
      have ee := spin_stop e c m'.marked.length
      rw [es] at ee
      refine ⟨_, rfl, a, C, dx, _, _, rfl, hob, T.cl, T.n3, lF_line, ty_l L', ?_⟩
      refine p_line L' e ?_
      have L1 := L'.setLine (l := r) (xs := r.map V.int) rfl
      obtain ⟨dx1, hob1⟩ := L1.ob
      obtain ⟨z, hz⟩ := Option.isSome_iff_exists.mp (Pr'.all x hx)
      refine ⟨_, rfl, a, C, dx1, _, _, rfl, hob1, T.cl, T.n5, lF_uses, _, rfl, .inl ⟨_, Rd.of L1.us⟩, _, rfl, m'.uses, ki x, z, L1.us, rfl, hz, ?_⟩
      refine kk _ ?_ ((K'.trans Keeps.l).trans Keeps.u)
      unfold M.leave
      rw [ee]
      unfold M.gone
      rw [e]
      exact L1.setUses
end
end Cr
namespace Cr
open PySem PySem.Spec PyProof.Rows L2
theorem eq_yes {i j : Int} {A B : Prop} (c : i = j) (h : A) : if decide (V.int i = V.int j) = true then A else B := (if_pos (decide_eq_true (congrArg V.int c))).mpr h
theorem eq_no {i j : Int} {A B : Prop} (c : ¬ i = j) (h : B) : if decide (V.int i = V.int j) = true then A else B := (if_neg (by rw [decide_eq_true_iff]; exact fun z => c (V.int.inj z))).mpr h
section
variable {P : Program} {w : World} {K : PySem.W.Frag} {mg : Str → Option Value} {base : Heap} {C : Addr}
/-! ### 18. come, use_again -/
theorem scCome : FnScope ["self", "key"] ["self", "key"] (defScope sCome) := ⟨rfl, rfl, rfl, by decide +kernel, rfl, by decide +kernel, by decide +kernel⟩
theorem ok_come {f fP : Addr} {fd fdP : FuncData} (F : Fun K "come" "Lines.come" sCome f fd) (T : Txt K mg C) (GP : FnOk P w K mg base CX0 1 fP fdP ["self", "key"] (spPlace C)) (bP : Binds K fdP ["self", "key"] []) (mP : Meth K C "place_by_uses" fP) :
    FnOk P w K mg base CX0 2 f fd ["self", "key"] (spCome C) := by
  refine F.ok scCome (fun vs H Q E h => ?_) (fun cdv A0 outer s H vs Q E hr h => ?_)
  · obtain ⟨a, A, m, k, rfl, _⟩ := h
    rfl
  · obtain ⟨a, A, m, k, rfl, L, ⟨s0, es0, R, hk⟩, kk⟩ := h
    have hu := hu_of hr
    refine ⟨_, pss_cons (ps_dput hu (pe_fld (pv 0) rfl) (pv 1) pe_int rfl)
      (pss_one (ps_if (pt_cmpR op_eq (pe_fld (pv 0) rfl) pe_int (nomark _))
        (pss_one (ps_expr (pe_meth (pv 0) T.cl mP GP hr bP .nil pass0 (by exact (pa_cons (pv 1) pa_nil)))))
        (pss_one (ps_expr (pe_bm PySem.F.plainAttrs_list PySem.F.slot_list_append PySem.F.type_list_append mt_append (pe_fld (pv 0) rfl) (pa_cons (pv 1) pa_nil)))))), ?_⟩
    obtain ⟨dx, hob⟩ := L.ob
    have hl := R.lines
    refine ⟨_, rfl, a, C, dx, _, _, rfl, hob, T.cl, T.n5, lF_uses, _, rfl, _, _, rfl, DPut.k (k := ki k) L.us (line_small (by rw [R.ulen]; exact hl)), ?_⟩
    have L1 : LnAt C (upd H A.u (.dK (putK m.uses (ki k) (V.int 1)))) a A (m.put1 k) := L.setUses
    have K1 : Keeps A H (upd H A.u (.dK (putK m.uses (ki k) (V.int 1)))) := Keeps.u
    generalize upd H A.u (.dK (putK m.uses (ki k) (V.int 1))) = H1 at L1 K1
    obtain ⟨dx1, hob1⟩ := L1.ob
    refine ⟨_, rfl, a, C, dx1, _, _, rfl, hob1, T.cl, T.n1, lF_rule, rfl, _, rfl, ?_⟩
    by_cases c : m.rule = 2
    · refine eq_yes c ?_
      have h2 : s0.rule = 2 := by
        have q := R.rule
        omega
      refine ⟨_, rfl, a, dx1, _, rfl, hob1, lF_place, _, rfl, a, A, m.put1 k, k, rfl, L1, R.preCome h2 hk, fun H' L' K' => ?_⟩
      refine kk H' ?_ (K1.trans K')
      unfold M.come
      rw [if_pos c]
      exact L'
    · refine eq_no c ?_
      refine ⟨_, rfl, a, C, dx1, _, _, rfl, hob1, T.cl, T.n3, lF_line, ty_l L1, _, rfl, A.l, _, _, rfl, rfl, L1.ln, small_map (by show m.line.length ≤ 1024; omega), ?_⟩
      refine kk _ ?_ (K1.trans Keeps.l)
      unfold M.come
      rw [if_neg c]
      exact L1.setLine snoc_map
theorem scAgain : FnScope ["self", "key"] ["self", "key"] (defScope sAgain) := ⟨rfl, rfl, rfl, by decide +kernel, rfl, by decide +kernel, by decide +kernel⟩
theorem ok_again {f fP fS fA : Addr} {fd fdP fdS fdA : FuncData} (F : Fun K "use_again" "Lines.use_again" sAgain f fd) (T : Txt K mg C) (GP : FnOk P w K mg base CX0 1 fP fdP ["self", "key"] (spPlace C)) (bP : Binds K fdP ["self", "key"] []) (mP : Meth K C "place_by_uses" fP)
    (GS : FnOk P w K mg base CX0 1 fS fdS ["self", "key"] (spSafe C)) (bS : Binds K fdS ["self", "key"] []) (mS : Meth K C "make_safe" fS) (GA : FnOk P w K mg base CX0 1 fA fdA ["uses"] spAft) (bA : Binds K fdA ["uses"] []) (gA : mg "uses_after" = some (.ref fA)) (kA : PySem.W.keepIn K (.ref fA) = true) :
    FnOk P w K mg base CX0 2 f fd ["self", "key"] (spAgain C) := by
  refine F.ok scAgain (fun vs H Q E h => ?_) (fun cdv A0 outer s H vs Q E hr h => ?_)
  · obtain ⟨a, A, m, k, rfl, _⟩ := h
    rfl
  · obtain ⟨a, A, m, k, rfl, L, ⟨s0, es0, R, hk⟩, kk⟩ := h
    have hu := hu_of hr
    refine ⟨_, pss_cons (ps_dput hu (pe_fld (pv 0) rfl) (pv 1) (pe_call GA hr rfl gA kA bA .nil pass0 (pa_cons (pe_dget hu (pe_fld (pv 0) rfl) (pv 1) (fun _ _ => rfl)) pa_nil)) rfl)
      (pss_one (ps_if (pt_cmpR op_eq (pe_fld (pv 0) rfl) pe_int (nomark _))
        (pss_cons (ps_expr (pe_bm PySem.F.plainAttrs_list PySem.F.slot_list_remove PySem.F.type_list_remove mt_remove (pe_fld (pv 0) rfl) (pa_cons (pv 1) pa_nil)))
          (pss_one (ps_expr (pe_bm PySem.F.plainAttrs_list PySem.F.slot_list_append PySem.F.type_list_append mt_append (pe_fld (pv 0) rfl) (pa_cons (pv 1) pa_nil)))))
        (pss_one (ps_if (pt_cmpR op_eq (pe_fld (pv 0) rfl) pe_int (nomark _))
          (pss_cons (ps_expr (pe_bm PySem.F.plainAttrs_list PySem.F.slot_list_remove PySem.F.type_list_remove mt_remove (pe_fld (pv 0) rfl) (pa_cons (pv 1) pa_nil)))
            (pss_one (ps_expr (pe_meth (pv 0) T.cl mP GP hr bP .nil pass0 (by exact (pa_cons (pv 1) pa_nil))))))
          (pss_one (ps_if (pt_cmpR op_eq (pe_fld (pv 0) rfl) pe_int (nomark _))
            (pss_one (ps_dput hu (pe_fld (pv 0) rfl) (pv 1) pe_bl rfl))
            (pss_one (ps_if (pt_cmpR op_eq (pe_fld (pv 0) rfl) pe_int (nomark _))
              (pss_one (ps_expr (pe_meth (pv 0) T.cl mS GS hr bS .nil pass0 (by exact (pa_cons (pv 1) pa_nil)))))
              pss_nil)))))))), ?_⟩
    obtain ⟨dx, hob⟩ := L.ob
    have hl := R.lines
    have hh := (R.has k).mpr hk
    have dg : DGet H A.u (.int k) (some (.int (cnt m.uses k))) := by
      have q := DGet.k (k := ki k) L.us
      rw [R.uints.at hh] at q
      exact q
    refine ⟨_, rfl, a, C, dx, _, _, rfl, hob, T.cl, T.n5, lF_uses, _, rfl, _, _, rfl, dg, _, rfl, ?_⟩
    refine ⟨_, rfl, a, C, dx, _, _, rfl, hob, T.cl, T.n5, lF_uses, _, rfl, _, _, rfl, DPut.k (k := ki k) L.us (line_small (by rw [R.ulen]; exact hl)), ?_⟩
    have L1 : LnAt C (upd H A.u (.dK (putK m.uses (ki k) (V.int (after (cnt m.uses k)))))) a A (m.count k) := L.setUses
    have K1 : Keeps A H (upd H A.u (.dK (putK m.uses (ki k) (V.int (after (cnt m.uses k)))))) := Keeps.u
    generalize upd H A.u (.dK (putK m.uses (ki k) (V.int (after (cnt m.uses k))))) = H1 at L1 K1
    obtain ⟨dx1, hob1⟩ := L1.ob
    have hmr := R.rule
    have hin : ¬ s0.rule = 4 → k ∈ m.line := fun z => by
      have e : m.safe = [] := by rw [R.safe, R.sf0 z]; rfl
      rw [e, List.append_nil] at hk
      exact hk
    refine ⟨_, rfl, a, C, dx1, _, _, rfl, hob1, T.cl, T.n1, lF_rule, rfl, _, rfl, ?_⟩
    by_cases c1 : m.rule = 1
    · refine eq_yes c1 ?_
      have hkl := hin (by omega)
      obtain ⟨j, _, g2, g3, g4⟩ := first_at hkl
      refine ⟨_, rfl, a, C, dx1, _, _, rfl, hob1, T.cl, T.n3, lF_line, ty_l L1, _, rfl, A.l, m.line, k, j, rfl, rfl, L1.ln, g2, g3, ?_⟩
      have L2 := L1.setLine (xs := (m.line.eraseIdx j).map V.int) (l := m.line.erase k) (by rw [g4])
      obtain ⟨dx2, hob2⟩ := L2.ob
      refine ⟨_, rfl, a, C, dx2, _, _, rfl, hob2, T.cl, T.n3, lF_line, ty_l L2, _, rfl, A.l, _, _, rfl, rfl, L2.ln, small_map (Nat.le_trans List.length_erase_le (by omega)), ?_⟩
      refine kk _ ?_ ((K1.trans Keeps.l).trans Keeps.l)
      unfold M.again
      rw [if_pos c1]
      exact L2.setLine snoc_map
    refine eq_no c1 ?_
    refine ⟨_, rfl, a, C, dx1, _, _, rfl, hob1, T.cl, T.n1, lF_rule, rfl, _, rfl, ?_⟩
    by_cases c2 : m.rule = 2
    · refine eq_yes c2 ?_
      have hkl := hin (by omega)
      obtain ⟨j, _, g2, g3, g4⟩ := first_at hkl
      refine ⟨_, rfl, a, C, dx1, _, _, rfl, hob1, T.cl, T.n3, lF_line, ty_l L1, _, rfl, A.l, m.line, k, j, rfl, rfl, L1.ln, g2, g3, ?_⟩
      have L2 : LnAt C (upd H1 A.l (.lst ((m.line.eraseIdx j).map V.int))) a A ((m.count k).off k) := L1.setLine (xs := (m.line.eraseIdx j).map V.int) (l := m.line.erase k) (by rw [g4])
      obtain ⟨dx2, hob2⟩ := L2.ob
      refine ⟨_, rfl, a, dx2, _, rfl, hob2, lF_place, _, rfl, a, A, (m.count k).off k, k, rfl, L2, R.preAgain (by omega) hk, fun H' L' K' => ?_⟩
      refine kk H' ?_ ((K1.trans Keeps.l).trans K')
      unfold M.again
      rw [if_neg c1, if_pos c2]
      exact L'
    refine eq_no c2 ?_
    refine ⟨_, rfl, a, C, dx1, _, _, rfl, hob1, T.cl, T.n1, lF_rule, rfl, _, rfl, ?_⟩
    by_cases c3 : m.rule = 3
    · refine eq_yes c3 ?_
      have hml := R.mlen
      refine ⟨_, rfl, a, C, dx1, _, _, rfl, hob1, T.cl, T.n6, lF_marked, _, rfl, _, _, rfl, DPut.k (k := ki k) L1.mkd (line_small (by show m.marked.length ≤ 1024; omega)), ?_⟩
      refine kk _ ?_ (K1.trans Keeps.k)
      unfold M.again
      rw [if_neg c1, if_neg c2, if_pos c3]
      exact L1.setMarked
    refine eq_no c3 ?_
    refine ⟨_, rfl, a, C, dx1, _, _, rfl, hob1, T.cl, T.n1, lF_rule, rfl, _, rfl, ?_⟩
    by_cases c4 : m.rule = 4
    · refine eq_yes c4 ?_
      refine ⟨_, rfl, a, dx1, _, rfl, hob1, lF_makes, _, rfl, a, A, m.count k, k, rfl, L1, ⟨hl, hk⟩, fun H' L' K' => ?_⟩
      refine kk H' ?_ (K1.trans K')
      unfold M.again
      rw [if_neg c1, if_neg c2, if_neg c3, if_pos c4]
      exact L'
    refine eq_no c4 ?_
    refine kk _ ?_ K1
    unfold M.again
    rw [if_neg c1, if_neg c2, if_neg c3, if_neg c4]
    exact L1
end
end Cr
namespace Cr
open PySem PySem.Spec PyProof.Rows L2
theorem Rel.left {m : M} {s : Rb20.Cache} {es : List Rb20.Entry} {k : Nat} (R : Rel m s es) (hne : es ≠ []) (hk : ¬ (k : Int) ∈ m.line ++ m.safe) : ∃ s' es', Rel m.leave s' es' ∧ ¬ (k : Int) ∈ m.leave.line ++ m.leave.safe := by
  obtain ⟨g, s', es', hl, R', hc, hr, hrm, hsf, hln, hmem⟩ := R.leave hne
  refine ⟨s', es', R', fun z => ?_⟩
  obtain ⟨e, he, hek⟩ := (R'.mem k).mp z
  apply hk
  rw [R.mem k]
  rcases List.mem_append.mp he with q | q
  · obtain ⟨e', h1, h2⟩ := hmem e q
    exact ⟨e', List.mem_append.mpr (.inl h1), h2.trans hek⟩
  · rw [hsf] at q
    exact ⟨e, List.mem_append.mpr (.inr q), hek⟩
section
variable {P : Program} {w : World} {K : PySem.W.Frag} {mg : Str → Option Value} {base : Heap} {C : Addr}
/-! ### 19. use -/
theorem scUse : FnScope ["self", "key"] ["self", "key"] (defScope sUse) := ⟨rfl, rfl, rfl, by decide +kernel, rfl, by decide +kernel, by decide +kernel⟩
theorem ok_use {f fA fL fC : Addr} {fd fdA fdL fdC : FuncData} (F : Fun K "use" "Lines.use" sUse f fd) (T : Txt K mg C) (GA : FnOk P w K mg base CX0 2 fA fdA ["self", "key"] (spAgain C)) (bA : Binds K fdA ["self", "key"] []) (mA : Meth K C "use_again" fA)
    (GL : FnOk P w K mg base CX0 1 fL fdL ["self"] (spLeave C)) (bL : Binds K fdL ["self"] []) (mL : Meth K C "leave" fL) (GC : FnOk P w K mg base CX0 2 fC fdC ["self", "key"] (spCome C)) (bC : Binds K fdC ["self", "key"] []) (mC : Meth K C "come" fC) :
    FnOk P w K mg base CX0 3 f fd ["self", "key"] (spUse C) := by
  refine F.ok scUse (fun vs H Q E h => ?_) (fun cdv A0 outer s H vs Q E hr h => ?_)
  · obtain ⟨a, A, m, k, rfl, _⟩ := h
    rfl
  · obtain ⟨a, A, m, k, rfl, L, ⟨hk0, s0, es0, R⟩, kk⟩ := h
    obtain ⟨n, rfl⟩ := Int.eq_ofNat_of_zero_le hk0
    have kk : ∀ H' : Hp, LnAt C H' a A (m.use (n : Int)) → Keeps A H H' → Q (.bl (m.has (n : Int))) H' := kk
    have hu := hu_of hr
    have hr1 : Room 1 _ := hr.mono (by decide)
    refine ⟨_, pss_cons (ps_if (pt_cmp (pc_din hu (pv 1) (pe_fld (pv 0) rfl)))
        (pss_cons (ps_expr (pe_meth (pv 0) T.cl mA GA hr bA .nil pass0 (by exact (pa_cons (pv 1) pa_nil)))) (pss_one (ps_ret pe_bl))) pss_nil)
      (pss_cons (ps_if (pt_cmpR op_eq (pe_callB call_lenD (by rfl) T.len PySem.boot_len (pa_cons (pe_fld (pv 0) rfl) pa_nil)) (pe_fld (pv 0) rfl) (nomark _))
        (pss_one (ps_expr (pe_meth0 (pv 0) T.cl mL GL hr1 bL .nil pass0))) pss_nil)
      (pss_cons (ps_expr (pe_meth (pv 0) T.cl mC GC hr bC .nil pass0 (by exact (pa_cons (pv 1) pa_nil))))
      (pss_one (ps_ret pe_bl)))), ?_⟩
    obtain ⟨dx, hob⟩ := L.ob
    refine ⟨_, rfl, _, rfl, a, C, dx, _, _, rfl, hob, T.cl, T.n5, lF_uses, A.u, _, rfl, DGet.k (k := ki (n : Int)) L.us, _, rfl, ?_⟩
    by_cases c : (valV m.uses (ki (n : Int))).isSome = true
    · refine (if_pos c).mpr ?_
      have hin := (R.has (n : Int)).mp c
      refine ⟨_, rfl, a, dx, _, rfl, hob, lF_again, _, rfl, a, A, m, (n : Int), rfl, L, ⟨s0, es0, R, hin⟩, fun H' L' K' => ?_⟩
      have eh : m.has (n : Int) = true := c
      have q := kk H' (by unfold M.use; rw [if_pos eh]; exact L') K'
      rw [eh] at q
      exact q
    · refine (if_neg c).mpr ?_
      have eh : m.has (n : Int) = false := by
        unfold M.has
        rw [← Bool.not_eq_true]
        exact c
      have hin : ¬ (n : Int) ∈ m.line ++ m.safe := fun z => c ((R.has (n : Int)).mpr z)
      rw [eh] at kk
      refine ⟨_, rfl, a, C, dx, _, _, rfl, hob, T.cl, T.n5, lF_uses, A.u, _, rfl, L.us, ?_⟩
      refine ⟨_, rfl, a, C, dx, _, _, rfl, hob, T.cl, T.n2, lF_room, rfl, _, rfl, ?_⟩
      by_cases c2 : (m.uses.length : Int) = m.room
      · refine eq_yes c2 ?_
        have hfull : m.line.length + m.safe.length = s0.room := by
          have q1 := R.ulen
          have q2 := R.room
          omega
        have hne := R.fullp hfull
        obtain ⟨s1, es1, R1, hin1⟩ := R.left hne hin
        refine ⟨_, rfl, a, dx, _, rfl, hob, lF_leave, a, A, m, rfl, L, R.preLeave hne, fun H1 L1 K1 => ?_⟩
        obtain ⟨dx1, hob1⟩ := L1.ob
        refine ⟨_, rfl, a, dx1, _, rfl, hob1, lF_come, _, rfl, a, A, m.leave, (n : Int), rfl, L1, ⟨s1, es1, R1, hin1⟩, fun H' L' K' => ?_⟩
        refine kk H' ?_ (K1.trans K')
        unfold M.use
        rw [eh, if_neg Bool.false_ne_true, if_pos c2]
        exact L'
      · refine eq_no c2 ?_
        refine ⟨_, rfl, a, dx, _, rfl, hob, lF_come, _, rfl, a, A, m, (n : Int), rfl, L, ⟨s0, es0, R, hin⟩, fun H' L' K' => ?_⟩
        refine kk H' ?_ K'
        unfold M.use
        rw [eh, if_neg Bool.false_ne_true, if_neg c2]
        exact L'
/-! ### 20. misses -/
theorem scMis : FnScope ["rule", "room", "keys", "lines", "missed", "key"] ["rule", "room", "keys"] (defScope sMis) := ⟨rfl, rfl, rfl, by decide +kernel, rfl, by decide +kernel, by decide +kernel⟩
theorem ok_mis {f fR fI fU : Addr} {fd fdR fdI fdU : FuncData} (F : Fun K "misses" "misses" sMis f fd) (T : Txt K mg C) (GR : FnOk P w K mg base CX0 1 fR fdR ["rule", "room"] spRef) (bR : Binds K fdR ["rule", "room"] []) (gR : mg "is_refused" = some (.ref fR)) (kR : PySem.W.keepIn K (.ref fR) = true)
    (M0 : Mk K C fI) (GI : FnOk P w K mg base CX0 1 fI fdI ["self", "rule", "room"] (spInit C)) (bI : Binds K fdI ["self", "rule", "room"] []) (GU : FnOk P w K mg base CX0 3 fU fdU ["self", "key"] (spUse C)) (bU : Binds K fdU ["self", "key"] []) (mU : Meth K C "use" fU) :
    FnOk P w K mg base CX0 4 f fd ["rule", "room", "keys"] (spMis K) := by
  refine F.ok scMis (fun vs H Q E h => ?_) (fun cdv A0 outer s H vs Q E hr h => ?_)
  · obtain ⟨r, n, a, ks, rfl, _⟩ := h
    rfl
  · obtain ⟨r, n, a, ks, rfl, hS, hpos, kk⟩ := h
    have hr1 : Room 1 _ := hr.mono (by decide)
    have hr2 : Room 2 _ := hr.mono (by decide)
    have nd := scMis.nd
    refine ⟨_, pss_cons (ps_if (pt_val (pe_call GR hr1 rfl gR kR bR .nil pass0 (pa_cons (pv 0) (pa_cons (pv 1) pa_nil)))) (pss_one (ps_ret (pe_lst (pa_cons (pe_un un_neg pe_int) pa_nil)))) pss_nil)
      (pss_cons (ps_set (i := 3) nd rfl (Or.inl rfl) (pe_make M0 GI hr2 rfl T.gC bI .nil pass0 (pa_cons (pv 0) (pa_cons (pv 1) pa_nil))))
      (pss_cons (ps_set (i := 4) nd rfl (Or.inl rfl) pe_int)
      (pss_cons (ps_for PassesOwn.never rfl (pi_list (pv 2)) (pg_name (i := 5) nd rfl (Or.inl rfl))
        (pss_one (ps_if (pt_not (pt_val (pe_meth (pv 3) T.cl mU GU hr bU .nil pass0 (by exact (pa_cons (pv 5) pa_nil))))) (pss_one (ps_aug (i := 4) nd rfl (.inl rfl) pe_int ip_add)) pss_nil)))
      (pss_one (ps_ret (pe_lst (pa_cons (pv 4) pa_nil))))))), ?_⟩
    refine ⟨_, rfl, _, rfl, r, n, rfl, _, rfl, ?_⟩
    by_cases c : Rb20.told r n = true
    · refine (if_neg (by rw [c]; exact Bool.false_ne_true)).mpr ?_
      refine ⟨_, rfl, _, rfl, ?_⟩
      intro x dx nx ndx nex
      refine ⟨x, dx, r, n, rfl, upd_same, fun A H1 f1 f2 f3 f4 L1 kp => ⟨rfl, ?_⟩⟩
      have s00 : Same H (upd (upd H dx (.own x)) x (.ins C dx [])) := fun b o e => by
        rw [upd_ne (ne_of_none e nx), upd_ne (ne_of_none e ndx)]
        exact e
      have s0 : Same H H1 := fun b o e => kp b o (s00 b o e) (ne_of_none e nx)
      have g1 := s00.free f1
      have g2 := s00.free f2
      have g3 := s00.free f3
      have g4 := s00.free f4
      have R0 := Rel.fresh c
      refine ⟨_, rfl, a, rfl, ⟨_, s0.seq hS⟩, for_list (K := K) (a := a) (xs := ks.map V.int) (fun i σ H2 => ∃ v : Option V, σ = [some (.int r), some (.int n), some (.ref a), some (.ref x), some (.int (runs (M.fresh r n, 0) (ks.take i)).2), v] ∧ Same H H2 ∧ LnAt C H2 x A (runs (M.fresh r n, 0) (ks.take i)).1)
        ⟨none, rfl, s0, L1⟩ (fun i σ H2 _ ⟨_, _, s2, _⟩ => s2.seq hS) ?_ ?_⟩
      · rintro i y σ H2 hi ⟨v, rfl, s2, L2⟩
        obtain ⟨z, hz, rfl⟩ : ∃ z, ks[i]? = some z ∧ y = V.int z := by
          rw [List.getElem?_map] at hi
          cases e : ks[i]? with
          | none =>
            rw [e] at hi
            cases hi
          | some z =>
            rw [e] at hi
            exact ⟨z, rfl, (Option.some.inj hi).symm⟩
        have step := runs_more (p := (M.fresh r n, 0)) hz
        obtain ⟨si, ei, Ri⟩ := runs_rel (ks.take i) 0 R0 fun k hk => hpos k (List.mem_of_mem_take hk)
        obtain ⟨dy, hob⟩ := L2.ob
        refine ⟨_, rfl, x, dy, _, rfl, hob, lF_use, _, rfl, x, A, _, z, rfl, L2, ⟨hpos z (List.mem_of_getElem? hz), si, ei, Ri⟩, fun H3 L3 K3 => ⟨_, rfl, ?_⟩⟩
        have s3 : Same H H3 := fun b o e => K3 b o (s2 b o e) (ne_of_none e g1) (ne_of_none e g2) (ne_of_none e g3) (ne_of_none e g4)
        by_cases ch : (runs (M.fresh r n, 0) (ks.take i)).1.has z = true
        · refine (if_neg (by rw [ch]; exact Bool.false_ne_true)).mpr ?_
          refine ⟨some (.int z), ?_, s3, ?_⟩
          · rw [step]
            unfold turn1
            rw [if_pos ch]
            rfl
          · rw [step]
            exact L3
        · refine (if_pos (by rw [Bool.not_eq_true] at ch; rw [ch]; rfl)).mpr ?_
          refine ⟨_, rfl, _, _, rfl, rfl, ?_⟩
          refine ⟨some (.int z), ?_, s3, ?_⟩
          · rw [step]
            unfold turn1
            rw [if_neg ch]
            rfl
          · rw [step]
            exact L3
      · rintro σ H2 ⟨v, rfl, s2, L2⟩
        rw [List.length_map, List.take_length] at *
        refine ⟨_, rfl, (by show 1 ≤ sizeLine; decide), fun p hp => ?_⟩
        refine kk _ p ?_
        rw [due hpos, if_pos c]
        exact upd_same
    · refine (if_pos (by rw [Bool.not_eq_true] at c; rw [c]; rfl)).mpr ?_
      refine ⟨_, rfl, (by show 1 ≤ sizeLine; decide), fun p hp => ?_⟩
      refine kk _ p ?_
      rw [due hpos, if_neg c]
      exact upd_same
end
end Cr
namespace Cr
open PySem PySem.Spec PyProof.Rows L2
/-! ### 21. The end: what the top has written -/
theorem all_mk {P : Program} {w : World} {K : PySem.W.Frag} {h : Heap} {mg : Str → Option Value} {fa C f1 f2 f3 f4 f5 f6 f7 f8 f9 f10 : Addr} (X : K.In h) (G : h.Ns mainGlobals mg) (hfa : mg "misses" = some (.ref fa))
    {od1 an1 od2 an2 od3 an3 od4 an4 od5 an5 od6 an6 od7 an7 od8 an8 od9 an9 od10 an10 : Option Addr} {sl1 sl2 sl3 sl4 sl5 sl6 sl7 sl8 sl9 sl10 : Array (Option Value)} {oc1 kV1 dc1 pm1 cd1 ct1 oc2 kV2 dc2 pm2 cd2 ct2 oc3 kV3 dc3 pm3 cd3 ct3 oc4 kV4 dc4 pm4 cd4 ct4 oc5 kV5 dc5 pm5 cd5 ct5 oc6 kV6 dc6 pm6 cd6 ct6 oc7 kV7 dc7 pm7 cd7 ct7 oc8 kV8 dc8 pm8 cd8 ct8 oc9 kV9 dc9 pm9 cd9 ct9 oc10 kV10 dc10 pm10 cd10 ct10 : Value} {tR tM tU : Tok}
    (aC : PySem.W.nsIn K mainGlobals "Lines" = some (some (.ref C)))
    (a1 : PySem.W.findIn K (.ref C) "__init__" = some (some (.ref f1))) (i1 : PySem.W.isFn K (.ref f1) = true) (l1 : K.lookup f1 = some ⟨oc1, od1, .func (PySem.W.fnOf "__init__" "Lines.__init__" (defArgs sInit) (defBody sInit) (defScope sInit) .none kV1 dc1 pm1 an1 cd1 ct1), sl1⟩) (c1 : PySem.W.codeIn K cd1 "Lines.__init__" = true) (k1 : PySem.W.keepIn K (.ref f1) = true)
    (a2 : PySem.W.findIn K (.ref C) "use" = some (some (.ref f2))) (i2 : PySem.W.isFn K (.ref f2) = true) (l2 : K.lookup f2 = some ⟨oc2, od2, .func (PySem.W.fnOf "use" "Lines.use" (defArgs sUse) (defBody sUse) (defScope sUse) .none kV2 dc2 pm2 an2 cd2 ct2), sl2⟩) (c2 : PySem.W.codeIn K cd2 "Lines.use" = true) (k2 : PySem.W.keepIn K (.ref f2) = true)
    (a3 : PySem.W.findIn K (.ref C) "come" = some (some (.ref f3))) (i3 : PySem.W.isFn K (.ref f3) = true) (l3 : K.lookup f3 = some ⟨oc3, od3, .func (PySem.W.fnOf "come" "Lines.come" (defArgs sCome) (defBody sCome) (defScope sCome) .none kV3 dc3 pm3 an3 cd3 ct3), sl3⟩) (c3 : PySem.W.codeIn K cd3 "Lines.come" = true) (k3 : PySem.W.keepIn K (.ref f3) = true)
    (a4 : PySem.W.findIn K (.ref C) "use_again" = some (some (.ref f4))) (i4 : PySem.W.isFn K (.ref f4) = true) (l4 : K.lookup f4 = some ⟨oc4, od4, .func (PySem.W.fnOf "use_again" "Lines.use_again" (defArgs sAgain) (defBody sAgain) (defScope sAgain) .none kV4 dc4 pm4 an4 cd4 ct4), sl4⟩) (c4 : PySem.W.codeIn K cd4 "Lines.use_again" = true) (k4 : PySem.W.keepIn K (.ref f4) = true)
    (a5 : PySem.W.findIn K (.ref C) "place_by_uses" = some (some (.ref f5))) (i5 : PySem.W.isFn K (.ref f5) = true) (l5 : K.lookup f5 = some ⟨oc5, od5, .func (PySem.W.fnOf "place_by_uses" "Lines.place_by_uses" (defArgs sPlace) (defBody sPlace) (defScope sPlace) .none kV5 dc5 pm5 an5 cd5 ct5), sl5⟩) (c5 : PySem.W.codeIn K cd5 "Lines.place_by_uses" = true) (k5 : PySem.W.keepIn K (.ref f5) = true)
    (a6 : PySem.W.findIn K (.ref C) "make_safe" = some (some (.ref f6))) (i6 : PySem.W.isFn K (.ref f6) = true) (l6 : K.lookup f6 = some ⟨oc6, od6, .func (PySem.W.fnOf "make_safe" "Lines.make_safe" (defArgs sSafe) (defBody sSafe) (defScope sSafe) .none kV6 dc6 pm6 an6 cd6 ct6), sl6⟩) (c6 : PySem.W.codeIn K cd6 "Lines.make_safe" = true) (k6 : PySem.W.keepIn K (.ref f6) = true)
    (a7 : PySem.W.findIn K (.ref C) "leave" = some (some (.ref f7))) (i7 : PySem.W.isFn K (.ref f7) = true) (l7 : K.lookup f7 = some ⟨oc7, od7, .func (PySem.W.fnOf "leave" "Lines.leave" (defArgs sLeave) (defBody sLeave) (defScope sLeave) .none kV7 dc7 pm7 an7 cd7 ct7), sl7⟩) (c7 : PySem.W.codeIn K cd7 "Lines.leave" = true) (k7 : PySem.W.keepIn K (.ref f7) = true)
    (a8 : PySem.W.nsIn K mainGlobals "is_refused" = some (some (.ref f8))) (l8 : K.lookup f8 = some ⟨oc8, od8, .func (PySem.W.fnOf "is_refused" "is_refused" (defArgs sRef) (defBody sRef) (defScope sRef) .none kV8 dc8 pm8 an8 cd8 ct8), sl8⟩) (c8 : PySem.W.codeIn K cd8 "is_refused" = true) (k8 : PySem.W.keepIn K (.ref f8) = true)
    (a9 : PySem.W.nsIn K mainGlobals "uses_after" = some (some (.ref f9))) (l9 : K.lookup f9 = some ⟨oc9, od9, .func (PySem.W.fnOf "uses_after" "uses_after" (defArgs sAft) (defBody sAft) (defScope sAft) .none kV9 dc9 pm9 an9 cd9 ct9), sl9⟩) (c9 : PySem.W.codeIn K cd9 "uses_after" = true) (k9 : PySem.W.keepIn K (.ref f9) = true)
    (a10 : PySem.W.nsIn K mainGlobals "misses" = some (some (.ref f10))) (l10 : K.lookup f10 = some ⟨oc10, od10, .func (PySem.W.fnOf "misses" "misses" (defArgs sMis) (defBody sMis) (defScope sMis) .none kV10 dc10 pm10 an10 cd10 ct10), sl10⟩) (c10 : PySem.W.codeIn K cd10 "misses" = true) (k10 : PySem.W.keepIn K (.ref f10) = true)
    (aR : PySem.W.nsIn K mainGlobals "LAST_RULE" = some (some (.int 4 tR))) (aM : PySem.W.nsIn K mainGlobals "MOST_ROOM" = some (some (.int 1024 tM))) (aU : PySem.W.nsIn K mainGlobals "MOST_USES" = some (some (.int 4294967295 tU)))
    (pg : PySem.W.plainGet K C Str.empty = true) (hd : PySem.W.hasDictIn K C = true) (po : PySem.W.plainOver K C = true) (sa : PySem.W.findIn K (.ref C) "__setattr__" = some (some (.builtin "object.__setattr__"))) (mk : PySem.W.makesIn K C = true) (kc : PySem.W.keepIn K (.ref C) = true)
    (n1 : PySem.W.findIn K (.ref C) "rule" = some none) (n2 : PySem.W.findIn K (.ref C) "room" = some none) (n3 : PySem.W.findIn K (.ref C) "line" = some none) (n4 : PySem.W.findIn K (.ref C) "safe" = some none) (n5 : PySem.W.findIn K (.ref C) "uses" = some none) (n6 : PySem.W.findIn K (.ref C) "marked" = some none)
    (z1 : PySem.W.nsIn K mainGlobals "len" = some none) (z2 : PySem.W.nsIn K mainGlobals "min" = some none) :
    ∃ fd : FuncData, (∀ (s : Shared) (us : List Value), us.length = (["rule", "room", "keys"] : List Str).length → BindsTo s fd ⟨us, []⟩ ((["rule", "room", "keys"] : List Str).zip us)) ∧ ∀ base : Heap, K.In base → base.Ns mainGlobals mg → FnOk P w K mg base CX0 4 fa fd ["rule", "room", "keys"] (spMis K) := by
  have e := hfa.symm.trans (PySem.W.mg_of X G a10)
  cases e
  have T : Txt K mg C := ⟨⟨pg, hd, po, sa⟩, n1, n2, n3, n4, n5, n6, PySem.W.mg_of X G aC, ⟨tR, PySem.W.mg_of X G aR⟩, ⟨tM, PySem.W.mg_of X G aM⟩, ⟨tU, PySem.W.mg_of X G aU⟩, PySem.W.mg_none_of X G z1, PySem.W.mg_none_of X G z2⟩
  have F1 := fun_mk (st := sInit) l1 c1 k1
  have b1 := F1.binds (ps := ["self", "rule", "room"]) fun _ _ _ _ _ _ us hl => match us, hl with | [_, _, _], _ => rfl
  have F2 := fun_mk (st := sUse) l2 c2 k2
  have b2 := F2.binds (ps := ["self", "key"]) fun _ _ _ _ _ _ us hl => match us, hl with | [_, _], _ => rfl
  have F3 := fun_mk (st := sCome) l3 c3 k3
  have b3 := F3.binds (ps := ["self", "key"]) fun _ _ _ _ _ _ us hl => match us, hl with | [_, _], _ => rfl
  have F4 := fun_mk (st := sAgain) l4 c4 k4
  have b4 := F4.binds (ps := ["self", "key"]) fun _ _ _ _ _ _ us hl => match us, hl with | [_, _], _ => rfl
  have F5 := fun_mk (st := sPlace) l5 c5 k5
  have b5 := F5.binds (ps := ["self", "key"]) fun _ _ _ _ _ _ us hl => match us, hl with | [_, _], _ => rfl
  have F6 := fun_mk (st := sSafe) l6 c6 k6
  have b6 := F6.binds (ps := ["self", "key"]) fun _ _ _ _ _ _ us hl => match us, hl with | [_, _], _ => rfl
  have F7 := fun_mk (st := sLeave) l7 c7 k7
  have b7 := F7.binds (ps := ["self"]) fun _ _ _ _ _ _ us hl => match us, hl with | [_], _ => rfl
  have F8 := fun_mk (st := sRef) l8 c8 k8
  have b8 := F8.binds (ps := ["rule", "room"]) fun _ _ _ _ _ _ us hl => match us, hl with | [_, _], _ => rfl
  have F9 := fun_mk (st := sAft) l9 c9 k9
  have b9 := F9.binds (ps := ["uses"]) fun _ _ _ _ _ _ us hl => match us, hl with | [_], _ => rfl
  have F10 := fun_mk (st := sMis) l10 c10 k10
  refine ⟨PySem.W.fnOf "misses" "misses" (defArgs sMis) (defBody sMis) (defScope sMis) .none kV10 dc10 pm10 an10 cd10 ct10, fun s us hu => match us, hu with | [_, _, _], _ => .of_eq rfl, fun base _ _ => ?_⟩
  have GP : FnOk P w K mg base CX0 1 f5 _ ["self", "key"] (spPlace C) := ok_place F5 T
  have GS : FnOk P w K mg base CX0 1 f6 _ ["self", "key"] (spSafe C) := ok_safe F6 T
  have GA : FnOk P w K mg base CX0 2 f4 _ ["self", "key"] (spAgain C) := ok_again F4 T GP b5 ⟨a5, i5, k5⟩ GS b6 ⟨a6, i6, k6⟩ (ok_aft F9 T) b9 (PySem.W.mg_of X G a9) k9
  have GC : FnOk P w K mg base CX0 2 f3 _ ["self", "key"] (spCome C) := ok_come F3 T GP b5 ⟨a5, i5, k5⟩
  have GL : FnOk P w K mg base CX0 1 f7 _ ["self"] (spLeave C) := ok_leave F7 T
  have GU : FnOk P w K mg base CX0 3 f2 _ ["self", "key"] (spUse C) := ok_use F2 T GA b4 ⟨a4, i4, k4⟩ GL b7 ⟨a7, i7, k7⟩ GC b3 ⟨a3, i3, k3⟩
  exact ok_mis F10 T (ok_ref F8 T) b8 (PySem.W.mg_of X G a8) k8 ⟨mk, a1, i1, kc⟩ (ok_init F1 T) b1 GU b2 ⟨a2, i2, k2⟩
end Cr
open PySem PySem.W PyProof.Rows
set_option maxRecDepth 100000 in
set_option maxHeartbeats 8000000 in
theorem PySem.Challenge.cw_cacherules_s01_misses_holds : PySem.Challenge.rw_cacherules_s01_misses.Holds := by
  w_on; k_headS; (case hw => exact ⟨[.int 0, .int 1, .list []], by decide +kernel, by decide +kernel⟩)
  k_fillS
  refine L2.walk_specK (r := PySem.Challenge.rw_cacherules_s01_misses) (k := 4) (CX := L2.CX0) (ps := ["rule", "room", "keys"]) (sp := Cr.spMis) (by decide +kernel) rfl rfl ⟨rfl, by decide, by decide⟩ (fun w h Y => PySem.W.kIn_of Y) ?F ?S (fun _ _ _ _ z => z)
  case F =>
    intro w mg fa h Y KX G hmg
    refine' Cr.all_mk KX G hmg ?aC ?a1 ?i1 ?l1 ?c1 ?k1 ?a2 ?i2 ?l2 ?c2 ?k2 ?a3 ?i3 ?l3 ?c3 ?k3 ?a4 ?i4 ?l4 ?c4 ?k4 ?a5 ?i5 ?l5 ?c5 ?k5 ?a6 ?i6 ?l6 ?c6 ?k6 ?a7 ?i7 ?l7 ?c7 ?k7 ?a8 ?l8 ?c8 ?k8 ?a9 ?l9 ?c9 ?k9 ?a10 ?l10 ?c10 ?k10 ?aR ?aM ?aU ?pg ?hd ?po ?sa ?mk ?kc ?n1 ?n2 ?n3 ?n4 ?n5 ?n6 ?z1 ?z2
    (case aC => k_is)
    (case a1 => k_is)
    (case i1 => k_is)
    (case l1 => k_is)
    (case c1 => k_is)
    (case k1 => k_is)
    (case a2 => k_is)
    (case i2 => k_is)
    (case l2 => k_is)
    (case c2 => k_is)
    (case k2 => k_is)
    (case a3 => k_is)
    (case i3 => k_is)
    (case l3 => k_is)
    (case c3 => k_is)
    (case k3 => k_is)
    (case a4 => k_is)
    (case i4 => k_is)
    (case l4 => k_is)
    (case c4 => k_is)
    (case k4 => k_is)
    (case a5 => k_is)
    (case i5 => k_is)
    (case l5 => k_is)
    (case c5 => k_is)
    (case k5 => k_is)
    (case a6 => k_is)
    (case i6 => k_is)
    (case l6 => k_is)
    (case c6 => k_is)
    (case k6 => k_is)
    (case a7 => k_is)
    (case i7 => k_is)
    (case l7 => k_is)
    (case c7 => k_is)
    (case k7 => k_is)
    (case a8 => k_is)
    (case l8 => k_is)
    (case c8 => k_is)
    (case k8 => k_is)
    (case a9 => k_is)
    (case l9 => k_is)
    (case c9 => k_is)
    (case k9 => k_is)
    (case a10 => k_is)
    (case l10 => k_is)
    (case c10 => k_is)
    (case k10 => k_is)
    (case aR => k_is)
    (case aM => k_is)
    (case aU => k_is)
    (case pg => k_is)
    (case hd => k_is)
    (case po => k_is)
    (case sa => k_is)
    (case mk => k_is)
    (case kc => k_is)
    (case n1 => k_is)
    (case n2 => k_is)
    (case n3 => k_is)
    (case n4 => k_is)
    (case n5 => k_is)
    (case n6 => k_is)
    (case z1 => k_is)
    (case z2 => k_is)
  case S =>
    intro K H xs a hO hwi hask hx
    cases hx with
    | cons h1 hx =>
      cases hx with
      | cons h2 hx =>
        cases hx with
        | cons h3 hx =>
          cases hx
          cases h1
          cases h2
          cases h3 with
          | lst hs ha =>
            have e := L2.ints_dw a.2.2.1 _ ha
            subst e
            have q : (Codec.inInt (-2147483648) 2147483647 a.1 && (Codec.inInt (-2147483648) 2147483647 a.2.1 && ((Codec.inLen 0 8192 a.2.2.1 && a.2.2.1.all (Codec.inInt 0 18446744073709551615)) && true))) = true := hwi
            rw [Bool.and_eq_true, Bool.and_eq_true, Bool.and_eq_true, Bool.and_eq_true] at q
            refine ⟨_, _, _, a.2.2.1, rfl, hs, fun k hk => ?_, fun H' p hp => .lst (L2.SqL.of hp) (L2.dw_ints _)⟩
            exact (Codec.inInt_iff.mp (List.all_eq_true.mp q.2.2.1.2 k hk)).1
#print axioms PySem.Challenge.cw_cacherules_s01_misses_holds
