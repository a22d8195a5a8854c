/- Sums as mathematics: the order of trees is total; terms in any order are brought into one form. No walk here. -/
import Derived.Test.YtoeebipahifpcaaGreatKOrdI
namespace Go.Proofs.YtoeebipahifpcaaGreat

/-- A comparison: opposite both ways, and transitive. -/
structure IsCmp {α : Type} (c : α → α → Int) : Prop where
  anti : ∀ a b, c b a = - c a b
  trans : ∀ a b d, c a b ≤ 0 → c b d ≤ 0 → c a d ≤ 0

theorem IsCmp.self {α : Type} {c : α → α → Int} (h : IsCmp c) (a : α) : c a a = 0 := by have := h.anti a a; omega
theorem IsCmp.zero {α : Type} {c : α → α → Int} (h : IsCmp c) {a b d : α} (h1 : c a b = 0) (h2 : c b d = 0) : c a d = 0 := by
  have e1 := h.trans a b d (by omega) (by omega)
  have e2 := h.trans d b a (by rw [h.anti b d]; omega) (by rw [h.anti a b]; omega)
  rw [h.anti a d] at e2; omega
theorem IsCmp.lt_le {α : Type} {c : α → α → Int} (h : IsCmp c) {a b d : α} (h1 : c a b < 0) (h2 : c b d ≤ 0) : c a d < 0 := by
  have e1 := h.trans a b d (by omega) h2
  rcases Int.lt_or_eq_of_le e1 with e | e
  · exact e
  · have e2 := h.trans b d a h2 (by rw [h.anti a d]; omega)
    rw [h.anti a b] at e2; omega
theorem IsCmp.le_lt {α : Type} {c : α → α → Int} (h : IsCmp c) {a b d : α} (h1 : c a b ≤ 0) (h2 : c b d < 0) : c a d < 0 := by
  have e1 := h.trans a b d h1 (by omega)
  rcases Int.lt_or_eq_of_le e1 with e | e
  · exact e
  · have e2 := h.trans d a b (by rw [h.anti a d]; omega) h1
    rw [h.anti b d] at e2; omega
theorem IsCmp.gt_ge {α : Type} {c : α → α → Int} (h : IsCmp c) {a b d : α} (h1 : 0 < c a b) (h2 : 0 ≤ c b d) : 0 < c a d := by
  have := h.le_lt (a := d) (b := b) (d := a) (by rw [h.anti b d]; omega) (by rw [h.anti a b]; omega)
  rw [h.anti a d] at this; omega
theorem IsCmp.ge_gt {α : Type} {c : α → α → Int} (h : IsCmp c) {a b d : α} (h1 : 0 ≤ c a b) (h2 : 0 < c b d) : 0 < c a d := by
  have := h.lt_le (a := d) (b := b) (d := a) (by rw [h.anti b d]; omega) (by rw [h.anti a b]; omega)
  rw [h.anti a d] at this; omega
theorem IsCmp.ge_ge {α : Type} {c : α → α → Int} (h : IsCmp c) {a b d : α} (h1 : 0 ≤ c a b) (h2 : 0 ≤ c b d) : 0 ≤ c a d := by
  have := h.trans d b a (by rw [h.anti b d]; omega) (by rw [h.anti a b]; omega)
  rw [h.anti a d] at this; omega

theorem isCmp_cmpI : IsCmp cmpI where
  anti a b := by unfold cmpI; split <;> split <;> omega
  trans a b d h1 h2 := by unfold cmpI at *; split at h1 <;> split at h2 <;> (try split at h1) <;> (try split at h2) <;> split <;> (try split) <;> omega

theorem u8_tri (a b : UInt8) : a < b ∨ b < a ∨ a = b := by
  by_cases h1 : a < b
  · exact .inl h1
  · by_cases h2 : b < a
    · exact .inr (.inl h2)
    · exact .inr (.inr (UInt8.le_antisymm (UInt8.not_lt.1 h2) (UInt8.not_lt.1 h1)))

theorem compareBytes_cons (a b : UInt8) (r q : List UInt8) : Lib.compareBytes (a :: r) (b :: q) = if a < b then -1 else if b < a then 1 else Lib.compareBytes r q := by simp [Lib.compareBytes]

theorem cb_anti : ∀ (a b : List UInt8), Lib.compareBytes b a = - Lib.compareBytes a b
  | [], [] => by simp [Lib.compareBytes]
  | [], _ :: _ => by simp [Lib.compareBytes]
  | _ :: _, [] => by simp [Lib.compareBytes]
  | a :: r, b :: q => by
    have ih := cb_anti r q
    rw [compareBytes_cons, compareBytes_cons]
    rcases u8_tri a b with h | h | h
    · have h' : ¬ b < a := fun h2 => UInt8.lt_irrefl a (UInt8.lt_trans h h2)
      simp [h, h']
    · have h' : ¬ a < b := fun h2 => UInt8.lt_irrefl a (UInt8.lt_trans h2 h)
      simp [h, h']
    · subst h; simp [UInt8.lt_irrefl, ih]

theorem cb_trans : ∀ (a b d : List UInt8), Lib.compareBytes a b ≤ 0 → Lib.compareBytes b d ≤ 0 → Lib.compareBytes a d ≤ 0
  | [], _, [], _, _ => by simp [Lib.compareBytes]
  | [], _, _ :: _, _, _ => by simp [Lib.compareBytes]
  | _ :: _, [], _, h, _ => by simp [Lib.compareBytes] at h
  | _ :: _, _ :: _, [], _, h => by simp [Lib.compareBytes] at h
  | a :: r, b :: q, d :: s, h1, h2 => by
    rw [compareBytes_cons] at h1 h2 ⊢
    rcases u8_tri a b with g | g | g
    · rcases u8_tri b d with g2 | g2 | g2
      · rw [if_pos (UInt8.lt_trans g g2)]; omega
      · have g2' : ¬ b < d := fun h => UInt8.lt_irrefl b (UInt8.lt_trans h g2)
        rw [if_neg g2', if_pos g2] at h2; omega
      · subst g2; rw [if_pos g]; omega
    · have g' : ¬ a < b := fun h => UInt8.lt_irrefl a (UInt8.lt_trans h g)
      rw [if_neg g', if_pos g] at h1; omega
    · subst g
      rcases u8_tri a d with g2 | g2 | g2
      · rw [if_pos g2]; omega
      · have g2' : ¬ a < d := fun h => UInt8.lt_irrefl a (UInt8.lt_trans h g2)
        rw [if_neg g2', if_pos g2] at h2; omega
      · subst g2
        rw [if_neg (UInt8.lt_irrefl a), if_neg (UInt8.lt_irrefl a)] at h1 h2 ⊢
        exact cb_trans r q s h1 h2

theorem isCmp_cb : IsCmp Lib.compareBytes := ⟨cb_anti, cb_trans⟩

/-- First by one comparison, then by another. -/
theorem IsCmp.lex {α : Type} {c d : α → α → Int} (hc : IsCmp c) (hd : IsCmp d) : IsCmp (fun a b => if c a b = 0 then d a b else c a b) where
  anti a b := by
    have h1 := hc.anti a b
    have h2 := hd.anti a b
    by_cases h : c a b = 0
    · rw [if_pos h, if_pos (by omega)]; exact h2
    · rw [if_neg h, if_neg (by omega)]; exact h1
  trans a b e h1 h2 := by
    by_cases g1 : c a b = 0
    · rw [if_pos g1] at h1
      by_cases g2 : c b e = 0
      · rw [if_pos g2] at h2
        rw [if_pos (hc.zero g1 g2)]; exact hd.trans _ _ _ h1 h2
      · rw [if_neg g2] at h2
        have := hc.le_lt (a := a) (b := b) (d := e) (by omega) (by omega)
        rw [if_neg (by omega)]; omega
    · rw [if_neg g1] at h1
      have h3 : c b e ≤ 0 := by
        by_cases g2 : c b e = 0
        · omega
        · rw [if_neg g2] at h2; exact h2
      have := hc.lt_le (a := a) (b := b) (d := e) (by omega) h3
      rw [if_neg (by omega)]; omega

theorem IsCmp.comap {α β : Type} {c : α → α → Int} (hc : IsCmp c) (f : β → α) : IsCmp (fun a b => c (f a) (f b)) := ⟨fun _ _ => hc.anti _ _, fun _ _ _ h1 h2 => hc.trans _ _ _ h1 h2⟩

theorem or2 (x y : Int) : orI [x, y] = if x = 0 then y else x := by
  simp only [orI]
  by_cases h : x = 0
  · rw [if_pos h, if_pos h]; split
    · omega
    · rfl
  · rw [if_neg h, if_neg h]
theorem or3 (x y z : Int) : orI [x, y, z] = if x = 0 then (if y = 0 then z else y) else x := by
  have := or2 y z
  simp only [orI] at this ⊢
  by_cases h : x = 0
  · rw [if_pos h, if_pos h]; exact this
  · rw [if_neg h, if_neg h]

theorem isCmp_word : IsCmp wordCmp := by
  have h := IsCmp.lex (isCmp_cmpI.comap (fun a : List UInt8 => (a.length : Int))) isCmp_cb
  have e : wordCmp = fun a b => if cmpI (a.length : Int) (b.length : Int) = 0 then Lib.compareBytes a b else cmpI (a.length : Int) (b.length : Int) := by
    funext a b; rw [wordCmp, or2]
  rw [e]; exact h

theorem row_anti : ∀ (a b : List (List UInt8)), rowCmp b a = - rowCmp a b
  | [], [] => by simp [rowCmp]
  | [], _ :: _ => by simp [rowCmp]
  | _ :: _, [] => by simp [rowCmp]
  | a :: r, b :: q => by
    have ih := row_anti r q
    have h := isCmp_word.anti a b
    rw [rowCmp, rowCmp]
    by_cases g : wordCmp a b = 0
    · rw [if_pos g, if_pos (by omega)]; exact ih
    · rw [if_neg g, if_neg (by omega)]; exact h

theorem row_trans : ∀ (a b d : List (List UInt8)), rowCmp a b ≤ 0 → rowCmp b d ≤ 0 → rowCmp a d ≤ 0
  | [], _, [], _, _ => by simp [rowCmp]
  | [], _, _ :: _, _, _ => by simp [rowCmp]
  | _ :: _, [], _, h, _ => by simp [rowCmp] at h
  | _ :: _, _ :: _, [], _, h => by simp [rowCmp] at h
  | a :: r, b :: q, d :: s, h1, h2 => by
    rw [rowCmp] at h1 h2 ⊢
    have hw := isCmp_word
    by_cases g1 : wordCmp a b = 0
    · rw [if_pos g1] at h1
      by_cases g2 : wordCmp b d = 0
      · rw [if_pos g2] at h2
        rw [if_pos (hw.zero g1 g2)]; exact row_trans r q s h1 h2
      · rw [if_neg g2] at h2
        have := hw.le_lt (a := a) (b := b) (d := d) (by omega) (by omega)
        rw [if_neg (by omega)]; omega
    · rw [if_neg g1] at h1
      have h3 : wordCmp b d ≤ 0 := by
        by_cases g2 : wordCmp b d = 0
        · omega
        · rw [if_neg g2] at h2; exact h2
      have := hw.lt_le (a := a) (b := b) (d := d) (by omega) h3
      rw [if_neg (by omega)]; omega

theorem isCmp_row : IsCmp rowCmp := ⟨row_anti, row_trans⟩

/-- The order of trees. -/
def ordT (t u : T) : Int := ordCmp (t.paths []) t.text (u.paths []) u.text

theorem isCmp_ordT : IsCmp ordT := by
  have h := IsCmp.lex (isCmp_cmpI.comap (fun t : T => ((t.paths []).length : Int))) (IsCmp.lex (isCmp_row.comap (fun t : T => t.paths [])) (isCmp_cb.comap (fun t : T => t.text)))
  have e : ordT = fun t u => if cmpI ((t.paths []).length : Int) ((u.paths []).length : Int) = 0 then (if rowCmp (t.paths []) (u.paths []) = 0 then Lib.compareBytes t.text u.text else rowCmp (t.paths []) (u.paths [])) else cmpI ((t.paths []).length : Int) ((u.paths []).length : Int) := by
    funext t u; rw [ordT, ordCmp, or3]
  rw [e]; exact h

theorem ordT_range (t u : T) : -1 ≤ ordT t u ∧ ordT t u ≤ 1 := by
  have h1 := cmpI_range ((t.paths []).length : Int) ((u.paths []).length : Int)
  have h2 := rowCmp_range (t.paths []) (u.paths [])
  have h3 := compareBytes_range t.text u.text
  rw [ordT, ordCmp, or3]
  split
  · split <;> omega
  · omega

theorem cb_zero : ∀ (a b : List UInt8), Lib.compareBytes a b = 0 → a = b
  | [], [], _ => rfl
  | [], _ :: _, h => by simp [Lib.compareBytes] at h
  | _ :: _, [], h => by simp [Lib.compareBytes] at h
  | a :: r, b :: q, h => by
    rw [compareBytes_cons] at h
    rcases u8_tri a b with g | g | g
    · rw [if_pos g] at h; omega
    · have g' : ¬ a < b := fun h => UInt8.lt_irrefl a (UInt8.lt_trans h g)
      rw [if_neg g', if_pos g] at h; omega
    · subst g
      rw [if_neg (UInt8.lt_irrefl a), if_neg (UInt8.lt_irrefl a)] at h
      rw [cb_zero r q h]

theorem text_inj {t u : T} (ht : t.wf) (hu : u.wf) (h : t.text = u.text) : t = u := by
  have h2 := rd_text t ht (t.nodes + u.nodes + 1) [] (by omega)
  have h3 := rd_text u hu (t.nodes + u.nodes + 1) [] (by omega)
  rw [List.append_nil] at h2 h3
  rw [h, h3] at h2
  simp only [Option.some.injEq, Prod.mk.injEq, and_true] at h2
  exact h2.symm

theorem ordT_zero {t u : T} (ht : t.wf) (hu : u.wf) (h : ordT t u = 0) : t = u := by
  rw [ordT, ordCmp, or3] at h
  by_cases g1 : cmpI ((t.paths []).length : Int) ((u.paths []).length : Int) = 0
  · rw [if_pos g1] at h
    by_cases g2 : rowCmp (t.paths []) (u.paths []) = 0
    · rw [if_pos g2] at h
      exact text_inj ht hu (cb_zero _ _ h)
    · rw [if_neg g2] at h; exact absurd h g2
  · rw [if_neg g1] at h; exact absurd h g1

/-- A term: a coefficient and a tree. -/
abbrev Tm := Int × T

/-- In descending order, no tree twice, coefficients from 1 to 100. -/
def NF (l : List Tm) : Prop := l.Pairwise (fun p q => 0 < ordT p.2 q.2) ∧ ∀ p ∈ l, 1 ≤ p.1 ∧ p.1 ≤ 100 ∧ p.2.wf

/-- What a tree has as its coefficient. -/
def cf : List Tm → T → Int
  | [], _ => 0
  | p :: r, t => (if ordT p.2 t = 0 then p.1 else 0) + cf r t

theorem cf_append (a b : List Tm) (t : T) : cf (a ++ b) t = cf a t + cf b t := by
  induction a with
  | nil => simp [cf]
  | cons p a ih => simp only [List.cons_append, cf, ih]; omega

theorem cf_perm {a b : List Tm} (h : a.Perm b) (t : T) : cf a t = cf b t := by
  induction h with
  | nil => rfl
  | cons x _ ih => simp only [cf, ih]
  | swap x y l => simp only [cf]; omega
  | trans _ _ h1 h2 => exact h1.trans h2

theorem cf_none {l : List Tm} {t : T} (h : ∀ p ∈ l, ordT p.2 t ≠ 0) : cf l t = 0 := by
  induction l with
  | nil => rfl
  | cons p l ih =>
    rw [cf, if_neg (h p (by simp)), ih (fun q hq => h q (by simp [hq]))]; rfl

theorem cf_congr (l : List Tm) {t u : T} (h : ordT t u = 0) : cf l t = cf l u := by
  induction l with
  | nil => rfl
  | cons p l ih =>
    rw [cf, cf, ih]
    by_cases g : ordT p.2 t = 0
    · rw [if_pos g, if_pos (isCmp_ordT.zero g h)]
    · rw [if_neg g, if_neg (fun g2 => g (isCmp_ordT.zero g2 (by rw [isCmp_ordT.anti t u]; omega)))]

theorem NF.nil : NF [] := ⟨List.Pairwise.nil, fun _ h => by simp at h⟩
theorem NF.tail {p : Tm} {l : List Tm} (h : NF (p :: l)) : NF l := ⟨(List.pairwise_cons.1 h.1).2, fun q hq => h.2 q (by simp [hq])⟩
theorem NF.head {p : Tm} {l : List Tm} (h : NF (p :: l)) : ∀ q ∈ l, 0 < ordT p.2 q.2 := (List.pairwise_cons.1 h.1).1

theorem NF.cf_head {p : Tm} {l : List Tm} (h : NF (p :: l)) : cf (p :: l) p.2 = p.1 := by
  rw [cf, if_pos (isCmp_ordT.self _), cf_none]
  · omega
  · intro q hq
    have := h.head q hq
    have := isCmp_ordT.anti p.2 q.2
    omega

theorem cf_above {l : List Tm} {t : T} (h : ∀ q ∈ l, 0 < ordT t q.2) : cf l t = 0 := cf_none (fun q hq => by
  have := h q hq
  have := isCmp_ordT.anti t q.2
  omega)

/-- Two sums in this form with the same coefficients are the same. -/
theorem NF.unique : ∀ {a b : List Tm}, NF a → NF b → (∀ t, (cf a t - cf b t) % 101 = 0) → a = b
  | [], [], _, _, _ => rfl
  | [], q :: b, _, hb, h => by
    have h1 := h q.2
    rw [hb.cf_head, cf] at h1
    have := hb.2 q (by simp)
    omega
  | p :: a, [], ha, _, h => by
    have h1 := h p.2
    rw [ha.cf_head, cf] at h1
    have := ha.2 p (by simp)
    omega
  | p :: a, q :: b, ha, hb, h => by
    have hp := ha.2 p (by simp)
    have hq := hb.2 q (by simp)
    have he : ordT p.2 q.2 = 0 := by
      rcases Int.lt_trichotomy (ordT p.2 q.2) 0 with g | g | g
      · have g' : 0 < ordT q.2 p.2 := by rw [isCmp_ordT.anti p.2 q.2]; omega
        have h1 := h q.2
        rw [hb.cf_head, cf_above (l := p :: a) (t := q.2) (fun x hx => by
          rcases List.mem_cons.1 hx with e | e
          · rw [e]; exact g'
          · exact isCmp_ordT.gt_ge g' (by have := ha.head x e; omega))] at h1
        omega
      · exact g
      · have h1 := h p.2
        rw [ha.cf_head, cf_above (l := q :: b) (t := p.2) (fun x hx => by
          rcases List.mem_cons.1 hx with e | e
          · rw [e]; exact g
          · exact isCmp_ordT.gt_ge g (by have := hb.head x e; omega))] at h1
        omega
    have ht : p.2 = q.2 := ordT_zero hp.2.2 hq.2.2 he
    have hc : p.1 = q.1 := by
      have h1 := h p.2
      rw [ha.cf_head, ht, hb.cf_head] at h1
      omega
    have hpq : p = q := Prod.ext hc ht
    subst hpq
    rw [NF.unique ha.tail hb.tail (fun t => by have := h t; simp only [cf] at this; rw [← this]; congr 1; omega)]

/-- A term put ahead, its coefficient modulo 101; left out if this is 0. -/
def put (c : Int) (t : T) (r : List Tm) : List Tm := if c % 101 = 0 then r else (c % 101, t) :: r

/-- A term added to a sum in descending order. -/
def addT : List Tm → Int → T → List Tm
  | [], c, t => put c t []
  | q :: r, c, t => if 0 < ordT q.2 t then q :: addT r c t else if ordT q.2 t = 0 then put (c + q.1) t r else put c t (q :: r)

theorem cf_put (c : Int) (t : T) (r : List Tm) (u : T) : (cf (put c t r) u - ((if ordT t u = 0 then c else 0) + cf r u)) % 101 = 0 := by
  unfold put
  by_cases h : c % 101 = 0
  · rw [if_pos h]
    split <;> omega
  · rw [if_neg h, cf]
    split <;> omega

theorem cf_addT : ∀ (l : List Tm) (c : Int) (t u : T), (cf (addT l c t) u - ((if ordT t u = 0 then c else 0) + cf l u)) % 101 = 0
  | [], c, t, u => by rw [addT]; exact cf_put c t [] u
  | q :: r, c, t, u => by
    rw [addT]
    by_cases h1 : 0 < ordT q.2 t
    · rw [if_pos h1]
      have ih := cf_addT r c t u
      simp only [cf]
      omega
    · rw [if_neg h1]
      by_cases h2 : ordT q.2 t = 0
      · rw [if_pos h2]
        have hp := cf_put (c + q.1) t r u
        have e : (ordT q.2 u = 0) = (ordT t u = 0) := by
          apply propext
          constructor
          · intro g; exact isCmp_ordT.zero (by rw [isCmp_ordT.anti q.2 t]; omega) g
          · intro g; exact isCmp_ordT.zero h2 g
        simp only [cf, e]
        split at hp <;> split <;> omega
      · rw [if_neg h2]
        exact cf_put c t (q :: r) u

theorem mem_put {c : Int} {t : T} {r : List Tm} {x : Tm} (h : x ∈ put c t r) : (x.2 = t ∧ 1 ≤ x.1 ∧ x.1 ≤ 100) ∨ x ∈ r := by
  unfold put at h
  split at h
  · exact .inr h
  · rcases List.mem_cons.1 h with e | e
    · subst e; exact .inl ⟨rfl, by simp only; omega, by simp only; omega⟩
    · exact .inr e

theorem NF.put {c : Int} {t : T} {r : List Tm} (h : NF r) (ht : t.wf) (hr : ∀ q ∈ r, 0 < ordT t q.2) : NF (put c t r) := by
  unfold Go.Proofs.YtoeebipahifpcaaGreat.put
  split
  · exact h
  · refine ⟨List.pairwise_cons.2 ⟨hr, h.1⟩, fun p hp => ?_⟩
    rcases List.mem_cons.1 hp with e | e
    · subst e; exact ⟨by simp only; omega, by simp only; omega, ht⟩
    · exact h.2 p e

theorem mem_addT : ∀ {l : List Tm} {c : Int} {t : T} {x : Tm}, x ∈ addT l c t → x.2 = t ∨ ∃ q ∈ l, x.2 = q.2
  | [], c, t, x, h => by
    rw [addT] at h
    rcases mem_put h with e | e
    · exact .inl e.1
    · simp at e
  | q :: r, c, t, x, h => by
    rw [addT] at h
    split at h
    · rcases List.mem_cons.1 h with e | e
      · exact .inr ⟨q, by simp, by rw [e]⟩
      · rcases mem_addT e with g | ⟨p, hp, g⟩
        · exact .inl g
        · exact .inr ⟨p, by simp [hp], g⟩
    · split at h
      · rcases mem_put h with e | e
        · exact .inl e.1
        · exact .inr ⟨x, by simp [e], rfl⟩
      · rcases mem_put h with e | e
        · exact .inl e.1
        · exact .inr ⟨x, e, rfl⟩

theorem NF.addT : ∀ {l : List Tm} {c : Int} {t : T}, NF l → t.wf → NF (addT l c t)
  | [], c, t, h, ht => by rw [Go.Proofs.YtoeebipahifpcaaGreat.addT]; exact NF.put h ht (fun _ hq => by simp at hq)
  | q :: r, c, t, h, ht => by
    rw [Go.Proofs.YtoeebipahifpcaaGreat.addT]
    by_cases h1 : 0 < ordT q.2 t
    · rw [if_pos h1]
      have ih := NF.addT (c := c) h.tail ht
      refine ⟨List.pairwise_cons.2 ⟨fun x hx => ?_, ih.1⟩, fun p hp => ?_⟩
      · rcases mem_addT hx with g | ⟨p, hp, g⟩
        · rw [g]; exact h1
        · rw [g]; exact h.head p hp
      · rcases List.mem_cons.1 hp with e | e
        · rw [e]; exact h.2 q (by simp)
        · exact ih.2 p e
    · rw [if_neg h1]
      by_cases h2 : ordT q.2 t = 0
      · rw [if_pos h2]
        refine NF.put h.tail ht (fun x hx => ?_)
        exact isCmp_ordT.ge_gt (b := q.2) (by rw [isCmp_ordT.anti q.2 t]; omega) (h.head x hx)
      · rw [if_neg h2]
        have h3 : 0 < ordT t q.2 := by rw [isCmp_ordT.anti q.2 t]; omega
        refine NF.put h ht (fun x hx => ?_)
        rcases List.mem_cons.1 hx with e | e
        · rw [e]; exact h3
        · exact isCmp_ordT.gt_ge h3 (by have := h.head x e; omega)

/-- Where a term goes. -/
theorem addT_at (c : Int) (t : T) : ∀ (ps : List Tm) (k : Nat), k ≤ ps.length → (∀ i (h : i < ps.length), i < k → 0 < ordT (ps[i]).2 t) → (∀ h : k < ps.length, ordT (ps[k]).2 t < 0) → addT ps c t = ps.take k ++ put c t (ps.drop k)
  | [], k, hk, _, _ => by simp [addT]
  | q :: r, 0, _, _, h2 => by
    have h0 := h2 (by simp)
    simp only [List.getElem_cons_zero] at h0
    rw [addT, if_neg (by omega), if_neg (by omega)]; rfl
  | q :: r, k + 1, hk, h1, h2 => by
    have h0 := h1 0 (by simp) (by omega)
    simp only [List.getElem_cons_zero] at h0
    rw [addT, if_pos h0, addT_at c t r k (by simpa using hk) (fun i h hi => by have := h1 (i + 1) (by simpa using h) (by omega); simpa using this) (fun h => by have := h2 (by simpa using h); simpa using this)]
    rfl
theorem addT_eq (c : Int) (t : T) : ∀ (ps : List Tm) (k : Nat) (hk : k < ps.length), (∀ i (h : i < ps.length), i < k → 0 < ordT (ps[i]).2 t) → ordT (ps[k]).2 t = 0 → addT ps c t = ps.take k ++ put (c + (ps[k]).1) t (ps.drop (k + 1))
  | [], k, hk, _, _ => by simp at hk
  | q :: r, 0, _, _, h2 => by
    simp only [List.getElem_cons_zero] at h2
    rw [addT, if_neg (by omega), if_pos h2]; rfl
  | q :: r, k + 1, hk, h1, h2 => by
    have h0 := h1 0 (by simp) (by omega)
    simp only [List.getElem_cons_zero] at h0
    rw [addT, if_pos h0, addT_eq c t r k (by simpa using hk) (fun i h hi => by have := h1 (i + 1) (by simpa using h) (by omega); simpa using this) (by simpa using h2)]
    rfl

/-- Terms added one after the other. -/
def addAll (l : List Tm) (ps : List Tm) : List Tm := ps.foldl (fun m p => addT m p.1 p.2) l

theorem addAll_nil (l : List Tm) : addAll l [] = l := rfl
theorem addAll_cons (l : List Tm) (p : Tm) (ps : List Tm) : addAll l (p :: ps) = addAll (addT l p.1 p.2) ps := rfl
theorem addAll_snoc (l ps : List Tm) (p : Tm) : addAll l (ps ++ [p]) = addT (addAll l ps) p.1 p.2 := by simp [addAll, List.foldl_append]
theorem addAll_append (l ps qs : List Tm) : addAll l (ps ++ qs) = addAll (addAll l ps) qs := by simp [addAll, List.foldl_append]

theorem NF.addAll : ∀ {ps l : List Tm}, NF l → (∀ p ∈ ps, p.2.wf) → NF (addAll l ps)
  | [], _, h, _ => h
  | p :: ps, l, h, hw => by
    rw [addAll_cons]
    exact NF.addAll (h.addT (hw p (by simp))) (fun q hq => hw q (by simp [hq]))

theorem cf_addAll : ∀ (ps l : List Tm) (t : T), (cf (addAll l ps) t - (cf l t + cf ps t)) % 101 = 0
  | [], l, t => by rw [addAll_nil, cf]; omega
  | p :: ps, l, t => by
    rw [addAll_cons]
    have h1 := cf_addAll ps (addT l p.1 p.2) t
    have h2 := cf_addT l p.1 p.2 t
    rw [cf]
    omega

/-- The sum of terms in any order. -/
def canon (ps : List Tm) : List Tm := addAll [] ps

theorem NF.canon {ps : List Tm} (hw : ∀ p ∈ ps, p.2.wf) : NF (canon ps) := NF.addAll NF.nil hw
theorem cf_canon (ps : List Tm) (t : T) : (cf (canon ps) t - cf ps t) % 101 = 0 := by
  have := cf_addAll ps [] t
  rw [cf] at this
  show (cf (addAll [] ps) t - cf ps t) % 101 = 0
  omega

/-- What is in this form and has these coefficients is the sum. -/
theorem canon_of {K ps : List Tm} (hK : NF K) (hw : ∀ p ∈ ps, p.2.wf) (h : ∀ t, (cf K t - cf ps t) % 101 = 0) : K = canon ps :=
  hK.unique (NF.canon hw) (fun t => by have := h t; have := cf_canon ps t; omega)

theorem canon_self {K : List Tm} (hK : NF K) : canon K = K := (canon_of hK (fun p hp => (hK.2 p hp).2.2) (fun t => by omega)).symm

theorem canon_congr {ps qs : List Tm} (hp : ∀ p ∈ ps, p.2.wf) (hq : ∀ p ∈ qs, p.2.wf) (h : ∀ t, (cf ps t - cf qs t) % 101 = 0) : canon ps = canon qs :=
  canon_of (NF.canon hp) hq (fun t => by have := h t; have := cf_canon ps t; omega)

theorem canon_perm {ps qs : List Tm} (hp : ∀ p ∈ ps, p.2.wf) (h : ps.Perm qs) : canon ps = canon qs :=
  canon_congr hp (fun p hp' => hp p (h.mem_iff.2 hp')) (fun t => by rw [cf_perm h]; omega)

theorem addAll_canon {a ps : List Tm} (ha : NF a) : addAll a ps = canon (a ++ ps) := by
  show _ = addAll [] (a ++ ps)
  rw [addAll_append]
  have := canon_self ha
  rw [show addAll [] a = a from this]

/-- Equal coefficients modulo 101, term by term. -/
theorem cf_map_congr (ps : List Tm) (f g : Tm → Tm) (h : ∀ p, (f p).2 = (g p).2 ∧ ((f p).1 - (g p).1) % 101 = 0) (t : T) : (cf (ps.map f) t - cf (ps.map g) t) % 101 = 0 := by
  induction ps with
  | nil => simp [cf]
  | cons p ps ih =>
    obtain ⟨h1, h2⟩ := h p
    simp only [List.map_cons, cf, h1]
    split <;> omega

theorem mem_addAll : ∀ {ps l : List Tm} {x : Tm}, x ∈ addAll l ps → (∃ q ∈ l, x.2 = q.2) ∨ ∃ q ∈ ps, x.2 = q.2
  | [], l, x, h => .inl ⟨x, h, rfl⟩
  | p :: ps, l, x, h => by
    rw [addAll_cons] at h
    rcases mem_addAll h with ⟨q, hq, e⟩ | ⟨q, hq, e⟩
    · rcases mem_addT hq with g | ⟨r, hr, g⟩
      · exact .inr ⟨p, by simp, by rw [e, g]⟩
      · exact .inl ⟨r, hr, by rw [e, g]⟩
    · exact .inr ⟨q, by simp [hq], e⟩
theorem mem_canon {ps : List Tm} {x : Tm} (h : x ∈ canon ps) : ∃ q ∈ ps, x.2 = q.2 := by
  rcases mem_addAll h with ⟨q, hq, _⟩ | h
  · simp at hq
  · exact h
theorem put_length (c : Int) (t : T) (r : List Tm) : (put c t r).length ≤ r.length + 1 := by unfold put; split <;> simp
theorem addT_length : ∀ (l : List Tm) (c : Int) (t : T), (addT l c t).length ≤ l.length + 1
  | [], c, t => by rw [addT]; exact put_length c t []
  | q :: r, c, t => by
    rw [addT]
    have := addT_length r c t
    split
    · simp; omega
    · split
      · have := put_length (c + q.1) t r; simp; omega
      · have := put_length c t (q :: r); simp at this ⊢; omega
theorem addAll_length : ∀ (ps l : List Tm), (addAll l ps).length ≤ l.length + ps.length
  | [], l => by rw [addAll_nil]; simp
  | p :: ps, l => by
    rw [addAll_cons]
    have h1 := addAll_length ps (addT l p.1 p.2)
    have h2 := addT_length l p.1 p.2
    simp; omega
theorem canon_length (ps : List Tm) : (canon ps).length ≤ ps.length := by have := addAll_length ps []; simpa [canon] using this

/-- How a sorted row is gone through: what has been kept, and what is still to come. -/
structure Grp (K : List Tm) (rest all : List Tm) : Prop where
  nf : NF K
  above : ∀ p ∈ K, ∀ q ∈ rest, 0 < ordT p.2 q.2
  cfs : ∀ t, (cf K t + cf rest t - cf all t) % 101 = 0

theorem Grp.start {all : List Tm} : Grp [] all all := ⟨NF.nil, fun _ h => by simp at h, fun t => by rw [cf]; omega⟩

/-- One tree's terms, from the first one on, come to a coefficient. -/
theorem Grp.next {K : List Tm} {run rest all : List Tm} {t : T} {c : Int} (h : Grp K (run ++ rest) all) (ht : t.wf) (hne : run ≠ []) (hrun : ∀ p ∈ run, ordT p.2 t = 0) (hrest : ∀ p ∈ rest, 0 < ordT t p.2)
    (hc : (c - cf run t) % 101 = 0) (hc0 : 0 ≤ c) (hc1 : c ≤ 100) : Grp (if c = 0 then K else K ++ [(c, t)]) rest all := by
  obtain ⟨r0, hr0⟩ := List.exists_mem_of_ne_nil run hne
  have hcr : ∀ u, cf run u = if ordT t u = 0 then cf run t else 0 := by
    intro u
    by_cases g : ordT t u = 0
    · rw [if_pos g]; exact (cf_congr run g).symm
    · rw [if_neg g]
      exact cf_none (fun q hq => fun e => g (isCmp_ordT.zero (by rw [isCmp_ordT.anti q.2 t]; have := hrun q hq; omega) e))
  by_cases h0 : c = 0
  · rw [if_pos h0]
    refine ⟨h.nf, fun p hp q hq => h.above p hp q (by simp [hq]), fun u => ?_⟩
    have h1 := h.cfs u
    rw [cf_append, hcr u] at h1
    split at h1 <;> omega
  · rw [if_neg h0]
    refine ⟨⟨?_, ?_⟩, ?_, fun u => ?_⟩
    · rw [List.pairwise_append]
      refine ⟨h.nf.1, by simp, fun p hp q hq => ?_⟩
      have e : q = (c, t) := by simpa using hq
      rw [e]
      have := h.above p hp r0 (by simp [hr0])
      exact isCmp_ordT.gt_ge (d := t) this (by have := hrun r0 hr0; omega)
    · intro p hp
      rcases List.mem_append.1 hp with g | g
      · exact h.nf.2 p g
      · have e : p = (c, t) := by simpa using g
        rw [e]; exact ⟨by simp only; omega, hc1, ht⟩
    · intro p hp q hq
      rcases List.mem_append.1 hp with g | g
      · exact h.above p g q (by simp [hq])
      · have e : p = (c, t) := by simpa using g
        rw [e]; exact hrest q hq
    · have h1 := h.cfs u
      rw [cf_append, hcr u] at h1
      rw [cf_append, cf, cf]
      simp only
      split at h1 <;> split <;> omega

theorem run_snoc {qs : List Tm} {f m : Nat} (hf : f ≤ m) (hm : m < qs.length) : (qs.drop f).take (m + 1 - f) = (qs.drop f).take (m - f) ++ [qs[m]] := by
  have h : m - f < (qs.drop f).length := by rw [List.length_drop]; omega
  rw [show m + 1 - f = (m - f) + 1 by omega, List.take_succ_eq_append_getElem h, List.getElem_drop]
  congr 3; omega
theorem cf_one (p : Tm) (t : T) (h : ordT p.2 t = 0) : cf [p] t = p.1 := by rw [cf, cf, if_pos h]; omega

theorem Grp.done {K all : List Tm} (h : Grp K [] all) (hw : ∀ p ∈ all, p.2.wf) : K = canon all :=
  canon_of h.nf hw (fun t => by have := h.cfs t; rw [cf] at this; omega)

end Go.Proofs.YtoeebipahifpcaaGreat
