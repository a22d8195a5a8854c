/- Merged out of: XRep, XOwn, XRead. -/
import Derived.Test.YtoeebipahifpcaaGreatRows
import Derived.Test.YtoeebipahifpcaaGreatTree
import Derived.WalkKit
import Derived.WalkSpells
import Derived.WalkLawsBesides
import Derived.Handy
import Derived.Deep.LoopGhost
import Derived.Deep.Cut
import Derived.Outline
import Derived.Lib.Hide
section
/- How a tree lies in memory as the model has it (letter and kids by value), and what keeps it there. -/
namespace Go.Proofs.YtoeebipahifpcaaGreat
open Go.RowKit

mutual
def RepS (w : World) (P : Nat → Prop) : T → Value → Value → Prop
  | .leaf, l, s => l = .string ⟨#[]⟩ ∧ s = .slice none 0 0
  | .node c ks, l, s => l = .string ⟨#[c]⟩ ∧ ∃ g cap, s = .slice (some ⟨g, 0, none⟩) ks.length cap ∧ P g ∧ (ks.length ≤ 6 ∧ ks.length ≤ cap) ∧ RepSL w P ks g 0
def RepSL (w : World) (P : Nat → Prop) : List T → Nat → Nat → Prop
  | [], _, _ => True
  | k :: ks, g, i => (∃ l s, w.cell? ⟨g, i * 2, none⟩ = some l ∧ w.cell? ⟨g, i * 2 + 1, none⟩ = some s ∧ RepS w P k l s) ∧ RepSL w P ks g (i + 1)
end

theorem RepSL.get {w : World} {P : Nat → Prop} : ∀ {ks : List T} {g i : Nat}, RepSL w P ks g i → ∀ j (h : j < ks.length), ∃ l s, w.cell? ⟨g, (i + j) * 2, none⟩ = some l ∧ w.cell? ⟨g, (i + j) * 2 + 1, none⟩ = some s ∧ RepS w P ks[j] l s
  | [], _, _, _, _, h => absurd h (by simp)
  | k :: ks, g, i, hr, 0, h => by
    rw [RepSL] at hr; exact hr.1
  | k :: ks, g, i, hr, j + 1, h => by
    rw [RepSL] at hr
    have := RepSL.get hr.2 j (by simpa using h)
    rw [show i + (j + 1) = i + 1 + j from by omega]; exact this

theorem RepSL.of_get {w : World} {P : Nat → Prop} : ∀ {ks : List T} {g i : Nat}, (∀ j (h : j < ks.length), ∃ l s, w.cell? ⟨g, (i + j) * 2, none⟩ = some l ∧ w.cell? ⟨g, (i + j) * 2 + 1, none⟩ = some s ∧ RepS w P ks[j] l s) → RepSL w P ks g i
  | [], _, _, _ => by rw [RepSL]; trivial
  | k :: ks, g, i, h => by
    rw [RepSL]
    refine ⟨h 0 (by simp), RepSL.of_get (fun j hj => ?_)⟩
    have := h (j + 1) (by simpa using hj)
    rw [show i + (j + 1) = i + 1 + j from by omega] at this; exact this

/-- What was readable reads as it did. -/
def Keeps (P : Nat → Prop) (w w' : World) : Prop := ∀ a v, P a.block → w.cell? a = some v → w'.cell? a = some v

mutual
theorem RepS.keep {w w' : World} {P P' : Nat → Prop} (hk : Keeps P w w') (hp : ∀ g, P g → g < w.heap.size → P' g) : ∀ {t : T} {l s : Value}, t.wf → RepS w P t l s → RepS w' P' t l s
  | .leaf, _, _, _, h => by rw [RepS] at h ⊢; exact h
  | .node c [], _, _, hw, h => by rw [T.wf] at hw; simp at hw
  | .node c (k :: ks), _, _, hw, h => by
    rw [RepS] at h ⊢
    rw [T.wf] at hw
    obtain ⟨h1, g, cap, h2, h3, h4, h5⟩ := h
    have hlt : g < w.heap.size := by
      rw [RepSL] at h5
      obtain ⟨⟨l, s, h6, _⟩, _⟩ := h5
      exact World.block_lt_of_cell? w _ h6
    exact ⟨h1, g, cap, h2, hp _ h3 hlt, h4, RepSL.keep hk hp h3 hw.2.2.2.2 h5⟩
theorem RepSL.keep {w w' : World} {P P' : Nat → Prop} (hk : Keeps P w w') (hp : ∀ g, P g → g < w.heap.size → P' g) : ∀ {ks : List T} {g i : Nat}, P g → T.wfL ks → RepSL w P ks g i → RepSL w' P' ks g i
  | [], _, _, _, _, _ => by rw [RepSL]; trivial
  | k :: ks, g, i, hg, hw, h => by
    rw [RepSL] at h ⊢
    rw [T.wfL] at hw
    obtain ⟨⟨l, s, h1, h2, h3⟩, h4⟩ := h
    exact ⟨⟨l, s, hk _ _ hg h1, hk _ _ hg h2, RepS.keep hk hp hw.1 h3⟩, RepSL.keep hk hp hg hw.2 h4⟩
end

theorem Keeps.of_below {w w' : World} (h : Below w.heap.size w w') (P : Nat → Prop) : Keeps P w w' := fun a _ _ hv =>
  (h.cell (World.block_lt_of_cell? w a hv)).trans hv

theorem Keeps.trans {P : Nat → Prop} {a b c : World} (h : Keeps P a b) (k : Keeps P b c) : Keeps P a c := fun x v hp hv => k x v hp (h x v hp hv)
theorem Keeps.mono {P P' : Nat → Prop} {a b : World} (h : Keeps P a b) (hp : ∀ g, P' g → P g) : Keeps P' a b := fun x v hx hv => h x v (hp _ hx) hv

theorem RepS.below {w w' : World} {P : Nat → Prop} {t : T} {l s : Value} (h : RepS w P t l s) (hw : t.wf) (hb : Below w.heap.size w w') : RepS w' P t l s :=
  h.keep (Keeps.of_below hb P) (fun _ h _ => h) hw

theorem two_cells {w : World} {b : Nat} {x y : Value} {t : TypeId} (h : w.heap[b]? = some (.cells #[x, y] t (0, 0))) :
    w.cell? ⟨b, 0, none⟩ = some x ∧ w.cell? ⟨b, 1, none⟩ = some y ∧ w.frozen? ⟨b, 0, none⟩ = false ∧ w.frozen? ⟨b, 1, none⟩ = false := by
  simp [World.cell?, World.frozen?, h]

/-- A block behind a store into it. -/
theorem heap_setCell_same {w : World} {b k : Nat} {cs : Array Value} {t : TypeId} {fr : Nat × Nat} (h : w.heap[b]? = some (.cells cs t fr)) (u : Value) :
    (w.setCell ⟨b, k, none⟩ u).heap[b]? = some (.cells (cs.setIfInBounds k u) t fr) := by
  have hlt : b < w.heap.size := (Array.getElem?_eq_some_iff.1 h).1
  have hv : w.heap[b] = .cells cs t fr := (Array.getElem?_eq_some_iff.1 h).2
  simp only [World.setCell]
  rw [Array.getElem?_eq_getElem (by simpa using hlt), Array.getElem_modify]
  simp [hv]

theorem byte_eq_ff {x y : UInt8} {n : Int} (h : x ≠ y) (hn : n = (y.toNat : Int)) : ((x.toNat : Int) == n) = false := by
  subst hn
  have : x.toNat ≠ y.toNat := fun e => h (UInt8.toNat_inj.1 e)
  simp; omega

theorem byte_ne_tt {x y : UInt8} {n : Int} (h : x ≠ y) (hn : n = (y.toNat : Int)) : ((x.toNat : Int) != n) = true := by
  simp only [bne, byte_eq_ff h hn, Bool.not_false]

theorem keep1 {w w2 : World} {a : Addr} {v : Value} (hb : Below w.heap.size w w2) (h : w.cell? a = some v) : w2.cell? a = some v :=
  (hb.cell (World.block_lt_of_cell? w a h)).trans h

theorem below_step {a w w2 : World} (h : Below a.heap.size a w) (hb : Below w.heap.size w w2) : Below a.heap.size a w2 := h.trans (hb.mono h.size)

theorem keepf {w w2 : World} {a : Addr} {v : Value} (hb : Below w.heap.size w w2) (h : w.cell? a = some v) (h' : w.frozen? a = false) : w2.frozen? a = false :=
  (hb.frozen (World.block_lt_of_cell? w a h)).trans h'

/-- A fact that the walk does not look into. -/
theorem ret_int' {k : IntKind} {a b : Int} (h : a = b) : Ending.returned (.int k a) = .returned (.int k b) := by rw [h]

end Go.Proofs.YtoeebipahifpcaaGreat
end
section
/- Append onto a slice of the call's own, with one word more: the block behind it is the old one or a new one. -/
namespace Go.Proofs.YtoeebipahifpcaaGreat
open Go.RowKit

theorem _root_.Go.RowKit.Below.grownBy {w w' : World} (h : Below w.heap.size w w') : w.grownBy w' none := ⟨h.os, h.tape, h.output, h.size, fun k hk _ => h.block k hk⟩

theorem owns_slice {w : World} {base : Nat} {e : TypeId} {size : Nat} {v : Value} {n : Nat} {xs : List Value} (h : w.ownsRow base e size v n xs) : ∃ a m c, v = .slice a m c ∧ m = n := by
  rcases h.2 with ⟨rfl, rfl⟩ | ⟨g, cap, cur, rfl, _⟩
  · exact ⟨_, _, _, rfl, rfl⟩
  · exact ⟨_, _, _, rfl, rfl⟩

theorem owns_below {w w' : World} {base : Nat} {e : TypeId} {size : Nat} {v : Value} {n : Nat} {xs : List Value} (h : w.ownsRow base e size v n xs) (hb : Below w.heap.size w w') : w'.ownsRow base e size v n xs :=
  h.kept hb.grownBy (by cases v.ownBlock <;> simp)

section
variable {P : Program} (w : World)
theorem run_append_new (base : Nat) (t ty e : TypeId) (i : TypeInfo) (z : Value) (size bytes : Nat) (ht : P.underlying t = some (.slice e)) (hi : P.info? e = some i) (hz : i.zero = some z)
    (hsize : i.size = size) (hby : i.bytes = bytes) (hzs : z.cells.size = size) (hsz : 0 < size)
    (v : Value) (n : Nat) (xs : List Value) (hown : w.ownsRow base e size v n xs)
    (a : Addr) (m c : Nat) (news : List Value) (hm : 0 < m) (hl : news.length = m * size) (hnews : ∀ j u, news[j]? = some u → w.cell? (a.add j) = some u) (h1 : ∀ u ∈ news, u.oneCell' = true)
    (h63 : n + m ≤ maxLen) (hbytes : (n + m) * bytes ≤ 140737488355328) (hbase : base ≤ w.heap.size) :
    ∃ (g cap : Nat) (w' : World), (Builtin.append_ #[t, t] ty #[v, .slice (some a) m c]).run P w = .ok (.slice (some ⟨g, 0, none⟩) (n + m) cap) w' ∧
      w'.ownsRow base e size (.slice (some ⟨g, 0, none⟩) (n + m) cap) (n + m) (xs ++ news) ∧ w.grownBy w' v.ownBlock ∧ (v.ownBlock = some g ∨ g = w.heap.size) := by
  obtain ⟨v', w', hr, ho, hg, _⟩ := run_append_own (P := P) w base t ty e i z size bytes ht hi hz hsize hby hzs hsz v n xs hown a m c news hl hnews h1 h63 hbytes hbase
  subst hsize
  subst hby
  have hsmall : n + m ≤ 9223372036854775807 := by simp only [maxLen] at h63; omega
  rcases hown.2 with ⟨rfl, rfl⟩ | ⟨g, cap, cur, rfl, hbg, hgg, hnc, hcm, hcs, htake⟩
  · have h2 := run_append_nil (P := P) w t ty e i z ht hi hz a m c news hl hnews hm (by omega) (by have hb := hbytes; simp only [Nat.zero_add] at hb; omega)
    have he := hr.symm.trans h2
    simp only [Result.ok.injEq] at he
    obtain ⟨rfl, rfl⟩ := he
    simp only [Nat.zero_add] at ho ⊢
    exact ⟨_, _, _, hr, ho, hg, .inr rfl⟩
  · by_cases hroom : n + m ≤ cap
    · have hfit : n * i.size + news.length ≤ cur.size := by rw [hl, hcs, ← Nat.add_mul]; exact Nat.mul_le_mul_right _ hroom
      have h2 := run_append_room (P := P) w t ty e i ht hi g n cap cur hgg a m c news hl hnews h1 hroom hfit
      have he := hr.symm.trans h2
      simp only [Result.ok.injEq] at he
      obtain ⟨rfl, rfl⟩ := he
      exact ⟨_, _, _, hr, ho, hg, .inl rfl⟩
    · have holds : ∀ j u, xs[j]? = some u → w.cell? ((⟨g, 0, none⟩ : Addr).add j) = some u := hown.cells (g := g) rfl
      have h2 := run_append_grow (P := P) w t ty e i z ht hi hz ⟨g, 0, none⟩ n cap xs hown.1 holds a m c news hl hnews (by omega) (by omega) (growslice_fits (by omega) hbytes)
      have he := hr.symm.trans h2
      simp only [Result.ok.injEq] at he
      obtain ⟨rfl, rfl⟩ := he
      exact ⟨_, _, _, hr, ho, hg, .inr rfl⟩

theorem wpList_append_new {ops : Array Oper} {rest : List Oper} {o : Oper} {a : Act} {Q : Exit → Act → World → Prop} (hgd : o.guard = none) (s x : Operand) (t : TypeId)
    (ho : o.op = .call { callee := .builtin .append, args := #[s, x], argTypes := #[t, t] })
    (base : Nat) (e : TypeId) (i : TypeInfo) (z : Value) (size bytes : Nat) (ht : P.underlying t = some (.slice e)) (hi : P.info? e = some i) (hz : i.zero = some z)
    (hsize : i.size = size) (hby : i.bytes = bytes) (hzs : z.cells.size = size) (hsz : 0 < size)
    (v : Value) (n : Nat) (xs : List Value) (hs : a.eval s = v) (hown : w.ownsRow base e size v n xs)
    (ad : Addr) (m c : Nat) (news : List Value) (hm : 0 < m) (hx : a.eval x = .slice (some ad) m c) (hl : news.length = m * size) (hnews : ∀ j u, news[j]? = some u → w.cell? (ad.add j) = some u) (h1 : ∀ u ∈ news, u.oneCell' = true)
    (h63 : n + m ≤ maxLen) (hbytes : (n + m) * bytes ≤ 140737488355328) (hbase : base ≤ w.heap.size)
    (h : ∀ (g cap : Nat) (w' : World), w'.ownsRow base e size (.slice (some ⟨g, 0, none⟩) (n + m) cap) (n + m) (xs ++ news) → w.grownBy w' v.ownBlock → (v.ownBlock = some g ∨ g = w.heap.size) →
      wpList P ops Q rest (a.put o.dst (.slice (some ⟨g, 0, none⟩) (n + m) cap)) w') : wpList P ops Q (o :: rest) a w := by
  obtain ⟨g, cap, w', hr, h2, h3, h4⟩ := run_append_new (P := P) w base t o.type e i z size bytes ht hi hz hsize hby hzs hsz v n xs hown ad m c news hm hl hnews h1 h63 hbytes hbase
  refine wpList_plain hgd fun _ hK => ?_
  unfold Oper.wp execOp
  simp only [ho, resolve, invoke, builtin, Sem.run_bind, Sem.run_pure, Result.andThen_ok, List.map_toArray, List.map_cons, List.map_nil, hs, hx, hr]
  exact hK _ _ (h g cap w' h2 h3 h4)
end
theorem cells_one {w : World} {n : Nat} {t : TypeId} (hn : n = w.heap.size) (x : Value) :
    ∀ (j : Nat) (u : Value), [x][j]? = some u → (w.alloc (.cells #[x] t)).cell? ((⟨n, 0, none⟩ : Addr).add j) = some u := by
  intro j u h
  have e : (⟨n, 0, none⟩ : Addr).add j = ⟨n, j, none⟩ := by unfold Addr.add; split <;> simp_all
  rw [e, World.cell?_alloc_at _ _ _ _ hn]
  simpa using h

theorem owns_kept_some {w w' : World} {base : Nat} {e : TypeId} {size : Nat} {v : Value} {n r : Nat} {xs : List Value} (h : w.ownsRow base e size v n xs) (hg : w.grownBy w' (some r)) (hr : r < base) : w'.ownsRow base e size v n xs :=
  h.kept hg (.inr fun e => by have := (h.lt r e).1; omega)

theorem cells_two {w : World} {n : Nat} {t : TypeId} (hn : n = w.heap.size) (x y : Value) :
    ∀ (j : Nat) (u : Value), [x, y][j]? = some u → (w.alloc (.cells #[x, y] t)).cell? ((⟨n, 0, none⟩ : Addr).add j) = some u := by
  intro j u h
  have e : (⟨n, 0, none⟩ : Addr).add j = ⟨n, j, none⟩ := by unfold Addr.add; split <;> simp_all
  rw [e, World.cell?_alloc_at _ _ _ _ hn]
  simpa using h

end Go.Proofs.YtoeebipahifpcaaGreat
end
section
/- The model's reader, walked: 'l1Read' gives what 'rd' gives. -/
namespace Go.Proofs.YtoeebipahifpcaaGreat
open Go.RowKit

theorem l6In_any (n a b : Int) (w : World) :
    Calls Tryz.prog 60 #[.int .i64 n, .int .i64 a, .int .i64 b] w fun e w' => e = .returned (.bool (decide (a ≤ n ∧ n ≤ b))) ∧ w = w' := by
  by_cases h1 : a ≤ n
  · by_cases h2 : n ≤ b
    · go_enter Tryz.func60, Tryz.ntmps60
      go_wp2
      go_ret
      simp [h1, h2]
    · have h2' : decide (n ≤ b) = false := by simpa using h2
      go_enter Tryz.func60, Tryz.ntmps60
      go_wp2
      go_ret
      simp
  · have h1' : decide (a ≤ n) = false := by simpa using h1
    go_enter Tryz.func60, Tryz.ntmps60
    go_wp2
    go_ret
    simp

/-- What 'l1Read' answers. -/
def RdPost (s : ByteArray) (i f : Nat) (w : World) (e : Ending) (w' : World) : Prop :=
  Below w.heap.size w w' ∧ ∃ (lb : ByteArray) (sa : Option Addr) (sn sc : Nat) (k : Int), e = .returned (.tuple #[.agg #[.string lb, .slice sa sn sc], .int .i64 k]) ∧
    ((rd f (s.data.toList.drop i) = none ∧ k = -1) ∨
     ∃ t j, rd f (s.data.toList.drop i) = some (t, s.data.toList.drop j) ∧ i < j ∧ j ≤ s.size ∧ k = (j : Int) ∧ RepS w' (fun b => w.heap.size ≤ b) t (.string lb) (.slice sa sn sc))

theorem drop_at {s : ByteArray} {i : Nat} (h : i < s.size) : s.data.toList.drop i = s[i] :: s.data.toList.drop (i + 1) := by
  rw [List.drop_eq_getElem_cons (by simpa using h)]; rfl

theorem drop_end {s : ByteArray} {i : Nat} (h : s.size ≤ i) : s.data.toList.drop i = [] :=
  List.drop_eq_nil_of_le (by simpa using h)

theorem extract_one {s : ByteArray} {i : Nat} (h : i + 1 < s.size) : s.extract (i + 1) (i + 2) = ⟨#[s[i + 1]]⟩ := by
  apply ByteArray.ext
  apply Array.ext
  · simp [ByteArray.data_extract]; change _ - _ = 1; have : s.data.size = s.size := rfl; omega
  · intro k h1 h2
    simp at h2
    subst h2
    simp [ByteArray.data_extract]; rfl

theorem rd_post_none {s : ByteArray} {i f : Nat} {w w' : World} {lb : ByteArray} {sa : Option Addr} {sn sc : Nat} (hb : Below w.heap.size w w') (h : rd f (s.data.toList.drop i) = none) :
    RdPost s i f w (.returned (.tuple #[.agg #[.string lb, .slice sa sn sc], .int .i64 (-1)])) w' := ⟨hb, lb, sa, sn, sc, -1, rfl, .inl ⟨h, rfl⟩⟩

set_option maxHeartbeats 400000 in
theorem l1Read_deep (s : ByteArray) (i : Nat) (w : World) :
    Calls Tryz.prog 83 #[.string s, .int .i64 i, .int .i64 17] w (RdPost s i 0 w) := by
  go_enter Tryz.func83, Tryz.ntmps83
  go_wp2_with fail
  go_returns
  exact rd_post_none ((Below.refl _ _).alloc (Nat.le_refl _) _) rfl

set_option maxHeartbeats 400000 in
theorem l1Read_end (s : ByteArray) (i d f : Nat) (w : World) (hd : d + f = 16) (hi : s.size ≤ i) (_hi2 : i ≤ 200) :
    Calls Tryz.prog 83 #[.string s, .int .i64 i, .int .i64 d] w (RdPost s i (f + 1) w) := by
  go_enter Tryz.func83, Tryz.ntmps83
  go_wp2_with fail
  go_returns
  exact rd_post_none ((Below.refl _ _).alloc (Nat.le_refl _) _) (by rw [drop_end hi]; rfl)

set_option maxHeartbeats 400000 in
theorem l1Read_leaf (s : ByteArray) (i d f : Nat) (w : World) (hd : d + f = 16) (hi : i < s.size) (hs : s.size ≤ 200) (hx : s[i] = 42) :
    Calls Tryz.prog 83 #[.string s, .int .i64 i, .int .i64 d] w (RdPost s i (f + 1) w) := by
  go_enter Tryz.func83, Tryz.ntmps83
  go_wp2_with fail
  go_returns
  exact ⟨(Below.refl _ _).alloc (Nat.le_refl _) _, _, _, _, _, _, rfl, .inr ⟨.leaf, i + 1, by rw [drop_at hi, hx]; rfl, by omega, by omega, by omega, by rw [RepS]; exact ⟨rfl, rfl⟩⟩⟩

set_option maxHeartbeats 400000 in
theorem l1Read_other (s : ByteArray) (i d f : Nat) (w : World) (hd : d + f = 16) (hi : i < s.size) (_hs : s.size ≤ 200) (hx : (s[i].toNat : Int) ≠ 42) (hx' : (s[i].toNat : Int) ≠ 40) :
    Calls Tryz.prog 83 #[.string s, .int .i64 i, .int .i64 d] w (RdPost s i (f + 1) w) := by
  have h1 : ((s[i].toNat : Int) == 42) = false := by simpa using hx
  have h2 : ((s[i].toNat : Int) != 40) = true := by simpa using hx'
  have hr : rd (f + 1) (s.data.toList.drop i) = none := by
    rw [drop_at hi, rd_other (by intro e; rw [e] at hx; simp at hx) (by intro e; rw [e] at hx'; simp at hx')]
  have H := Lib.hid hr
  clear hx hx' hr
  go_enter Tryz.func83, Tryz.ntmps83
  go_wp2_with fail
  go_returns
  exact rd_post_none ((Below.refl _ _).alloc (Nat.le_refl _) _) H.out

set_option maxHeartbeats 400000 in
theorem l1Read_short (s : ByteArray) (i d f : Nat) (w : World) (hd : d + f = 16) (hi : i < s.size) (hs : s.size ≤ 200) (hx : s[i] = 40) (hi1 : s.size ≤ i + 1) :
    Calls Tryz.prog 83 #[.string s, .int .i64 i, .int .i64 d] w (RdPost s i (f + 1) w) := by
  have hr : rd (f + 1) (s.data.toList.drop i) = none := by
    rw [drop_at hi, drop_end hi1, hx, rd_short]
  have H := Lib.hid hr
  clear hr
  go_enter Tryz.func83, Tryz.ntmps83
  go_wp2_with fail
  go_returns
  exact rd_post_none ((Below.refl _ _).alloc (Nat.le_refl _) _) H.out

set_option maxHeartbeats 400000 in
theorem l1Read_letter (s : ByteArray) (i d f : Nat) (w : World) (hd : d + f = 16) (hi : i + 1 < s.size) (hs : s.size ≤ 200) (hx : s[i] = 40) (hc : (s[i + 1].toNat : Int) < 97 ∨ 104 < (s[i + 1].toNat : Int)) :
    Calls Tryz.prog 83 #[.string s, .int .i64 i, .int .i64 d] w (RdPost s i (f + 1) w) := by
  have hr : rd (f + 1) (s.data.toList.drop i) = none := by
    rw [drop_at (by omega), drop_at hi, hx, rd_letter (by omega)]
  have H := Lib.hid hr
  clear hr
  rcases hc with hc | hc
  · go_enter Tryz.func83, Tryz.ntmps83
    go_wp2_with fail
    go_returns
    exact rd_post_none ((Below.refl _ _).alloc (Nat.le_refl _) _) H.out
  · have h97 : 97 ≤ (s[i + 1].toNat : Int) := by omega
    go_enter Tryz.func83, Tryz.ntmps83
    go_wp2_with fail
    go_returns
    exact rd_post_none ((Below.refl _ _).alloc (Nat.le_refl _) _) H.out

end Go.Proofs.YtoeebipahifpcaaGreat
end
