/- slices.Insert of one string into a slice of the call's own. -/
import Derived.Test.YtiakpipkchbnlaaDoorSk
import Derived.Test.YtiakpipkchbnlaaDoorShI
namespace Go.Proofs.YtiakpipkchbnlaaDoor
set_option linter.unusedVariables false
open Go Go.RowKit

/-- A list with one more element. -/
def insL {α : Type} (l : List α) (i : Nat) (x : α) : List α := l.take i ++ x :: l.drop i
theorem insL_len {α : Type} {l : List α} {i : Nat} (x : α) (hi : i ≤ l.length) : (insL l i x).length = l.length + 1 := by simp [insL]; omega
theorem insL_get {α : Type} {l : List α} {i j : Nat} {x y : α} (hi : i ≤ l.length) (h : (insL l i x)[j]? = some y) :
    (j < i ∧ l[j]? = some y) ∨ (j = i ∧ y = x) ∨ (i < j ∧ l[j - 1]? = some y) := by
  unfold insL at h
  rcases Nat.lt_trichotomy j i with hj | hj | hj
  · refine .inl ⟨hj, ?_⟩
    rwa [List.getElem?_append_left (by simp; omega), List.getElem?_take_of_lt hj] at h
  · refine .inr (.inl ⟨hj, ?_⟩)
    subst hj
    rw [List.getElem?_append_right (by simp; omega), List.length_take, Nat.min_eq_left hi, Nat.sub_self] at h
    simpa using h.symm
  · refine .inr (.inr ⟨hj, ?_⟩)
    rw [List.getElem?_append_right (by simp; omega), List.length_take, Nat.min_eq_left hi, show j - i = (j - i - 1) + 1 by omega, List.getElem?_cons_succ, List.getElem?_drop] at h
    rwa [show i + (j - i - 1) = j - 1 by omega] at h
theorem isSome_cells {W : World} {b j : Nat} {cs : Array Value} {t : TypeId} {fr : Nat × Nat} (h : W.heap[b]? = some (.cells cs t fr)) (hj : j < cs.size) : (W.cell? ⟨b, j, none⟩).isSome = true := by
  rw [cell_of_row W b j cs t fr h, Array.getElem?_eq_getElem hj]; rfl
theorem below_setCells {B b : Nat} (hb : B ≤ b) : ∀ (vs : List Value) (o : Nat) (w : World), Below B w (w.setCells b o vs)
  | [], _, w => Below.refl _ w
  | v :: r, o, w => ((Below.refl B w).setCell (p := ⟨b, o, none⟩) hb v).trans (below_setCells hb r (o + 1) _)
theorem size_setCells (b : Nat) : ∀ (vs : List Value) (o : Nat) (w : World), (w.setCells b o vs).heap.size = w.heap.size
  | [], _, _ => rfl
  | v :: r, o, w => by
    rw [World.setCells, size_setCells b r]
    show (w.heap.modify _ _).size = _
    rw [Array.size_modify]
/-- What is stored in two steps: the elements from i on, moved up by one; then the new one. -/
theorem two_steps {W : World} {b i n : Nat} {l : List ByteArray} {x : ByteArray} (hn : n = l.length) (hi : i ≤ n) (hs : ∀ j, j < n + 1 → (W.cell? ⟨b, j, none⟩).isSome = true)
    (hc : ∀ j y, j < i → l[j]? = some y → W.cell? ⟨b, j, none⟩ = some (.string y)) :
    ∀ j y, (insL l i x)[j]? = some y → ((W.setCells b (i + 1) ((l.map Value.string).drop i)).setCells b i [.string x]).cell? ⟨b, j, none⟩ = some (.string y) := by
  intro j y h
  have hdl : ((l.map Value.string).drop i).length = n - i := by rw [List.length_drop, List.length_map, hn]
  have hs2 : ∀ k, k < n + 1 → ((W.setCells b (i + 1) ((l.map Value.string).drop i)).cell? ⟨b, k, none⟩).isSome = true := fun k hk =>
    isSome_setCells b _ _ W (fun j hj => hs _ (by omega)) k (hs k hk)
  rcases insL_get (by omega) h with ⟨h1, h2⟩ | ⟨rfl, rfl⟩ | ⟨h1, h2⟩
  · rw [World.cell?_setCells_out b _ _ _ _ (fun _ _ => .inl h1), World.cell?_setCells_out b _ _ _ _ (fun _ _ => .inl (show j < i + 1 by omega))]
    exact hc j y h1 h2
  · exact World.cell?_setCells_in b [.string y] j _ (fun k hk => hs2 _ (by simp at hk; omega)) 0 (by simp)
  · have hjl := (List.getElem?_eq_some_iff.1 h2).1
    rw [World.cell?_setCells_out b _ _ _ _ (fun _ _ => .inr (show i + 1 ≤ j by omega))]
    have := World.cell?_setCells_in b ((l.map Value.string).drop i) (i + 1) W (fun k hk => hs _ (by omega)) (j - i - 1) (by omega)
    rw [show i + 1 + (j - i - 1) = j by omega] at this
    rw [this, List.getElem_drop, List.getElem_map]
    obtain ⟨_, e⟩ := List.getElem?_eq_some_iff.1 h2
    simp only [show i + (j - i - 1) = j - 1 by omega, e]
theorem two_steps2 {W : World} {b i n : Nat} {l : List ByteArray} {x : ByteArray} (hn : n = l.length) (hi : i ≤ n) (hs : ∀ j, j < n + 1 → (W.cell? ⟨b, j, none⟩).isSome = true)
    (hc : ∀ j y, j < i → l[j]? = some y → W.cell? ⟨b, j, none⟩ = some (.string y)) :
    ∀ j y, (insL l i x)[j]? = some y → ((W.setCells b i [.string x]).setCells b (i + 1) ((l.map Value.string).drop i)).cell? ⟨b, j, none⟩ = some (.string y) := by
  intro j y h
  have hdl : ((l.map Value.string).drop i).length = n - i := by rw [List.length_drop, List.length_map, hn]
  have hs2 : ∀ k, k < n + 1 → ((W.setCells b i [.string x]).cell? ⟨b, k, none⟩).isSome = true := fun k hk =>
    isSome_setCells b _ _ W (fun j hj => hs _ (by simp at hj; omega)) k (hs k hk)
  rcases insL_get (by omega) h with ⟨h1, h2⟩ | ⟨rfl, rfl⟩ | ⟨h1, h2⟩
  · rw [World.cell?_setCells_out b _ _ _ _ (fun _ _ => .inl (show j < i + 1 by omega)), World.cell?_setCells_out b _ _ _ _ (fun _ _ => .inl h1)]
    exact hc j y h1 h2
  · rw [World.cell?_setCells_out b _ _ _ _ (fun _ _ => .inl (show j < j + 1 by omega))]
    exact World.cell?_setCells_in b [.string y] j _ (fun k hk => hs _ (by simp at hk; omega)) 0 (by simp)
  · have hjl := (List.getElem?_eq_some_iff.1 h2).1
    have := World.cell?_setCells_in b ((l.map Value.string).drop i) (i + 1) (W.setCells b i [.string x]) (fun k hk => hs2 _ (by omega)) (j - i - 1) (by omega)
    rw [show i + 1 + (j - i - 1) = j by omega] at this
    rw [this, List.getElem_drop, List.getElem_map]
    obtain ⟨_, e⟩ := List.getElem?_eq_some_iff.1 h2
    simp only [show i + (j - i - 1) = j - 1 by omega, e]
theorem sa_made {W : World} {g cap n : Nat} {l : List ByteArray} (hn : n = l.length) (hg : g < W.heap.size) (hl : n ≤ cap) (hc : cap ≤ maxLen) (h : ∀ j y, l[j]? = some y → W.cell? ⟨g, j, none⟩ = some (.string y)) : SA Value.string W (.slice (some ⟨g, 0, none⟩) n cap) l := by
  subst hn
  exact ⟨_, cap, rfl, hl, hc, (by intro h; cases h), fun _ => ⟨g, 0, rfl, hg, fun i x hx => by rw [Nat.zero_add]; exact h i x hx⟩⟩

set_option maxHeartbeats 4000000 in
theorem insert_any (B i : Nat) (v : Value) (l : List ByteArray) (x : ByteArray) (w : World) (hown : OwnA Value.string 9 w B v l) (hB : B ≤ w.heap.size) (hi : i ≤ l.length) (hl : l.length ≤ 65536) :
    Calls Tryd.prog 29 #[v, .int .i64 i, .slice (some ⟨w.heap.size, 0, none⟩) 1 1] (w.alloc (.cells #[.string x] 9)) fun e w' =>
      ∃ u, e = .returned u ∧ SA Value.string w' u (insL l i x) ∧ Below B (w.alloc (.cells #[.string x] 9)) w' := by
  obtain ⟨W, hW⟩ : ∃ W, W = w.alloc (.cells #[.string x] 9) := ⟨_, rfl⟩
  have hx0 : W.heap[w.heap.size]? = some (.cells #[.string x] 9 (0, 0)) := by rw [hW]; exact heap_alloc_new w _
  have hsz : W.heap.size = w.heap.size + 1 := by rw [hW]; simp
  have hold : ∀ j, j < w.heap.size → W.heap[j]? = w.heap[j]? := fun j hj => by rw [hW]; exact Below.heap_alloc w _ j hj
  rw [← hW]
  clear hW
  have hvs : ∀ (j : Nat) u, ([.string x] : List Value)[j]? = some u → W.cell? ⟨w.heap.size, 0 + j, none⟩ = some u := fun j u hj => by
    rw [Nat.zero_add, cell_of_row W _ j _ _ _ hx0, ← Array.getElem?_toList]
    exact hj
  have h1v : ∀ u ∈ ([.string x] : List Value), u.oneCell' = true := fun u hu => by simp at hu; subst hu; rfl
  have h1c : ∀ u ∈ l.map Value.string, u.oneCell' = true := str_one.all l
  have hil := insL_len x hi
  have hlen := hown.1
  rcases hown.2 with ⟨rfl, h0⟩ | ⟨g, cap, cur, rfl, hBg, hg, hnc, hcm, hcs, hxs⟩
  · have hl0 := List.eq_nil_of_length_eq_zero h0
    subst hl0
    obtain rfl : i = 0 := by simpa using hi
    refine (Any2.slices_Insert_string_end_grow Tryd.lays2i22 none 0 0 w.heap.size 0 1 1 [] [.string x] W (by decide) (by decide) (by decide) (by decide) rfl rfl (fun _ => rfl) (fun a h => by cases h) hvs h1v).mono ?_
    rintro e w' ⟨rfl, rfl⟩
    have hge := grownCap_ge W (0 + 1) 0 9
    have hle := grownCap_le_maxLen W (0 + 1) 0 9 (by decide)
    refine ⟨_, rfl, sa_made (l := [x]) rfl (by simp) hge hle (fun j y hj => ?_), (Below.refl B W).drew.alloc (by show B ≤ W.heap.size; omega) _⟩
    match j, hj with
    | 0, hj =>
      obtain rfl : x = y := by simpa using hj
      rw [cell_of_row _ W.heap.size 0 _ _ _ (heap_alloc_new W.drew _), Array.getElem?_append_left (by simp)]
      rfl
  · have hgl : g < w.heap.size := (Array.getElem?_eq_some_iff.1 hg).1
    have hg2 : W.heap[g]? = some (.cells cur 9 (0, 0)) := (hold g hgl).trans hg
    have hsl : cur.size = cap := by omega
    have hcell : ∀ j y, l[j]? = some y → W.cell? ⟨g, j, none⟩ = some (.string y) := fun j y hj => by
      have hjl := (List.getElem?_eq_some_iff.1 hj).1
      have h2 : (cur.toList.take (l.length * 1))[j]? = (l.map Value.string)[j]? := by rw [hxs]
      rw [List.getElem?_take_of_lt (by omega), List.getElem?_map, hj] at h2
      rw [cell_of_row W g j _ _ _ hg2, ← Array.getElem?_toList, h2]
      rfl
    have hcs : ∀ (j : Nat) u, (l.map Value.string)[j]? = some u → W.cell? ⟨g, 0 + j, none⟩ = some u := fun j u hj => by
      rw [List.getElem?_map] at hj
      obtain ⟨y, hy, rfl⟩ := Option.map_eq_some_iff.1 hj
      rw [Nat.zero_add]
      exact hcell j y hy
    have hsp : ∀ j, j < cap → (W.cell? ⟨g, j, none⟩).isSome = true := fun j hj => isSome_cells hg2 (by omega)
    have hfz : ∀ j, W.frozen? ⟨g, j, none⟩ = false := fun j => frozen_of_row W g j _ _ hg2
    by_cases hin : i < l.length
    · by_cases hroom : l.length + 1 ≤ cap
      · refine (Any2.slices_Insert_string_shift Tryd.lays2i22 g 0 l.length cap i w.heap.size 0 1 1 (l.map Value.string) [.string x] W hin (by decide) hroom (by unfold maxLen at hcm; omega) (by omega) (by simp) rfl hcs (fun j hj => by rw [Nat.zero_add]; exact hsp j (by omega)) (fun j _ => hfz _) hvs h1c h1v
          9 9 1 cur.size (by simp [World.shape?, hx0]) (by simp [World.shape?, hg2]) (by omega) (frozen_of_row W _ _ _ _ hx0) (frozen_of_row W _ _ _ _ hx0)).mono ?_
        rintro e w' ⟨rfl, rfl⟩
        refine ⟨_, rfl, ?_, ((Below.refl B W).drew.trans (below_setCells (by omega) _ _ _)).trans (below_setCells (by omega) _ _ _)⟩
        refine sa_made hil.symm (by rw [size_setCells, size_setCells]; show g < W.heap.size; omega) (by omega) hcm ?_
        rw [Nat.zero_add, Nat.zero_add]
        exact two_steps rfl (by omega) (fun j hj => hsp j (by omega)) (fun j y _ hj => hcell j y hj)
      · refine (Any2.slices_Insert_string_grow Tryd.lays2i22 g 0 l.length cap i w.heap.size 0 1 1 (l.map Value.string) [.string x] W hin (by decide) hnc (by omega) (by omega) (by simp) rfl hcs hvs h1c h1v).mono ?_
        rintro e w' ⟨rfl, rfl⟩
        have hge := grownCap_ge W (l.length + 1) cap 9
        have hle := grownCap_le_maxLen W (l.length + 1) cap 9 (by unfold maxLen; omega)
        rw [drew_setCells]
        refine ⟨_, rfl, ?_, ((((Below.refl B W).alloc (by omega) _).drew.drew).trans (below_setCells (by omega) _ _ _)).trans (below_setCells (by omega) _ _ _)⟩
        refine sa_made hil.symm (by rw [size_setCells, size_setCells]; show W.heap.size < (W.alloc _).heap.size; simp) hge hle ?_
        refine two_steps2 (n := l.length) rfl (by omega) (fun j hj => isSome_cells (heap_alloc_new W _) ?_) (fun j y hji hj => ?_)
        · simp only [Array.size_append, size_zeroCells, List.size_toArray, List.length_take, List.length_map]
          show j < min i l.length + (l.length + 1 - i) * 1 + _ * 1
          omega
        · show (W.alloc _).cell? _ = _
          rw [cell_of_row _ W.heap.size j _ _ _ (heap_alloc_new W _), Array.getElem?_append_left (by simp [size_zeroCells]; omega), Array.getElem?_append_left (by simp; omega)]
          simp [hji, hj]
    · obtain rfl : i = l.length := by omega
      by_cases hroom : l.length + 1 ≤ cap
      · refine (Any2.slices_Insert_string_end_room Tryd.lays2i22 g 0 l.length cap w.heap.size 0 1 1 [.string x] W (by decide) hroom (by unfold maxLen at hcm; omega) rfl (fun j hj => by rw [Nat.zero_add]; exact hsp _ (by omega)) (fun j _ => hfz _) hvs h1v).mono ?_
        rintro e w' ⟨rfl, rfl⟩
        refine ⟨_, rfl, ?_, below_setCells (by omega) _ _ _⟩
        refine sa_made hil.symm (by rw [size_setCells]; omega) (by omega) hcm ?_
        rw [Nat.zero_add]
        have := two_steps2 (x := x) (l := l) (W := W) (b := g) (i := l.length) rfl (Nat.le_refl _) (fun j hj => hsp j (by omega)) (fun j y _ hj => hcell j y hj)
        rw [List.drop_of_length_le (by simp)] at this
        exact this
      · refine (Any2.slices_Insert_string_end_grow Tryd.lays2i22 (some ⟨g, 0, none⟩) l.length cap w.heap.size 0 1 1 (l.map Value.string) [.string x] W (by decide) hnc (by omega) (by omega) (by simp) rfl (fun h => by cases h) (fun a h j u hj => by cases h; rw [plain_add]; exact hcs j u hj) hvs h1v).mono ?_
        rintro e w' ⟨rfl, rfl⟩
        have hge := grownCap_ge W (l.length + 1) cap 9
        have hle := grownCap_le_maxLen W (l.length + 1) cap 9 (by unfold maxLen; omega)
        refine ⟨_, rfl, ?_, (Below.refl B W).drew.alloc (by show B ≤ W.heap.size; omega) _⟩
        refine sa_made hil.symm (by simp) hge hle (fun j y hj => ?_)
        have hjl := (List.getElem?_eq_some_iff.1 hj).1
        rw [cell_of_row _ W.heap.size j _ _ _ (heap_alloc_new W.drew _), Array.getElem?_append_left (by simp; omega)]
        rw [show insL l l.length x = l ++ [x] by simp [insL]] at hj
        have h3 := congrArg (Option.map Value.string) hj
        rw [← List.getElem?_map, List.map_append] at h3
        simpa using h3
end Go.Proofs.YtiakpipkchbnlaaDoor
