/- Lists of names that are joined, and what is decoded of them. -/
import Derived.Test.YtiakpipkchbnlaaDoorSj
namespace Go.Proofs.YtiakpipkchbnlaaDoor
set_option linter.unusedVariables false
open Go Go.RowKit

/-- The square of a byte; its name. -/
def sOf (x : Int) : Nat := (x.tmod 64).toNat
theorem sOf_byte {x : Int} (h : 0 ≤ x ∧ x ≤ 255) : sOf x < 64 ∧ x.tmod 64 = (sOf x : Int) := by
  have e : x.tmod 64 = x % 64 := Int.tmod_eq_emod_of_nonneg (by omega)
  unfold sOf
  rw [e]
  omega
def nmB (s : Nat) : ByteArray := strOfNums (nm s)
def ssI (ss : List Nat) : List Int := ss.map fun (s : Nat) => (s : Int)
theorem sb_nmB {s : Nat} (h : s < 64) : sb (nmB s) = nm s := sb_strOf (nm_by h)
theorem nm_44 {s : Nat} (h : s < 64) : 44 ∉ nm s := by
  simp [nm]
  omega
theorem okP_nm {s : Nat} (h : s < 64) : okP (nm s) := by rw [okP, parseF_nm h]
theorem sqP_nm {s : Nat} (h : s < 64) : sqP (nm s) = (s : Int) := by rw [sqP, parseF_nm h]
theorem map_sb {ss : List Nat} (h : ∀ s ∈ ss, s < 64) : (ss.map nmB).map sb = ss.map fun (s : Nat) => nm s := by
  rw [List.map_map]
  exact List.map_congr_left fun s hs => sb_nmB (h s hs)
theorem jn_names_len {ss : List Nat} : (jn (ss.map fun (s : Nat) => nm s)).length ≤ 3 * ss.length := by
  have := jn_len (c := 2) (ps := ss.map fun (s : Nat) => nm s) (fun p hp => by obtain ⟨s, _, rfl⟩ := List.mem_map.1 hp; simp [nm])
  simpa using this
theorem jn_mem {ps : List (List Int)} {p : List Int} (h : p ∈ ps) : p.length ≤ (jn ps).length := by
  match ps, h with
  | [q], h => simp at h; subst h; simp [jn]
  | q :: r :: t, h =>
    rw [jn, List.length_append, List.length_cons]
    rcases List.mem_cons.1 h with rfl | h
    · omega
    · have := jn_mem h
      omega
/-- Names alone. -/
theorem list_names {ss : List Nat} (h : ∀ s ∈ ss, s < 64) : listF (sb (joinS (ss.map nmB))) = (ssI ss, 0) := by
  rw [sb_joinS, map_sb h]
  rcases Nat.eq_zero_or_pos ss.length with h0 | h0
  · have := List.eq_nil_of_length_eq_zero h0
    subst this
    rfl
  · obtain ⟨s, r, rfl⟩ : ∃ s r, ss = s :: r := by
      cases ss with
      | nil => simp at h0
      | cons s r => exact ⟨s, r, rfl⟩
    have e : pcs (jn ((s :: r).map fun (s : Nat) => nm s)) = (s :: r).map fun (s : Nat) => nm s := by
      rw [pcs_jn (by simp), flat_one fun p hp => by
        obtain ⟨t, ht, rfl⟩ := List.mem_map.1 hp
        exact nm_44 (h t ht)]
    have hne : jn ((s :: r).map fun (s : Nat) => nm s) ≠ [] := fun e2 => by
      have := jn_mem (ps := (s :: r).map fun (s : Nat) => nm s) (p := nm s) (by simp)
      rw [e2] at this
      simp [nm] at this
    rw [listF_all hne (by
      rw [e]
      intro p hp
      obtain ⟨t, ht, rfl⟩ := List.mem_map.1 hp
      exact okP_nm (h t ht)), e, List.map_map, ssI]
    exact congrArg (fun l => (l, (0 : Int))) (List.map_congr_left fun t ht => sqP_nm (h t ht))
/-- Something among them that is no list of names. -/
def bads : List (List Int) := [[65, 49], [97], [97, 57], [97, 48], [105, 49], [97, 49, 49], [32, 97, 49], [97, 49, 32], [45], [97, 49, 44, 44, 97, 50], [97, 49, 44], [44, 97, 49]]
theorem bads_bad : ∀ b ∈ bads, (∃ p ∈ pcs b, ¬ okP p) ∧ b.length ≤ 6 ∧ 0 < b.length ∧ (b.all fun x => decide (0 ≤ x) && decide (x ≤ 255)) = true := by decide +kernel
theorem list_bad {ss : List Nat} {b : List Int} (i : Nat) (h : ∀ s ∈ ss, s < 64) (hb : b ∈ bads) : listF (sb (joinS (insL (ss.map nmB) i (strOfNums b)))) = ([], 8) := by
  obtain ⟨⟨p, hp, hbad⟩, _, h0, hby⟩ := bads_bad b hb
  rw [sb_joinS]
  have hm : b ∈ (insL (ss.map nmB) i (strOfNums b)).map sb := List.mem_map.2 ⟨strOfNums b, by simp [insL], sb_strOf (by_of b hby)⟩
  obtain ⟨ps, hps⟩ : ∃ ps, ps = (insL (ss.map nmB) i (strOfNums b)).map sb := ⟨_, rfl⟩
  rw [← hps] at hm ⊢
  have hne : ps ≠ [] := fun e => by rw [e] at hm; cases hm
  refine listF_bad (p := p) (fun e => ?_) ?_ hbad
  · have := jn_mem hm
    rw [e] at this
    simp at this
    rw [this] at h0
    simp at h0
  · rw [pcs_jn hne]
    exact List.mem_flatMap.2 ⟨b, hm, hp⟩
theorem bad_len {ss : List Nat} {b : List Int} (i : Nat) (h : ∀ s ∈ ss, s < 64) (hb : b ∈ bads) (hi : i ≤ ss.length) : (jn ((insL (ss.map nmB) i (strOfNums b)).map sb)).length ≤ 7 * (ss.length + 1) := by
  obtain ⟨_, h6, _, hby⟩ := bads_bad b hb
  have := jn_len (c := 6) (ps := (insL (ss.map nmB) i (strOfNums b)).map sb) (fun p hp => by
    obtain ⟨x, hx, rfl⟩ := List.mem_map.1 hp
    unfold insL at hx
    rcases List.mem_append.1 hx with hx | hx
    · obtain ⟨s, hs, rfl⟩ := List.mem_map.1 (List.mem_of_mem_take hx)
      rw [sb_nmB (h s hs)]
      simp [nm]
    · rcases List.mem_cons.1 hx with rfl | hx
      · rw [sb_strOf (by_of b hby)]
        exact h6
      · obtain ⟨s, hs, rfl⟩ := List.mem_map.1 (List.mem_of_mem_drop hx)
        rw [sb_nmB (h s hs)]
        simp [nm])
  rw [List.length_map, insL_len _ (by simpa using hi), List.length_map] at this
  exact this
/-- Behind an append to the one slice of two. -/
theorem app_ints {w wr W : World} {B : Nat} {v u : Value} {S : List Int} {N : List ByteArray} {o : Obj} (hown : Own .i64 3 wr B v S) (hnam : OwnA Value.string 9 wr B u N) (hg : (wr.alloc o).grownBy W v.ownBlock) (hbel : Below B w wr) (hb : B ≤ wr.heap.size) :
    OwnA Value.string 9 W B u N ∧ Below B w W := by
  have h1 := hown.alloc o
  have h2 := hnam.alloc o
  refine ⟨World.ownsRow.kept h2 hg (rows_apart h2 h1 (by decide)), (hbel.alloc hb o).grown hg (by simp; omega) (fun q hq => (World.ownsRow.lt h1 q hq).1)⟩
theorem app_strs {w wr W : World} {B : Nat} {v u : Value} {S : List Int} {N : List ByteArray} {o : Obj} (hown : Own .i64 3 wr B v S) (hnam : OwnA Value.string 9 wr B u N) (hg : (wr.alloc o).grownBy W u.ownBlock) (hbel : Below B w wr) (hb : B ≤ wr.heap.size) :
    Own .i64 3 W B v S ∧ Below B w W := by
  have h1 := hown.alloc o
  have h2 := hnam.alloc o
  refine ⟨World.ownsRow.kept h1 hg (rows_apart h1 h2 (by decide)), (hbel.alloc hb o).grown hg (by simp; omega) (fun q hq => (World.ownsRow.lt h2 q hq).1)⟩
theorem ss_lt {ls : List Int} (h : By ls) : ∀ s ∈ ls.map sOf, s < 64 := by
  intro s hs
  obtain ⟨x, hx, rfl⟩ := List.mem_map.1 hs
  exact (sOf_byte (h x hx)).1
theorem tmod_byte {a : Int} (h : 0 ≤ a ∧ a ≤ 255) (m : Nat) (hm : 0 < m) : ∃ i : Nat, i < m ∧ a.tmod (m : Int) = (i : Int) := by
  rw [Int.tmod_eq_emod_of_nonneg h.1]
  have h1 := Int.emod_nonneg a (show (m : Int) ≠ 0 by omega)
  have h2 := Int.emod_lt_of_pos a (show (0 : Int) < (m : Int) by omega)
  exact ⟨(a % (m : Int)).toNat, by omega, by omega⟩
theorem bads_at {m : Nat} (hm : m < 12) : ([.string ⟨#[65, 49]⟩, .string ⟨#[97]⟩, .string ⟨#[97, 57]⟩, .string ⟨#[97, 48]⟩, .string ⟨#[105, 49]⟩, .string ⟨#[97, 49, 49]⟩, .string ⟨#[32, 97, 49]⟩, .string ⟨#[97, 49, 32]⟩, .string ⟨#[45]⟩, .string ⟨#[97, 49, 44, 44, 97, 50]⟩, .string ⟨#[97, 49, 44]⟩, .string ⟨#[44, 97, 49]⟩] : List Value)[m]'hm = .string (strOfNums (bads.getD m [])) := by
  have e : ([.string ⟨#[65, 49]⟩, .string ⟨#[97]⟩, .string ⟨#[97, 57]⟩, .string ⟨#[97, 48]⟩, .string ⟨#[105, 49]⟩, .string ⟨#[97, 49, 49]⟩, .string ⟨#[32, 97, 49]⟩, .string ⟨#[97, 49, 32]⟩, .string ⟨#[45]⟩, .string ⟨#[97, 49, 44, 44, 97, 50]⟩, .string ⟨#[97, 49, 44]⟩, .string ⟨#[44, 97, 49]⟩] : List Value) = bads.map fun b => Value.string (strOfNums b) := by rfl
  have h : m < bads.length := hm
  simp only [e, List.getElem_map, List.getD, List.getElem?_eq_getElem h, Option.getD_some]
theorem bads_mem {m : Nat} (hm : m < 12) : bads.getD m [] ∈ bads := by
  have h : m < bads.length := hm
  rw [List.getD, List.getElem?_eq_getElem h]
  exact List.getElem_mem h
theorem own_form {e B k : Nat} {w : World} {v : Value} {l : List ByteArray} (h : OwnA Value.string e w B v l) (hk : l.length = k) : ∃ a c, v = .slice a k c := by
  obtain ⟨a, c, e, _⟩ := h.sk
  exact ⟨a, c, by rw [e, hk]⟩
theorem nil_form {k : IntKind} {e B : Nat} {w : World} {v : Value} (h : Own k e w B v []) : ∃ a c, v = .slice a 0 c := by
  obtain ⟨a, c, e, _⟩ := h.sk
  exact ⟨a, c, e⟩
end Go.Proofs.YtiakpipkchbnlaaDoor
