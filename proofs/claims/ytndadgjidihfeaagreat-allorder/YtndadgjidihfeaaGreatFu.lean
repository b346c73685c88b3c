/- A value of a kind that has something: rostrumkeep.full. -/
import Derived.Test.YtndadgjidihfeaaGreatMkJ
import Derived.Test.YtndadgjidihfeaaGreatOwJ
import Derived.Test.YtndadgjidihfeaaGreatMtJ
namespace Go.Proofs.YtndadgjidihfeaaGreat
open Go.RowKit
set_option linter.unusedVariables false
set_option maxRecDepth 100000

def litR : Raw := ⟨0, 0, 0, 1, ⟨#[120]⟩⟩
theorem litR_wf : litR.wf := by simp [Raw.wf, i64s, litR]; decide +kernel
def fullFor (p : Nat) (l : List Raw) : Val := valFor p (litR :: l)
theorem kind_mk (p : Nat) (hp : p < 6) : kindOfI ((mkKind p : Nat) : Int) = (p : Int) + 1 := by
  have : p = 0 ∨ p = 1 ∨ p = 2 ∨ p = 3 ∨ p = 4 ∨ p = 5 := by omega
  rcases this with rfl | rfl | rfl | rfl | rfl | rfl <;> rfl
theorem mkCmd_makes (p : Nat) (r : Raw) : makesB (mkCmd p r).k = true := by
  rw [mkCmd_k]; rcases mkKind_cases p with h | h | h | h | h | h <;> rw [h] <;> rfl
theorem foldV_made (p : Nat) (hp : p < 6) : ∀ (l : List Raw) (x : Val), OkVal x ∧ x.kind = (p : Int) + 1 → OkVal (foldV p x l) ∧ (foldV p x l).kind = (p : Int) + 1
  | [], _, h => h
  | r :: l, x, h => by
    have hk : kindOfI (mkCmd p r).k = (p : Int) + 1 := by rw [mkCmd_k]; exact kind_mk p hp
    have := doV_made (x := x) (mkCmd_fault p r) (mkCmd_makes p r) (.inr ⟨h.1, by rw [hk]; exact h.2⟩)
    rw [hk] at this
    exact foldV_made p hp l _ this
theorem fullFor_ok (p : Nat) (hp : p < 6) (l : List Raw) : OkVal (fullFor p l) ∧ (fullFor p l).kind = (p : Int) + 1 := by
  unfold fullFor valFor
  rw [List.take_succ_cons]
  show OkVal (foldV p (doV (emptyVal 0) (mkCmd p litR)) _) ∧ _
  have hk : kindOfI (mkCmd p litR).k = (p : Int) + 1 := by rw [mkCmd_k]; exact kind_mk p hp
  have := doV_made (x := emptyVal 0) (mkCmd_fault p litR) (mkCmd_makes p litR) (.inl rfl)
  rw [hk] at this
  exact foldV_made p hp _ _ this

theorem info_raw : (Tryz.prog.info? 40).map (fun i => (i.zero, i.size, i.bytes)) = some (some (.agg #[.int .i64 0, .int .i64 0, .int .i64 0, .int .i64 0, .string ByteArray.empty]), 5, 48) := by kernel_rfl
theorem lenRw (x : Raw) : (encRw x).length = 5 := rfl
theorem oneRw (x : Raw) : ∀ u ∈ encRw x, u.oneCell' = true := by intro u hu; simp [encRw] at hu; rcases hu with rfl | rfl | rfl | rfl | rfl <;> rfl

set_option maxHeartbeats 4000000 in
theorem full_any (kind : Int) (s : Value) (l : List Raw) (w : World) (bk : -9223372036854775808 ≤ kind ∧ kind ≤ 9223372036854775807) (hl : RawsAt w s l) (hz : l.length * 48 ≤ reachBytes) :
    Calls Tryz.prog 22 #[.int .i64 kind, s] w fun e w' => ∃ v, e = .returned v ∧ RepsF w.heap.size w' v (fullFor (pickedN kind 6) l) ∧ Below w.heap.size w w' := by
  have hV := fun s l W h => value_any kind s l W bk h
  have HV : Hid (∀ (s : Value) (l : List Raw) (W : World), RawsAt W s l → Calls Tryz.prog 27 #[.int .i64 kind, s] W fun e w' => ∃ v, e = .returned v ∧ RepsF W.heap.size w' v (valFor (pickedN kind 6) l) ∧ Below W.heap.size W w') := hV
  have hre : reachBytes = 140737488351232 := rfl
  rw [hre] at hz
  have hwf := hl.1
  clear hV bk hre
  go_enter Tryz.func22, Tryz.ntmps22
  have hB0 : Below w.heap.size w ((w.alloc (valO 0 ⟨#[]⟩ 0 (.slice none 0 0) (.slice none 0 0) (.slice none 0 0))).alloc (.cells #[.int .i64 0, .int .i64 0, .int .i64 0, .int .i64 1, .string ⟨#[120]⟩] 40)) := (balloc _ _).alloc (by simp) _
  have hown : ((w.alloc (valO 0 ⟨#[]⟩ 0 (.slice none 0 0) (.slice none 0 0) (.slice none 0 0))).alloc (.cells #[.int .i64 0, .int .i64 0, .int .i64 0, .int .i64 1, .string ⟨#[120]⟩] 40)).ownsRow (w.heap.size + 1) 40 5 (.slice (some ⟨w.heap.size + 1, 0, none⟩) 1 1) 1 (encRw litR) :=
    ⟨rfl, .inr ⟨w.heap.size + 1, 1, _, rfl, Nat.le_refl _, (two_new w _ _).2, Nat.le_refl _, by unfold maxLen; omega, rfl, rfl⟩⟩
  have hrow := RawsAt.below hl hB0
  go_wp2_with (at_builtin; refine wpList_append_in _ rfl _ _ 38 rfl (w.heap.size + 1) 40 _ 5 48 Tryz.underlying38 info_raw rfl (by decide) encRw Raw.wf lenRw oneRw (.slice (some ⟨w.heap.size + 1, 0, none⟩) 1 1) 1 (encRw litR) rfl hown s l ?_ hrow ?_ ?_ ?_ ?_)
  · rfl
  · unfold maxLen; omega
  · omega
  · simp <;> omega
  intro v1 w1 hown1 hg1
  have hlen : 1 + l.length = (litR :: l).length := by simp; omega
  have hfl : encRw litR ++ l.flatMap encRw = (litR :: l).flatMap encRw := rfl
  rw [hlen, hfl] at hown1
  have hIn : RawsAt w1 v1 (litR :: l) := InAt.ofOwn lenRw hown1 (by simp; omega) (fun d hd => by rcases List.mem_cons.1 hd with rfl | hd; exact litR_wf; exact hwf d hd)
  have hb1 : Below (w.heap.size + 1) ((w.alloc (valO 0 ⟨#[]⟩ 0 (.slice none 0 0) (.slice none 0 0) (.slice none 0 0))).alloc (.cells #[.int .i64 0, .int .i64 0, .int .i64 0, .int .i64 1, .string ⟨#[120]⟩] 40)) w1 :=
    (Below.refl _ _).grown hg1 (by simp <;> omega) (fun k hk => by simp [Value.ownBlock] at hk; omega)
  have hB1 : Below w.heap.size w w1 := hB0.trans (hb1.mono (by omega))
  have n0 : w1.heap[w.heap.size]? = some (valO 0 ⟨#[]⟩ 0 (.slice none 0 0) (.slice none 0 0) (.slice none 0 0)) := (hb1.block _ (by omega)).trans (two_new w _ _).1
  obtain ⟨a1, c1, rfl⟩ := ownsRow_shape hown1
  clear hown1 hg1 hb1 hrow hB0 hown hl hwf
  go_wp2_with fail
  refine (HV.out _ _ _ hIn).mono ?_
  rintro e w2 ⟨v, rfl, hr, hb2⟩
  have hB2 := bstep hB1 hb2
  have n2 := (hb2.block _ (lt_heap n0)).trans n0
  obtain ⟨ps, is, ss, rfl, hls, hf1, hf2, hf3⟩ := hr
  obtain ⟨pa, pc, ia, ic, sa, sc, rfl, rfl, rfl, -⟩ := hls.lens
  have hz2 := hB1.size
  have hX : fullFor (pickedN kind 6) l = valFor (pickedN kind 6) (litR :: l) := rfl
  have hlt := lt_heap n0
  generalize valFor (pickedN kind 6) (litR :: l) = x at *
  obtain ⟨c0, f0⟩ := block_cells n2
  clear hb2 n0 n2
  go_wp2_with fail
  refine bodyPost_ret (v := valV x.kind x.text x.count (.slice pa x.pairs.length pc) (.slice ia x.items.length ic) (.slice sa x.scores.length sc)) (by simp [results, Tryz.results22, go_sem, c0]) rfl ⟨_, rfl, ?_, storedV_below hB2 (Nat.le_refl _)⟩
  rw [hX]
  exact (storedV_reps ⟨_, _, _, rfl, hls, hf1, hf2, hf3⟩ hlt).mono hz2
end Go.Proofs.YtndadgjidihfeaaGreat
