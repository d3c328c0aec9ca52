/- The streams that the statement writes, and that they are streams. -/
import Derived.Test.YtepgoppgblfjbaaGreatDoorExt2
import Derived.KernelRfl
namespace Go.Proofs.YtepgoppgblfjbaaGreatDoor
namespace Pu

def refsL : List (List UInt8) := [[109, 97, 105, 110], [115, 105, 100, 101], [120, 47, 121]]
def pathsL : List (List UInt8) := [[97], [97, 47, 98], [97, 47, 98, 47, 99], [100], [100, 47, 101], [102, 46, 120], [102]]
/-- A number below 100 in decimal digits. -/
def dig (n : Nat) : List UInt8 := if n < 10 then [UInt8.ofNat (48 + n)] else [UInt8.ofNat (48 + n / 10), UInt8.ofNat (48 + n % 10)]
/-- A change: kB: its kind (of ten); p, q: the paths; d: the data (of thirty). -/
def changeS (kB : Nat) (p q : List UInt8) (d : Nat) : List UInt8 :=
  if kB = 6 then [68, 32] ++ p ++ [10]
  else if kB = 7 then [67, 32] ++ p ++ [32] ++ q ++ [10]
  else if kB = 8 then [82, 32] ++ p ++ [32] ++ q ++ [10]
  else if kB = 9 then [100, 101, 108, 101, 116, 101, 97, 108, 108, 10]
  else [77, 32] ++ (if d % 5 = 4 then s755 else s644) ++ [32, 105, 110, 108, 105, 110, 101, 32] ++ p ++ [10, 100, 97, 116, 97, 32] ++ dig (dig d).length ++ [10] ++ dig d ++ [10]
def headS (r : List UInt8) (n : Nat) : List UInt8 :=
  [99, 111, 109, 109, 105, 116, 32] ++ r ++ [10, 109, 97, 114, 107, 32, 58] ++ dig n ++ [10, 97, 117, 116, 104, 111, 114, 32, 65, 32, 66, 32, 60, 97, 64, 98, 62, 32] ++ dig n ++ [10, 100, 97, 116, 97, 32, 49, 10, 109, 10]
/-- A command: k: its kind (of nine); r, o: the refs; n: its mark; t: the tag's number; c: the change. -/
def commandS (k : Nat) (r o : List UInt8) (n t : Nat) (c : List UInt8) : List UInt8 :=
  if k < 6 then headS r n ++ c ++ [10]
  else if k = 6 then [114, 101, 115, 101, 116, 32] ++ r ++ [10, 102, 114, 111, 109, 32] ++ o ++ [10, 10]
  else if k = 7 then [116, 97, 103, 32, 116] ++ dig t ++ [10, 102, 114, 111, 109, 32] ++ o ++ [10, 100, 97, 116, 97, 32, 48, 10, 10]
  else headS r n ++ [109, 101, 114, 103, 101, 32] ++ o ++ [10, 10]

theorem heads_ok : (refsL.all fun r => (List.range 12).all fun n => commitA (headS r (n + 1)) false == ([], false)) = true := by kernel_rfl
theorem words_ok : (refsL.all fun r => (List.range 12).all fun n => word (headS r (n + 1)) == sCommit) = true := by kernel_rfl
theorem resets_ok : (refsL.all fun r => refsL.all fun o => readOne ([114, 101, 115, 101, 116, 32] ++ r ++ [10, 102, 114, 111, 109, 32] ++ o ++ [10, 10]) false == ([], false)) = true := by kernel_rfl
theorem tags_ok : ((List.range 3).all fun t => refsL.all fun o => readOne ([116, 97, 103, 32, 116] ++ dig t ++ [10, 102, 114, 111, 109, 32] ++ o ++ [10, 100, 97, 116, 97, 32, 48, 10, 10]) false == ([], false)) = true := by kernel_rfl
theorem merges_ok : (refsL.all fun o => commitB ([109, 101, 114, 103, 101, 32] ++ o ++ [10, 10]) false == ([], false)) = true := by kernel_rfl
theorem dels_ok : (pathsL.all fun p => commitB (changeS 6 p [] 0 ++ [10]) false == ([], false)) = true := by kernel_rfl
theorem copies_ok : (pathsL.all fun p => pathsL.all fun q => commitB (changeS 7 p q 0 ++ [10]) false == ([], false)) = true := by kernel_rfl
theorem moves_ok : (pathsL.all fun p => pathsL.all fun q => commitB (changeS 8 p q 0 ++ [10]) false == ([], false)) = true := by kernel_rfl
theorem all_ok : (commitB (changeS 9 [] [] 0 ++ [10]) false == ([], false)) = true := by kernel_rfl
theorem puts_ok : (pathsL.all fun p => (List.range 30).all fun d => commitB (changeS 0 p [] d ++ [10]) false == ([], false)) = true := by kernel_rfl

end Pu
end Go.Proofs.YtepgoppgblfjbaaGreatDoor
