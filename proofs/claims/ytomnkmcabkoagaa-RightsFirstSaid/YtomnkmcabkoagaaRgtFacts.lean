/-
  Layer 16 (rights): the sample's answers, plain.
-/
import Derived.Test.YtomnkmcabkoagaaRgtSample
import Derived.Test.YtomnkmcabkoagaaRgtFewM
namespace Go.Proofs.Ytomnkmcabkoagaa.Rgt
open Go.Proofs.Ytomnkmcabkoagaa.Conf
def sWebs : Bs := [119, 101, 98, 115]
def sX : Bs := [120]
def sY : Bs := [121]
def sAnn : Bs := [97, 110, 110]
def sBob : Bs := [98, 111, 98]
def sWeb : Bs := [119, 101, 98]
def sWeb1 : Bs := [119, 101, 98, 49]
def sWeb2 : Bs := [119, 101, 98, 50]
def sDb : Bs := [100, 98]
theorem few_sample : Few sampleC 12 8 8 12 := ⟨by decide, by decide, by decide, by decide, by decide, by decide, by decide⟩
theorem f1 : grpM sampleC sWebs = ([0, 1], 0) := by kernel_rfl
theorem f2 : grpM sampleC sX = ([], 7) := by kernel_rfl
theorem f3 : pickM sampleC sAnn sWeb2 = (1, 0) := by kernel_rfl
theorem f4 : pickM sampleC sAnn sWeb = (-1, 8) := by kernel_rfl
theorem f5 : pickM sampleC sAnn sDb = (-1, 10) := by kernel_rfl
theorem f6 : pickM sampleC sBob sWeb1 = (-1, 10) := by kernel_rfl
theorem f7 : lvlM sampleC.accs sAnn sWeb1 = 2 := by kernel_rfl
theorem f8 : lvlM sampleC.accs sAnn sDb = 0 := by kernel_rfl
theorem f9 : lvlM sampleC.accs sBob sDb = 0 := by kernel_rfl
theorem f10 : seesM sampleC sAnn = [0, 1] := by kernel_rfl
theorem f11 : entM sampleC sAnn sX = 0 := by kernel_rfl
theorem f12 : entM sampleC sAnn sY = 10 := by kernel_rfl
theorem f13 : entM sampleC sBob sX = 7 := by kernel_rfl
end Go.Proofs.Ytomnkmcabkoagaa.Rgt
