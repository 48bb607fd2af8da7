/- Steps of a walk at whole arrays, and what the stream of ChaCha20 is: both together. -/
import Derived.Test.YthhaeiafgloacaaDoorCBase
import Derived.Test.YthhaeiafgloacaaDoorArm
